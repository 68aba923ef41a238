/- The program's numbers in groups of seven bits, written. -/
import Derived.Test.YtpmbgjoilfdkaaaM4
namespace Go.Proofs.Ytpmbgjoilfdkaaa
open Go.RowKit

theorem or_top (y : Nat) : (y % 256) ||| 128 = y % 128 + 128 := by
  have e : ∀ z : Fin 256, z.val ||| 128 = z.val % 128 + 128 := by decide +kernel
  have := e ⟨y % 256, by omega⟩
  have h2 : y % 256 % 128 = y % 128 := by omega
  rw [← h2]
  exact this

set_option maxRecDepth 100000 in
set_option maxHeartbeats 400000 in
theorem progFolded (d : Int) (h : d.natAbs < 2 ^ 60) (w : World) : Calls Try.prog 73 #[.int .i64 d] w fun r w' => r = .returned (.int .u64 (foldZ d)) ∧ w' = w := by
  have hp : (2 : Nat) ^ 60 = 1152921504606846976 := by decide
  rw [hp] at h
  by_cases c : 0 ≤ d
  · have e : Hid (((foldZ d : Nat) : Int) = 2 * d) := by
      show _ = _
      unfold foldZ
      rw [if_pos c]
      omega
    have n1 : IntKind.i64.wrap (2 * d) = 2 * d := by rw [IntKind.wrap_i64]; omega
    have n2 : IntKind.u64.wrap (2 * d) = 2 * d := by rw [IntKind.wrap_u64]; omega
    go_enter Try.func73, Try.ntmps73
    go_wp2_with fail
    go_ret
    exact ⟨by rw [unhide e]; rfl, rfl⟩
  · have e : Hid (((foldZ d : Nat) : Int) = -2 * d - 1) := by
      show _ = _
      unfold foldZ
      rw [if_neg c]
      omega
    have n1 : IntKind.i64.wrap (-2 * d) = -2 * d := by rw [IntKind.wrap_i64]; omega
    have n3 : IntKind.i64.wrap (-2 * d - 1) = -2 * d - 1 := by rw [IntKind.wrap_i64]; omega
    have n2 : IntKind.u64.wrap (-2 * d - 1) = -2 * d - 1 := by rw [IntKind.wrap_u64]; omega
    go_enter Try.func73, Try.ntmps73
    go_wp2_with fail
    go_ret
    exact ⟨by rw [unhide e]; rfl, rfl⟩

set_option maxRecDepth 100000 in
set_option maxHeartbeats 1600000 in
theorem progLow {B m x : Nat} {v : Value} {xs : List Nat} (hm : m ≤ 1000000) (hx : x < 2 ^ 64) (w : World) (hB : B ≤ w.heap.size) (hOw : w.ownsRow B 5 1 v m (bL xs)) :
    Calls Try.prog 72 #[v, .int .u64 x] w fun r w' => ∃ v', r = .returned v' ∧ w'.ownsRow B 5 1 v' (m + (lowL x).length) (bL (xs ++ lowL x)) ∧ Below B w w' := by
  obtain ⟨i0, hi0, hz0, hz1, hz2⟩ := info_parts infoB
  have HO := hide hOw
  have HB := hide hB
  clear hOw hB
  go_enter Try.func72, Try.ntmps72
  go_wp2_with fail
  go_loopw [0, 1] (fun bv vv wr => ∃ (f y : Nat) (ds : List Nat), vv = .int .u64 y ∧ Hid (y < 2 ^ f) ∧ Hid (lowL x = ds ++ lowF f y) ∧ f ≤ 64 ∧ ds.length + f = 64 ∧ Hid (wr.ownsRow B 5 1 bv (m + ds.length) (bL (xs ++ ds))) ∧ Hid (Below B w wr)) (fun _ vv _ => (intOf vv).toNat)
  case atStart => exact ⟨64, x, [], rfl, hx, rfl, by decide, rfl, by rw [List.append_nil]; exact HO, Below.refl _ _⟩
  case round =>
    obtain ⟨f, y, ds, rfl, hy, hl, hf, hd, hO, hBe⟩ := hrel
    have hBs : B ≤ wr.heap.size := Nat.le_trans (unhide HB) (unhide hBe).size
    by_cases c : y < 128
    · have q1 : ((128 : Int) ≤ (y : Int)) = False := by simp; omega
      have e1 : Hid (lowL x = ds ++ [y]) := by
        show _ = _
        rw [unhide hl, lowF_end c]
      clear hl hy
      go_wp2_with (first
        | (at_builtin; refine wpList_append_own _ rfl (.tmp 15) (.tmp 18) 22 rfl B 5 i0 (.int .u8 0) 1 1 Try.underlying22 hi0 hz0 hz1 hz2 rfl (by decide) _ _ _ rfl ((unhide hO).alloc _) ⟨wr.heap.size, 0, none⟩ 1 1 [.int .u8 (y : Int)] rfl rfl (one_newB _ _ _) ?c2 ?c3 ?c4 ?c5 ?_))
      case c2 => intro u hu; simp at hu; subst hu; rfl
      case c3 => unfold maxLen; omega
      case c4 => omega
      case c5 => simp; omega
      intro v' w2 hown' hgrow _
      have hB3 : Hid (Below B w w2) := ((unhide hBe).alloc hBs _).grown hgrow (by simp; omega) (fun k hk => ((unhide hO).lt k hk).1)
      have hO3 : Hid (w2.ownsRow B 5 1 v' (m + (lowL x).length) (bL (xs ++ lowL x))) := by
        rw [unhide e1, ← List.append_assoc, bL_snoc, List.length_append]
        exact hown'
      clear hown' hgrow
      go_wp2_with fail
      go_ret
      exact ⟨_, rfl, unhide hO3, unhide hB3⟩
    · have q1 : ((128 : Int) ≤ (y : Int)) = True := by simp; omega
      have hy64 : y < 18446744073709551616 := Nat.lt_of_lt_of_le (unhide hy) (Nat.le_trans (Nat.pow_le_pow_right (by decide) hf) (by decide))
      obtain ⟨r, hr⟩ : ∃ r, r = y % 256 := ⟨_, rfl⟩
      obtain ⟨o, ho⟩ : ∃ o, o = y % 128 + 128 := ⟨_, rfl⟩
      obtain ⟨z, hz⟩ : ∃ z, z = y / 128 := ⟨_, rfl⟩
      have b1 : (y : Int) % 256 = (r : Int) := by omega
      have b2 : bits .or .u8 (r : Int) 128 = (o : Int) := by
        rw [u8_or _ _ (by omega) (by omega) (by decide) (by decide), ho, hr]
        congr 1
        exact or_top y
      have b3 : (o : Int) % 256 = (o : Int) := by omega
      have b4 : (y : Int) / 128 = (z : Int) := by omega
      have zy : z < y := by omega
      have hf1 : ∃ f', f = f' + 1 := by
        match f, hy with
        | 0, hy => exact absurd (unhide hy) (by simp; omega)
        | f' + 1, _ => exact ⟨f', rfl⟩
      obtain ⟨f', rfl⟩ := hf1
      have e1 : Hid (lowL x = (ds ++ [o]) ++ lowF f' z) := by
        show _ = _
        rw [unhide hl, lowF_step c, List.append_assoc, ← ho, ← hz]
        rfl
      have hy2 : Hid (z < 2 ^ f') := by
        have h1 := unhide hy
        rw [Nat.pow_succ] at h1
        show z < _
        omega
      clear hl hy hr ho hz
      go_wp2_with (first
        | (at_builtin; refine wpList_append_own _ rfl (.tmp 9) (.tmp 13) 22 rfl B 5 i0 (.int .u8 0) 1 1 Try.underlying22 hi0 hz0 hz1 hz2 rfl (by decide) _ _ _ rfl ((unhide hO).alloc _) ⟨wr.heap.size, 0, none⟩ 1 1 [.int .u8 (o : Int)] rfl rfl (one_newB _ _ _) ?c2 ?c3 ?c4 ?c5 ?_))
      case c2 => intro u hu; simp at hu; subst hu; rfl
      case c3 => unfold maxLen; omega
      case c4 => omega
      case c5 => simp; omega
      intro v' w2 hown' hgrow _
      have hB3 : Hid (Below B w w2) := ((unhide hBe).alloc hBs _).grown hgrow (by simp; omega) (fun k hk => ((unhide hO).lt k hk).1)
      have hO3 : Hid (w2.ownsRow B 5 1 v' (m + (ds ++ [o]).length) (bL (xs ++ (ds ++ [o])))) := by
        rw [← List.append_assoc, bL_snoc, List.length_append]
        exact hown'
      clear hown' hgrow
      go_wp2_with fail
      go_roundw
      case rel => exact ⟨f', z, ds ++ [o], by go_num, hy2, e1, by omega, by rw [List.length_append]; simp; omega, hO3, hB3⟩
      case measure => simp [intOf]; omega
end Go.Proofs.Ytpmbgjoilfdkaaa
