/- The program's words of bytes, written. -/
import Derived.Test.YtpmbgjoilfdkaaaLD0
import Derived.Test.YtpmbgjoilfdkaaaM4
namespace Go.Proofs.Ytpmbgjoilfdkaaa
open Go.RowKit Fl Ieee

set_option maxRecDepth 100000 in
set_option maxHeartbeats 1600000 in
theorem write64 {B m x : Nat} {v : Value} {xs : List Nat} (hm : m ≤ 1000000) (w : World) (hB : B ≤ w.heap.size) (hOw : w.ownsRow B 5 1 v m (bL xs)) :
    Calls Try.prog 74 #[v, .int .u64 x] w fun r w' => ∃ v', r = .returned v' ∧ w'.ownsRow B 5 1 v' (m + 8) (bL (xs ++ highL x 8)) ∧ Below B w w' := by
  obtain ⟨i0, hi0, hz0, hz1, hz2⟩ := info_parts infoB
  have HO := hide hOw
  have HB := hide hB
  have k := hide bytesOf64
  clear hOw hB
  go_enter Try.func74, Try.ntmps74
  go_wp2_with fail
  refine (unhide k _).mono ?_
  rintro e w' ⟨rfl, hw⟩
  obtain rfl := hw.symm
  go_wp2_with fail
  go_loopw [0, 5] (fun bv iv wr => ∃ j : Nat, j ≤ 8 ∧ iv = .int .i64 ((8 : Int) - 1 - j) ∧ Hid (wr.ownsRow B 5 1 bv (m + j) (bL (xs ++ (highL x 8).take j))) ∧ Hid (Below B w wr)) (fun _ iv _ => (intOf iv + 1).toNat)
  case atStart => exact ⟨0, Nat.zero_le _, by simp, by rw [List.take_zero, List.append_nil]; exact HO, Below.refl _ _⟩
  case round =>
    obtain ⟨j, hj, rfl, hO, hBe⟩ := hrel
    by_cases c : j < 8
    · have q1 : ((0 : Int) ≤ (8 : Int) - 1 - (j : Int)) = True := by simp; omega
      have hBs : B ≤ wr.heap.size := Nat.le_trans (unhide HB) (unhide hBe).size
      go_wp2_with (first
        | (at_builtin; refine wpList_append_own _ rfl (.tmp 12) (.tmp 18) 22 rfl B 5 i0 (.int .u8 0) 1 1 Try.underlying22 hi0 hz0 hz1 hz2 rfl (by decide) _ _ _ rfl ((unhide hO).alloc _) ⟨wr.heap.size, 0, none⟩ 1 1 [.int .u8 ((x : Int) / 2 ^ (8 * (8 - 1 - j)) % 256)] rfl rfl (one_newB _ _ _) ?c2 ?c3 ?c4 ?c5 ?_))
      case c2 => intro u hu; simp at hu; subst hu; rfl
      case c3 => unfold maxLen; omega
      case c4 => omega
      case c5 => simp; omega
      intro v' w2 hown' hgrow _
      have hB3 : Hid (Below B w w2) := ((unhide hBe).alloc hBs _).grown hgrow (by simp; omega) (fun k hk => ((unhide hO).lt k hk).1)
      have hO3 : Hid (w2.ownsRow B 5 1 v' (m + (j + 1)) (bL (xs ++ (highL x 8).take (j + 1)))) := by
        rw [highL_take c, ← List.append_assoc, bL_snoc]
        unfold bV
        rw [← byte_int]
        exact hown'
      clear hown' hgrow
      go_wp2_with fail
      go_roundw
      case rel => exact ⟨j + 1, c, by go_num, hO3, hB3⟩
      case measure => simp [intOf]; omega
    · have q1 : ((0 : Int) ≤ (8 : Int) - 1 - (j : Int)) = False := by simp; omega
      have e : j = 8 := by omega
      have hf : Hid (wr.ownsRow B 5 1 u0 (m + 8) (bL (xs ++ highL x 8))) := by
        have := unhide hO
        rw [e, List.take_of_length_le (by rw [highL_len]; exact Nat.le_refl _)] at this
        exact this
      clear e hO
      go_wp2_with fail
      go_ret
      exact ⟨_, rfl, unhide hf, unhide hBe⟩
set_option maxRecDepth 100000 in
set_option maxHeartbeats 1600000 in
theorem write32 {B m x : Nat} {v : Value} {xs : List Nat} (hm : m ≤ 1000000) (w : World) (hB : B ≤ w.heap.size) (hOw : w.ownsRow B 5 1 v m (bL xs)) :
    Calls Try.prog 70 #[v, .int .u32 x] w fun r w' => ∃ v', r = .returned v' ∧ w'.ownsRow B 5 1 v' (m + 4) (bL (xs ++ highL x 4)) ∧ Below B w w' := by
  obtain ⟨i0, hi0, hz0, hz1, hz2⟩ := info_parts infoB
  have HO := hide hOw
  have HB := hide hB
  have k := hide bytesOf32
  clear hOw hB
  go_enter Try.func70, Try.ntmps70
  go_wp2_with fail
  refine (unhide k _).mono ?_
  rintro e w' ⟨rfl, hw⟩
  obtain rfl := hw.symm
  go_wp2_with fail
  go_loopw [0, 5] (fun bv iv wr => ∃ j : Nat, j ≤ 4 ∧ iv = .int .i64 ((4 : Int) - 1 - j) ∧ Hid (wr.ownsRow B 5 1 bv (m + j) (bL (xs ++ (highL x 4).take j))) ∧ Hid (Below B w wr)) (fun _ iv _ => (intOf iv + 1).toNat)
  case atStart => exact ⟨0, Nat.zero_le _, by simp, by rw [List.take_zero, List.append_nil]; exact HO, Below.refl _ _⟩
  case round =>
    obtain ⟨j, hj, rfl, hO, hBe⟩ := hrel
    by_cases c : j < 4
    · have q1 : ((0 : Int) ≤ (4 : Int) - 1 - (j : Int)) = True := by simp; omega
      have hBs : B ≤ wr.heap.size := Nat.le_trans (unhide HB) (unhide hBe).size
      go_wp2_with (first
        | (at_builtin; refine wpList_append_own _ rfl (.tmp 12) (.tmp 18) 22 rfl B 5 i0 (.int .u8 0) 1 1 Try.underlying22 hi0 hz0 hz1 hz2 rfl (by decide) _ _ _ rfl ((unhide hO).alloc _) ⟨wr.heap.size, 0, none⟩ 1 1 [.int .u8 ((x : Int) / 2 ^ (8 * (4 - 1 - j)) % 256)] rfl rfl (one_newB _ _ _) ?c2 ?c3 ?c4 ?c5 ?_))
      case c2 => intro u hu; simp at hu; subst hu; rfl
      case c3 => unfold maxLen; omega
      case c4 => omega
      case c5 => simp; omega
      intro v' w2 hown' hgrow _
      have hB3 : Hid (Below B w w2) := ((unhide hBe).alloc hBs _).grown hgrow (by simp; omega) (fun k hk => ((unhide hO).lt k hk).1)
      have hO3 : Hid (w2.ownsRow B 5 1 v' (m + (j + 1)) (bL (xs ++ (highL x 4).take (j + 1)))) := by
        rw [highL_take c, ← List.append_assoc, bL_snoc]
        unfold bV
        rw [← byte_int]
        exact hown'
      clear hown' hgrow
      go_wp2_with fail
      go_roundw
      case rel => exact ⟨j + 1, c, by go_num, hO3, hB3⟩
      case measure => simp [intOf]; omega
    · have q1 : ((0 : Int) ≤ (4 : Int) - 1 - (j : Int)) = False := by simp; omega
      have e : j = 4 := by omega
      have hf : Hid (wr.ownsRow B 5 1 u0 (m + 4) (bL (xs ++ highL x 4))) := by
        have := unhide hO
        rw [e, List.take_of_length_le (by rw [highL_len]; exact Nat.le_refl _)] at this
        exact this
      clear e hO
      go_wp2_with fail
      go_ret
      exact ⟨_, rfl, unhide hf, unhide hBe⟩
end Go.Proofs.Ytpmbgjoilfdkaaa
