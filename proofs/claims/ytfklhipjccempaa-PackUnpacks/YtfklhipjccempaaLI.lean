/- The program's numbers in groups of seven bits, read. -/
import Derived.Test.YtfklhipjccempaaLH
import Derived.Test.YtfklhipjccempaaLJ
namespace Go.Proofs.Ytfklhipjccempaa
open Go.RowKit Fl Ieee

set_option maxHeartbeats 800000 in
theorem progUnfolded {v : Nat} (hv : v < 18446744073709551616) (w : World) : Calls Try.prog 41 #[.int .u64 v] w fun r w' => r = .returned (.int .i64 (unfoldZ v)) ∧ w' = w := by
  obtain ⟨h, hh⟩ : ∃ h, h = v / 2 := ⟨_, rfl⟩
  have d1 : (v : Int).tdiv 2 = (h : Int) := by rw [Int.tdiv_eq_ediv_of_nonneg (by omega)]; omega
  have hl : h < 9223372036854775808 := by omega
  have n1 : IntKind.i64.wrap (h : Int) = (h : Int) := by rw [IntKind.wrap_i64]; omega
  by_cases par : v % 2 = 1
  · have m1 : (v : Int).tmod 2 = 1 := by rw [Int.tmod_eq_emod_of_nonneg (by omega)]; omega
    have eq : Hid (unfoldZ v = -(h : Int) - 1) := by
      show _ = _
      unfold unfoldZ
      rw [if_pos par, hh]
    have n2 : IntKind.i64.wrap (-(h : Int)) = -(h : Int) := by rw [IntKind.wrap_i64]; omega
    have n3 : IntKind.i64.wrap (-(h : Int) - 1) = -(h : Int) - 1 := by rw [IntKind.wrap_i64]; omega
    clear par hh
    go_enter Try.func41, Try.ntmps41
    go_wp2_with fail
    go_ret
    exact ⟨by rw [unhide eq]; rfl, rfl⟩
  · have m1 : (v : Int).tmod 2 = 0 := by rw [Int.tmod_eq_emod_of_nonneg (by omega)]; omega
    have eq : Hid (unfoldZ v = (h : Int)) := by
      show _ = _
      unfold unfoldZ
      rw [if_neg par, hh]
    clear par hh
    go_enter Try.func41, Try.ntmps41
    go_wp2_with fail
    go_ret
    exact ⟨by rw [unhide eq]; rfl, rfl⟩

/-- What k groups tell of the number whose groups open the bytes. -/
def GInv (K : List Nat) (k v : Nat) : Prop := ∀ x T, x < 34359738368 → K = lowL x ++ T → ∃ f y, x = v + y * 2 ^ (7 * k) ∧ v < 2 ^ (7 * k) ∧ K.drop k = lowF f y ++ T ∧ y < 2 ^ f
theorem ginv_start (K : List Nat) : GInv K 0 0 := fun x T hx hK => ⟨64, x, by simp, by simp, by rw [hK]; rfl, Nat.lt_of_lt_of_le hx (by decide)⟩
theorem low_ne (f y : Nat) : 1 ≤ (lowF f y).length := by
  match f with
  | 0 => unfold lowF; simp
  | f + 1 => unfold lowF; split <;> simp
theorem getD_drop0 (K : List Nat) (k : Nat) : K.getD k 0 = (K.drop k).getD 0 0 := by rw [List.getD_eq_getElem?_getD, List.getD_eq_getElem?_getD, List.getElem?_drop, Nat.add_zero]
/-- The number behind one group more. -/
def Joined (v r k u : Nat) : Prop := v < 2 ^ (7 * k) → r * 2 ^ (7 * k) < 18446744073709551616 → u = v + r * 2 ^ (7 * k)
theorem ginv_more {K : List Nat} {k v u : Nat} (h : GInv K k v) (hu : Joined v (K.getD k 0 % 128) k u) (hb : 128 ≤ K.getD k 0) : GInv K (k + 1) u := fun x T hx hK => by
  obtain ⟨f, y, e, hv, hd, hf⟩ := h x T hx hK
  have hg := getD_drop0 K k
  rw [hd] at hg
  by_cases c : y < 128
  · rw [lowF_end c] at hg
    have : K.getD k 0 = y := hg
    omega
  · match f, hf, hd, hg with
    | 0, hf, _, _ =>
      have : (2 : Nat) ^ 0 = 1 := rfl
      omega
    | f + 1, hf, hd, hg =>
      rw [lowF_step c] at hg hd
      have eb : K.getD k 0 = y % 128 + 128 := hg
      have er : K.getD k 0 % 128 = y % 128 := by omega
      rw [er] at hu
      have hyx : y * 2 ^ (7 * k) ≤ x := by omega
      have hle : y % 128 * 2 ^ (7 * k) ≤ y * 2 ^ (7 * k) := Nat.mul_le_mul_right _ (Nat.mod_le _ _)
      have eu := hu hv (by omega)
      have e7 : (2 : Nat) ^ 7 = 128 := by decide
      refine ⟨f, y / 128, ?_, ?_, ?_, ?_⟩
      · rw [show 7 * (k + 1) = 7 * k + 7 by omega, Nat.pow_add, e7, e, eu]
        have : y = y % 128 + y / 128 * 128 := by omega
        conv => lhs; rw [this, Nat.add_mul]
        rw [Nat.mul_comm (2 ^ (7 * k)) 128, ← Nat.mul_assoc]
        omega
      · rw [show 7 * (k + 1) = 7 * k + 7 by omega, Nat.pow_add, e7, eu]
        have h1 : y % 128 ≤ 127 := by omega
        have h2 := Nat.mul_le_mul_right (2 ^ (7 * k)) h1
        generalize y % 128 * 2 ^ (7 * k) = A at *
        generalize 2 ^ (7 * k) = B at *
        omega
      · have := congrArg (List.drop 1) hd
        rw [List.drop_drop] at this
        exact this
      · rw [Nat.pow_succ] at hf
        omega
theorem ginv_last {K : List Nat} {k v u : Nat} (h : GInv K k v) (hu : Joined v (K.getD k 0 % 128) k u) (hb : K.getD k 0 < 128) : ∀ x T, x < 34359738368 → K = lowL x ++ T → u = x ∧ K.drop (k + 1) = T := fun x T hx hK => by
  obtain ⟨f, y, e, hv, hd, hf⟩ := h x T hx hK
  have hg := getD_drop0 K k
  rw [hd] at hg
  by_cases c : y < 128
  · rw [lowF_end c] at hg hd
    have ey : K.getD k 0 = y := hg
    rw [ey, Nat.mod_eq_of_lt c] at hu
    have eu := hu hv (by omega)
    refine ⟨by omega, ?_⟩
    have := congrArg (List.drop 1) hd
    rw [List.drop_drop] at this
    exact this
  · match f, hf, hd, hg with
    | 0, hf, _, _ =>
      have : (2 : Nat) ^ 0 = 1 := rfl
      omega
    | f + 1, hf, hd, hg =>
      rw [lowF_step c] at hg
      have eb : K.getD k 0 = y % 128 + 128 := hg
      omega
theorem ginv_end {K : List Nat} {k v : Nat} (h : GInv K k v) (hk : K.length ≤ k) : ∀ x T, x < 34359738368 → K ≠ lowL x ++ T := fun x T hx hK => by
  obtain ⟨f, y, _, _, hd, _⟩ := h x T hx hK
  rw [List.drop_eq_nil_of_le hk] at hd
  have := congrArg List.length hd
  rw [List.length_append] at this
  have := low_ne f y
  simp at *
  omega

/-- The group that is joined, as the walk writes it. -/
theorem joined_bits (v r k : Nat) (hv : v < 18446744073709551616) (hr : r < 128) : ∃ u : Nat, bits .or .u64 (v : Int) (IntKind.u64.wrap ((r : Int) * 2 ^ min (7 * k) 64)) = (u : Int) ∧ u < 18446744073709551616 ∧ Joined v r k u := by
  obtain ⟨s, hs⟩ : ∃ s, s = r * 2 ^ min (7 * k) 64 % 18446744073709551616 := ⟨_, rfl⟩
  have e1 : IntKind.u64.wrap ((r : Int) * 2 ^ min (7 * k) 64) = (s : Int) := by rw [IntKind.wrap_u64, hs, Int.natCast_emod, Int.natCast_mul, Int.natCast_pow]; rfl
  have hsl : s < 18446744073709551616 := by rw [hs]; exact Nat.mod_lt _ (by decide)
  refine ⟨v ||| s, ?_, ?_, ?_⟩
  · rw [e1, u64_or _ _ (by omega) (by omega) (by omega) (by omega), Int.toNat_natCast, Int.toNat_natCast]
  · have := Nat.or_lt_two_pow (n := 64) (show v < 2 ^ 64 from hv) (show s < 2 ^ 64 from hsl)
    exact this
  · intro hv2 hr2
    by_cases hr0 : r = 0
    · subst hr0
      rw [hs]
      simp
    · have hk : 7 * k < 64 := by
        by_cases c : 7 * k < 64
        · exact c
        · have h1 : (2 : Nat) ^ 64 ≤ 2 ^ (7 * k) := Nat.pow_le_pow_right (by decide) (by omega)
          have h2 : 1 * 2 ^ (7 * k) ≤ r * 2 ^ (7 * k) := Nat.mul_le_mul_right _ (by omega)
          have h3 : (2 : Nat) ^ 64 = 18446744073709551616 := by decide
          omega
      have es : s = r * 2 ^ (7 * k) := by
        rw [hs, show min (7 * k) 64 = 7 * k by omega, Nat.mod_eq_of_lt hr2]
      rw [es, Nat.or_comm, nat_join (7 * k) _ v (Nat.mul_mod_left _ _) hv2, Nat.add_comm]

/-- What is told of bytes in groups. -/
def GrpPost (w : World) (a : Option Addr) (g o l c : Nat) (K : List Nat) (r : Ending) (w' : World) : Prop := (∃ (v k : Nat) (a' : Option Addr) (d : Nat), r = .returned (.tuple #[.int .u64 v, .slice a' (l - (k + 1)) (c - (k + 1)), .bool true]) ∧ v < 18446744073709551616 ∧ k < l ∧ (∀ W, BAt W a g o K → BAt W a' g (o + (k + 1)) (K.drop (k + 1))) ∧ (∀ x T, x < 34359738368 → K = lowL x ++ T → v = x ∧ K.drop (k + 1) = T) ∧ w' = w.drewN d) ∨
  (r = .returned (.tuple #[.int .u64 0, .slice none 0 0, .bool false]) ∧ (∀ x T, x < 34359738368 → K ≠ lowL x ++ T) ∧ w' = w)

set_option maxRecDepth 100000 in
set_option maxHeartbeats 6400000 in
theorem progGroups {a : Option Addr} {g o c l : Nat} {K : List Nat} (hl : l = K.length) (hc : l ≤ c) (hbig : l ≤ 140737488355328) (w : World) (h : BAt w a g o K) :
    Calls Try.prog 40 #[.slice a l c] w (GrpPost w a g o l c K) := by
  have H := hide h
  have HL := hide hl
  clear h hl
  go_enter Try.func40, Try.ntmps40
  go_wp2_with fail
  go_loopw [2, 9] (fun vv kv wr => ∃ k v : Nat, k ≤ l ∧ kv = .int .i64 k ∧ vv = .int .u64 v ∧ v < 18446744073709551616 ∧ Hid (GInv K k v) ∧ w = wr) (fun _ kv _ => l - (intOf kv).toNat)
  case atStart => exact ⟨0, 0, Nat.zero_le _, rfl, rfl, by decide, ginv_start K, rfl⟩
  case round =>
    obtain ⟨k, v, hk, rfl, rfl, hv, hG, rfl⟩ := hrel
    by_cases hkc : k < l
    · have q1 : ((k : Int) < (l : Int)) = True := by simp; omega
      obtain ⟨rfl, hg⟩ := (unhide H).at_ (by have := unhide HL; omega)
      have cc := (unhide H).cell k (by have := unhide HL; omega)
      have hb := (unhide H).lt k
      have R := hide (fun b hb (W : World) (hW : BAt W (some ⟨g, o, none⟩) g o K) => bat_rest (b := b) (p := k + 1) (c := c) hW (by have := unhide HL; omega) (by have := unhide HL; omega) hb)
      obtain ⟨r, hr⟩ : ∃ r, r = K.getD k 0 % 128 := ⟨_, rfl⟩
      have M1 : Hid (∀ u, Joined v r k u → 128 ≤ K.getD k 0 → GInv K (k + 1) u) := fun u hu hb => ginv_more (unhide hG) (by rw [← hr]; exact hu) hb
      have M2 : Hid (∀ u, Joined v r k u → K.getD k 0 < 128 → ∀ x T, x < 34359738368 → K = lowL x ++ T → u = x ∧ K.drop (k + 1) = T) := fun u hu hb => ginv_last (unhide hG) (by rw [← hr]; exact hu) hb
      have s1 : bits .andNot .u8 ((K.getD k 0 : Nat) : Int) 128 = (r : Int) := by
        have e : ∀ z : Fin 256, bits .andNot .u8 (z.val : Int) 128 = ((z.val % 128 : Nat) : Int) := by decide +kernel
        have := e ⟨K.getD k 0, hb⟩
        rw [hr]
        exact this
      have r128 : r < 128 := by omega
      clear hr hG
      generalize K.getD k 0 = z at *
      obtain ⟨u, su, ul, hj⟩ := joined_bits v r k hv r128
      have J := hide hj
      clear hj
      have n7 : IntKind.i64.wrap (7 * (k : Int)) = 7 * (k : Int) := by rw [IntKind.wrap_i64]; omega
      have n7' : (7 * (k : Int)).toNat = 7 * k := by omega
      have n8 : (0 : Int) ≤ 7 * (k : Int) := by omega
      by_cases hz : z < 128
      · have q3 : ((z : Int) < 128) = True := by simp; omega
        have F := hide (unhide M2 u (unhide J) hz)
        have n9 : (k : Int) + 1 ≤ (l : Int) := by omega
        have n10 : (0 : Int) ≤ (k : Int) + 1 := by omega
        clear M1 M2 J
        by_cases hce : c = k + 1
        · go_wp2_with fail
          go_quiet (fail)
          go_wp2_with fail
          go_ret3
          exact .inl ⟨u, k, _, _, by rw [show c - (k + 1) = 0 by omega]; rfl, ul, hkc, unhide R _ (by rw [if_pos hce]), unhide F, rfl⟩
        · have hce' : (c = k + 1) = False := by simp; omega
          go_wp2_with fail
          go_quiet (fail)
          go_wp2_with fail
          go_ret3
          exact .inl ⟨u, k, _, _, rfl, ul, hkc, unhide R _ (by rw [if_neg hce]), unhide F, rfl⟩
      · have q3 : ((z : Int) < 128) = False := by simp; omega
        have G2 := hide (unhide M1 u (unhide J) (by omega))
        clear M1 M2 J
        go_wp2_with fail
        exact ⟨⟨k + 1, u, hkc, by go_num, rfl, ul, G2, trivial⟩, by simp [intOf]; omega⟩
    · have q1 : ((k : Int) < (l : Int)) = False := by simp; omega
      have E := hide (ginv_end (unhide hG) (by have := unhide HL; omega))
      clear hG
      go_wp2_with fail
      go_ret3
      exact .inr ⟨rfl, unhide E, rfl⟩
end Go.Proofs.Ytfklhipjccempaa
