/- Whole numbers: what cx.Whole tells; a sound grid. -/
import Derived.Test.YthbghcebcahlnaaYR
namespace Go.Proofs.Ythbghcebcahlnaa
open Go.RowKit

theorem arch31 (b : Nat) (s : Bool) (m : Nat) (p : Int) (h : FloatKind.f64.decode b = .number s m p) (w : World) :
    (callFunc 95 #[.float .f64 b]).run (barP Try.prog) w = .ok (.value (.float .f64 (FloatKind.f64.encode ((FloatKind.f64.decode b).integral .zero)))) w := by
  rw [run_callFunc_extern (e := Extern.MathFloor.toIntegral "math.archTrunc" .zero) Bar.func95 (by kernel_rfl) (by kernel_rfl) (by kernel_rfl) (by kernel_rfl)]
  have key : (Extern.MathFloor.toIntegral "math.archTrunc" .zero #[.float .f64 b]).run (barP Try.prog) w = .ok (.float .f64 (FloatKind.f64.encode ((FloatKind.f64.decode b).integral .zero))) w := by
    unfold Extern.MathFloor.toIntegral
    unfold Extern.MathFloor.toIntegral.match_2
    rw [dif_pos (by rfl)]
    dsimp only [Extern.MathFloor.toIntegral._sparseCasesOn_2, Extern.MathFloor.toIntegral._sparseCasesOn_3, Array.getLit, List.getElem_toArray, List.getElem_cons_zero]
    rw [h]
    rfl
  rw [key]
  rfl

theorem andNot63 (b : Nat) (hb : b < 18446744073709551616) : (bits .andNot .u64 (b : Int) 9223372036854775808).toNat = b % 9223372036854775808 := by
  rw [u64_andNot (b : Int) 9223372036854775808 (by omega) (by omega) (by omega) (by omega), Int.toNat_natCast, Int.toNat_natCast]
  exact Nat.and_two_pow_sub_one_eq_mod b 63

set_option maxHeartbeats 400000 in
theorem abs_any (b : Nat) (w : World) (hb : b < 18446744073709551616) :
    Calls (barP Try.prog) 91 #[.float .f64 b] w fun e w' => e = .returned (.float .f64 (b % 9223372036854775808)) ∧ w' = w := by
  have k1 := bits32
  have k2 := from31
  go_enter Bar.func91, Bar.ntmps91
  go_wp2
  go_ret
  exact ⟨by rw [andNot63 b hb]; rfl, rfl⟩

set_option maxHeartbeats 400000 in
theorem trunc_any (b : Nat) (s : Bool) (m : Nat) (p : Int) (h : FloatKind.f64.decode b = .number s m p) (w : World) :
    Calls (barP Try.prog) 92 #[.float .f64 b] w fun e w' => e = .returned (.float .f64 (FloatKind.f64.encode ((FloatKind.f64.decode b).integral .zero))) ∧ w' = w := by
  have k := arch31 b s m p h
  clear h
  go_enter Bar.func92, Bar.ntmps92
  go_wp2
  go_ret
  exact ⟨rfl, rfl⟩

set_option maxHeartbeats 400000 in
theorem signbit_any (b : Nat) (hb : b = 0) (w : World) :
    Calls (barP Try.prog) 90 #[.float .f64 b] w fun e w' => e = .returned (.bool false) ∧ w' = w := by
  subst hb
  have k1 := bits32
  go_enter Bar.func90, Bar.ntmps90
  go_wp2
  go_ret
  exact ⟨rfl, rfl⟩

theorem gt0 {b : Nat} {n : Int} (hv : Fl.IV b n) (h : n ≠ 0) : (FloatKind.f64.format.order b 0 == some .eq) = false := by
  rw [show FloatKind.f64.format.order b 0 = _ from Fl.iv_order hv Fl.iv_zero, beq_eq_false_iff_ne]
  intro c
  exact h (Int.compare_eq_eq.1 (Option.some.inj c))

theorem eq0 {b : Nat} (hv : Fl.IV b 0) : (FloatKind.f64.format.order b 0 == some .eq) = true := by
  rw [show FloatKind.f64.format.order b 0 = _ from Fl.iv_order hv Fl.iv_zero]
  rfl

set_option maxHeartbeats 400000 in
theorem wholePart_any (b : Nat) (n most : Int) (w : World) (hb : b < 18446744073709551616) (hv : Fl.IV b n) (h0 : n = 0 → b = 0) (hn : n.natAbs ≤ most) (hm : most ≤ 9007199254740991) :
    Calls (barP Try.prog) 87 #[.float .f64 b, .int .i64 most] w fun e w' => e = .returned (.bool true) ∧ w' = w := by
  have ha := Fl.iv_abs hv
  have hlt : (FloatKind.f64.format.order (b % 9223372036854775808) 4890909195324358656 == some .lt) = true := by
    rw [show FloatKind.f64.format.order (b % 9223372036854775808) 4890909195324358656 = _ from Fl.iv_order ha Fl.iv_bound63,
      show compare (n.natAbs : Int) 9223372036854775808 = .lt from Int.compare_eq_lt.2 (by omega)]
    rfl
  have hs : n.natAbs < 2 ^ 53 := by omega
  have ht := Fl.iv_trunc ha (by rw [Int.natAbs_natCast]; exact hs)
  have hi := Fl.iv_toInt ha
  obtain ⟨q, hq, s, m, k, hd, _⟩ := ha
  have hne : (FloatKind.f64.format.order (FloatKind.f64.encode ((FloatKind.f64.decode (b % 9223372036854775808)).integral .zero)) (b % 9223372036854775808) != some .eq) = false := by
    rw [show FloatKind.f64.format.order _ (b % 9223372036854775808) = _ from Fl.iv_order ht (Fl.iv_abs hv)]
    simp
  have hc : floatToIntVal .f64 (b % 9223372036854775808) .i64 = some (n.natAbs : Int) := by
    unfold floatToIntVal
    rw [hi]
    dsimp only
    rw [if_pos ⟨by show -9223372036854775808 ≤ _; omega, by show _ ≤ 9223372036854775807; omega⟩]
  have hcv := fun (w : World) => run_convert_float_int (P := (barP Try.prog)) w 38 2 .f64 .i64 (b % 9223372036854775808) n.natAbs (by kernel_rfl) (by kernel_rfl) hc
  have hd' : FloatKind.f64.decode (b % 9223372036854775808) = .number s m (-1074 + (k : Int)) := hd
  have htr := trunc_any _ _ _ _ hd'
  clear hd hd' hc hi ht hs hq
  generalize FloatKind.f64.encode ((FloatKind.f64.decode (b % 9223372036854775808)).integral .zero) = T at *
  have hab := fun w => abs_any b w hb
  generalize b % 9223372036854775808 = B at *
  by_cases hz : n = 0
  · have hsb := fun w => signbit_any b (h0 hz) w
    have ho : (FloatKind.f64.format.order b 0 == some .eq) = true := by
      rw [h0 hz]; rfl
    have hA := hide hab
    have hT := hide htr
    have hS := hide hsb
    clear hab htr hsb hz h0
    go_enter Bar.func87, Bar.ntmps87
    go_wp2_with (first | (go_at_call 90; refine (unhide hS _).mono ?_; rintro e w' ⟨rfl, rfl⟩) | (go_at_call 91; refine (unhide hA _).mono ?_; rintro e w' ⟨rfl, rfl⟩) | (go_at_call 92; refine (unhide hT _).mono ?_; rintro e w' ⟨rfl, rfl⟩))
    go_ret
    exact ⟨rfl, rfl⟩
  · have ho := gt0 hv hz
    have hA := hide hab
    have hT := hide htr
    clear hab htr hz h0
    go_enter Bar.func87, Bar.ntmps87
    go_wp2_with (first | (go_at_call 91; refine (unhide hA _).mono ?_; rintro e w' ⟨rfl, rfl⟩) | (go_at_call 92; refine (unhide hT _).mono ?_; rintro e w' ⟨rfl, rfl⟩))
    go_ret
    exact ⟨rfl, rfl⟩

set_option maxHeartbeats 400000 in
theorem whole_any (a b : Nat) (n k most : Int) (w : World) (ha : a < 18446744073709551616) (hv : Fl.IV a n) (h0 : n = 0 → a = 0) (hn : n.natAbs ≤ most)
    (hb : b < 18446744073709551616) (hv' : Fl.IV b k) (h0' : k = 0 → b = 0) (hn' : k.natAbs ≤ most) (hm : most ≤ 9007199254740991) :
    Calls (barP Try.prog) 70 #[.complex .f64 a b, .int .i64 most] w fun e w' => e = .returned (.bool true) ∧ w' = w := by
  have h1 := hide fun w => wholePart_any a n most w ha hv h0 hn hm
  have h2 := hide fun w => wholePart_any b k most w hb hv' h0' hn' hm
  clear hv hv' h0 h0' hn hn' ha hb hm
  go_enter Bar.func70, Bar.ntmps70
  go_wp2_with fail
  refine (unhide h1 _).mono ?_
  rintro e w' ⟨rfl, rfl⟩
  go_wp2_with fail
  refine (unhide h2 _).mono ?_
  rintro e w' ⟨rfl, rfl⟩
  go_wp2_with fail
  go_ret
  exact ⟨rfl, rfl⟩

set_option maxHeartbeats 400000 in
theorem valueAny {b : Nat × Nat} {z : Int × Int} {m : Nat} (h : Cell b z m) (hm : m ≤ 1048576) (w : World) :
    Calls (barP Try.prog) 39 #[cv b] w fun e w' => e = .returned (.bool true) ∧ w' = w := by
  have k := hide fun w => whole_any b.1 b.2 z.1 z.2 1048576 w h.lt1 h.ic.one h.z1 (by have := h.le1; omega) h.lt2 h.ic.two h.z2 (by have := h.le2; omega) (by decide)
  unfold cv
  clear h hm
  go_enter Bar.func39, Bar.ntmps39
  go_wp2_with fail
  refine (unhide k _).mono ?_
  rintro e w' ⟨rfl, rfl⟩
  go_wp2_with fail
  go_ret
  exact ⟨rfl, rfl⟩
end Go.Proofs.Ythbghcebcahlnaa
