/- How a kind weighs: the calls of what weighs. -/
import Derived.Test.YthiipodgfbnpeaaDoorFU
import Derived.Test.YthiipodgfbnpeaaDoorFNB
import Derived.Deep.QuietTactic
import Derived.BigQuiet
namespace Go.Proofs.YthiipodgfbnpeaaDoor
open Go.RowKit

set_option maxHeartbeats 400000 in
theorem flat_at (s k : Nat) (W : World) : Calls Tryd.prog 24 #[.int .i64 k] W fun r w' => r = .returned (wV 1 s k) ∧ w' = W := by
  go_enter Tryd.func24, Tryd.ntmps24
  go_wp2_with fail
  go_ret
  exact ⟨rfl, rfl⟩

set_option maxHeartbeats 1600000 in
theorem ramp_at {n s k b : Nat} (h : Ord n s) (hkn : k < n) (W : World) (hc : W.cell? ⟨b, 0, none⟩ = some (.int .i64 n)) :
    Calls Tryd.prog 25 #[.int .i64 k, .pointer (some ⟨b, 0, none⟩)] W fun r w' => r = .returned (wV 2 s k) ∧ w' = W := by
  obtain ⟨hn2, hn1⟩ := ord_le h
  obtain ⟨e1, e2⟩ := less_ok h hkn
  have hr := ramp_ok h e2
  rw [e1] at hr
  have hv : Hid (wV 2 s k = .float .f64 (rT (lessT (k * s)))) := rfl
  have n3 : IntKind.i64.wrap ((n : Int) - (k : Int)) = ((n - k : Nat) : Int) := by rw [IntKind.wrap_i64]; omega
  generalize rT (lessT (k * s)) = X2 at *
  have hh : (n - k < k ∧ floatBits .quo .f64 (floatOfInt .f64 ((n - k : Nat) : Int)) (floatOfInt .f64 (n : Int)) = some X2) ∨ (¬ n - k < k ∧ floatBits .quo .f64 (floatOfInt .f64 (k : Int)) (floatOfInt .f64 (n : Int)) = some X2) := by
    by_cases c0 : n - k < k
    · rw [Nat.min_eq_right (by omega)] at hr
      exact Or.inl ⟨c0, hr⟩
    · rw [Nat.min_eq_left (by omega)] at hr
      exact Or.inr ⟨c0, hr⟩
  clear hr e1 e2 h
  rcases hh with ⟨c0, hr⟩ | ⟨c0, hr⟩
  all_goals
    have kr := fun (W : World) t => run_float_arith (P := Tryd.prog) W .quo t .f64 _ _ _ hr
    clear hr
    go_enter Tryd.func25, Tryd.ntmps25
    go_wp2_with fail
    go_ret
    exact ⟨congrArg Ending.returned (unhide hv).symm, rfl⟩

theorem cell_drewN (W : World) (m : Nat) (p : Addr) : (W.drewN m).cell? p = W.cell? p := by simp

set_option maxHeartbeats 3200000 in
theorem soft_at {n s k b gt : Nat} (h : Ord n s) (hkn : k < n) (W : World) (hB : Boxes W b (.slice (some ⟨gt, 0, none⟩) n n) n) (hT : Tab W gt n s n) :
    Calls Tryd.prog 26 #[.int .i64 k, .pointer (some ⟨b + 1 + 1, 0, none⟩), .pointer (some ⟨b, 0, none⟩)] W fun r w' => r = .returned (wV 3 s k) ∧ ∃ m, w' = W.drewN m := by
  have hms := ord_mul h
  have hs0 : 0 < s := by
    rcases Nat.eq_zero_or_pos s with h | h
    · rw [h] at hms; omega
    · exact h
  have hKs : k * s < 4096 := by rw [← hms]; exact Nat.mul_lt_mul_of_pos_right hkn hs0
  obtain ⟨c1, c2, c3, _⟩ := hB
  have kR := hide (fun m => ramp_at h hkn (W.drewN m) ((cell_drewN W m _).trans c2))
  unfold rampV pt at c3
  have hcl := tab_cell hT (Nat.le_refl _) hkn
  unfold val at hcl
  obtain ⟨fa, fb, h1, h2, h3⟩ := soft_parts hKs
  have hv : Hid (wV 3 s k = .float .f64 (wT 3 (k * s))) := rfl
  have hv2 : wV 2 s k = .float .f64 (rT (lessT (k * s))) := rfl
  rw [hv2] at kR
  have q1 : ((k : Int) < (n : Int)) = True := by simp; omega
  generalize (full (k * s)).1 = x1 at *
  generalize (full (k * s)).2 = x2 at *
  generalize wT 3 (k * s) = X3 at *
  generalize rT (lessT (k * s)) = X2 at *
  unfold oneB at h1
  unfold halfOne at h2
  have ka := fun (W : World) t => run_float_arith (P := Tryd.prog) W .add t .f64 _ _ _ h1
  have kb := fun (W : World) t => run_float_arith (P := Tryd.prog) W .mul t .f64 _ _ _ h2
  have kc := fun (W : World) t => run_float_arith (P := Tryd.prog) W .mul t .f64 _ _ _ h3
  clear h1 h2 h3 hv2 hT h c2 hKs hms hs0
  go_enter Tryd.func26, Tryd.ntmps26
  go_wp2_with fail
  go_quiet (first | (go_at_call 25; refine Calls.quiet_of_same (unhide kR _)))
  go_wp2_with fail
  go_ret
  exact ⟨congrArg Ending.returned (unhide hv).symm, nq, rfl⟩
end Go.Proofs.YthiipodgfbnpeaaDoor
