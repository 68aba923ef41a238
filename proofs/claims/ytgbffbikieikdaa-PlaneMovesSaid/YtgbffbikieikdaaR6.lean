/- One butterfly. -/
import Derived.Test.YtgbffbikieikdaaR5
import Derived.Deep.RegionWith
namespace Go.Proofs.Ytgbffbikieikdaa
open Go.RowKit
attribute [local go_sem] store_complex

set_option maxHeartbeats 1600000 in
theorem butterflyAny {t e o : Nat × Nat} (h : Fly t e o) (w : World) :
    Calls Try.prog 44 #[.agg #[.complex .f64 e.1 e.2, .complex .f64 o.1 o.2], .complex .f64 t.1 t.2] w fun r w' =>
      r = .returned (.agg #[.complex .f64 (addC e (mulC t o)).1 (addC e (mulC t o)).2, .complex .f64 (subC e (mulC t o)).1 (subC e (mulC t o)).2]) ∧ Below w.heap.size w w' := by
  have hm := hide (mul45 h.mul)
  have ha := hide (addAny h.add)
  have hs := hide (subAny h.sub)
  clear h
  generalize addC e (mulC t o) = p at ha ⊢
  generalize subC e (mulC t o) = q at hs ⊢
  generalize mulC t o = m at hm ha hs
  obtain ⟨t1, t2⟩ := t
  obtain ⟨e1, e2⟩ := e
  obtain ⟨o1, o2⟩ := o
  obtain ⟨p1, p2⟩ := p
  obtain ⟨q1, q2⟩ := q
  obtain ⟨m1, m2⟩ := m
  go_enter Try.func44, Try.ntmps44
  go_wp2_with (first | (go_at_call 49; refine (unhide hm _).mono ?_; rintro e w' ⟨rfl, rfl⟩))
  go_region_with (first | (go_at_call 50; refine (unhide ha _).mono ?_; rintro e w' ⟨rfl, rfl⟩) | (go_at_call 51; refine (unhide hs _).mono ?_; rintro e w' ⟨rfl, rfl⟩))
  all_goals go_wp2_with fail
  all_goals refine bodyPost_ret (results_cell_row (P := Try.prog) rfl _ _ (w.heap.size + 1) 67 _ (0, 0) _ rfl (heap_alloc2_new w _ _) Try.underlying67 rfl (by kernel_rfl)) rfl ?_
  all_goals exact ⟨rfl, (((Below.refl _ _).alloc (Nat.le_refl _) _).alloc (by simp) _).drew⟩
end Go.Proofs.Ytgbffbikieikdaa
