/- The fixed fact of layer 19 holds of the landed package. -/
import Derived.Test.YthbghcebcahlnaaBX
namespace Go.Proofs.Ythbghcebcahlnaa
open Go.RowKit Go.Shelf

/-- The two projections as the law lays them. -/
def l3 (w : World) : World := ((w.alloc (.cells #[.complex .f64 4643176031446892544 0, .complex .f64 0 0] 39)).alloc (.cells #[.complex .f64 0 0, .complex .f64 4643176031446892544 0] 39)).alloc
  (.cells #[.int .i64 1, .int .i64 0, .slice (some ⟨w.heap.size, 0, none⟩) 2 2, .int .i64 0, .int .i64 1, .slice (some ⟨w.heap.size + 1, 0, none⟩) 2 2] 49)
theorem l3_size (w : World) : (l3 w).heap.size = w.heap.size + 3 := by unfold l3; rw [World.size_alloc, World.size_alloc, World.size_alloc]
theorem l3_below (w : World) : Below w.heap.size w (l3 w) := by
  unfold l3
  exact (((Below.refl w.heap.size w).alloc (Nat.le_refl _) _).alloc (by rw [World.size_alloc]; omega) _).alloc (by rw [World.size_alloc, World.size_alloc]; omega) _
theorem l3_projs (w : World) : ProjsAt (l3 w) (w.heap.size + 2) (pA w.heap.size) := by
  have r2 : (l3 w).heap[w.heap.size + 2]? = some (.cells #[.int .i64 1, .int .i64 0, .slice (some ⟨w.heap.size, 0, none⟩) 2 2, .int .i64 0, .int .i64 1, .slice (some ⟨w.heap.size + 1, 0, none⟩) 2 2] 49 (0, 0)) := by
    have h := heap_alloc_new ((w.alloc (.cells #[.complex .f64 4643176031446892544 0, .complex .f64 0 0] 39)).alloc (.cells #[.complex .f64 0 0, .complex .f64 4643176031446892544 0] 39)) (.cells #[.int .i64 1, .int .i64 0, .slice (some ⟨w.heap.size, 0, none⟩) 2 2, .int .i64 0, .int .i64 1, .slice (some ⟨w.heap.size + 1, 0, none⟩) 2 2] 49)
    rw [World.size_alloc, World.size_alloc] at h
    exact h
  have r0 : (l3 w).heap[w.heap.size]? = some (.cells #[.complex .f64 4643176031446892544 0, .complex .f64 0 0] 39 (0, 0)) := by
    unfold l3
    rw [Below.heap_alloc _ _ _ (by rw [World.size_alloc, World.size_alloc]; omega), Below.heap_alloc _ _ _ (by rw [World.size_alloc]; omega)]
    exact heap_alloc_new w _
  have r1 : (l3 w).heap[w.heap.size + 1]? = some (.cells #[.complex .f64 0 0, .complex .f64 4643176031446892544 0] 39 (0, 0)) := by
    unfold l3
    rw [Below.heap_alloc _ _ _ (by rw [World.size_alloc, World.size_alloc]; omega)]
    have h := heap_alloc_new (w.alloc (.cells #[.complex .f64 4643176031446892544 0, .complex .f64 0 0] 39)) (.cells #[.complex .f64 0 0, .complex .f64 4643176031446892544 0] 39)
    rw [World.size_alloc] at h
    exact h
  refine ⟨by rw [l3_size]; omega, fun i hi => ?_, fun i hi => ?_⟩
  · rcases (by have : i < 2 := hi; omega : i = 0 ∨ i = 1) with rfl | rfl
    · exact ⟨cell_of_row _ _ 0 _ _ (0, 0) r2, cell_of_row _ _ 1 _ _ (0, 0) r2, cell_of_row _ _ 2 _ _ (0, 0) r2⟩
    · exact ⟨cell_of_row _ _ 3 _ _ (0, 0) r2, cell_of_row _ _ 4 _ _ (0, 0) r2, cell_of_row _ _ 5 _ _ (0, 0) r2⟩
  · rcases (by have : i < 2 := hi; omega : i = 0 ∨ i = 1) with rfl | rfl
    · refine ⟨_, r0, Nat.le_refl _, fun j hj => ?_⟩
      rcases (by have : j < 2 := hj; omega : j = 0 ∨ j = 1) with rfl | rfl <;> rfl
    · refine ⟨_, r1, Nat.le_refl _, fun j hj => ?_⟩
      rcases (by have : j < 2 := hj; omega : j = 0 ∨ j = 1) with rfl | rfl <;> rfl

theorem fitA : ∀ x, x ∈ xsA → Fit 4 x := by
  intro x hx
  unfold xsA at hx
  simp only [List.mem_cons, List.not_mem_nil, or_false] at hx
  rcases hx with rfl | rfl | rfl | rfl <;> exact ⟨by decide, by decide, by decide⟩

theorem runA {u v : Value} (w : World) (hu : Ints (l3 w) u (List.replicate 4 0)) (hv : Ints (l3 w) v (List.replicate 4 255)) :
    Calls (barP Try.prog) 9 #[.int .i64 2, .slice (some ⟨w.heap.size + 2, 0, none⟩) 2 2, u, v] (l3 w) fun e w' => ∃ gl cl gh ch, e = .returned (.tuple #[.slice (some ⟨gl, 0, none⟩) 4 cl, .slice (some ⟨gh, 0, none⟩) 4 ch, .int .i64 0]) ∧
      IRow w' gl 4 (StA 2).lo ∧ IRow w' gh 4 (StA 2).hi ∧ Below (l3 w).heap.size (l3 w) w' := by
  refine runOk (n := 2) (T := 1) (cq := 2) (ps := pA w.heap.size) (A := List.replicate 4 0) (B := List.replicate 4 255) (St := StA) (by decide) (by decide) (by decide +kernel) (by decide : 2 ≤ 64) (fun i hi => ?_) (fun i j hi hj W => ?_) (soundA _) ?_ ?_ ?_ (by decide) ?_ rfl rfl ?_ (l3 w) hu hv (l3_projs w)
  · rcases (by have : i < 2 := hi; omega : i = 0 ∨ i = 1) with rfl | rfl
    · exact ⟨(⟨by unfold I64; decide, by unfold I64; decide⟩ : Dir64 (1, 0)), (by decide +kernel : binsS 2 (1, 0) = (2, 0)), (by decide : 2 ≤ 2017)⟩
    · exact ⟨(⟨by unfold I64; decide, by unfold I64; decide⟩ : Dir64 (0, 1)), (by decide +kernel : binsS 2 (0, 1) = (2, 0)), (by decide : 2 ≤ 2017)⟩
  · rcases (by have : i < 2 := hi; omega : i = 0 ∨ i = 1) with rfl | rfl
    · rcases (by have : j < 2 := hj; omega : j = 0 ∨ j = 1) with rfl | rfl
      · exact sum255 W
      · exact sum0 W
    · rcases (by have : j < 2 := hj; omega : j = 0 ∨ j = 1) with rfl | rfl
      · exact sum0 W
      · exact sum255 W
  · rw [lkA]; decide
  · rw [lkA]; decide
  · rw [lkA]; exact fitA
  · rw [lkA]; exact statesA
  · intro i hi
    rcases (by have : i < 4 := hi; omega : i = 0 ∨ i = 1 ∨ i = 2 ∨ i = 3) with rfl | rfl | rfl | rfl <;> decide +kernel

set_option maxRecDepth 100000 in
set_option maxHeartbeats 3200000 in
theorem aliveOk : AliveOk := by
  intro w
  have kW := hide (boundWideNew 2 w (by decide) (by decide))
  obtain ⟨z1, z2, z3⟩ := ends
  go_enter Bar.func5, Bar.ntmps5
  go_wp2_with fail
  refine (unhide kW).mono ?_
  rintro e w1 ⟨g, h, rfl, r1, r2, _, hb1⟩
  have i1 : Ints w1 (.slice (some ⟨g, 0, none⟩) 4 4) (List.replicate 4 0) := vrow_ints r1
  have i2 : Ints w1 (.slice (some ⟨h, 0, none⟩) 4 4) (List.replicate 4 255) := vrow_ints r2
  have kR := hide (runA w1 (ints_below i1 (l3_below w1)) (ints_below i2 (l3_below w1)))
  have B1 := hide (hb1.trans ((l3_below w1).mono hb1.size))
  clear kW r1 r2 hb1 i1 i2
  unfold l3 at kR B1
  go_wp2_with fail
  refine (unhide kR).mono ?_
  rintro e w2 ⟨gl, cl, gh, ch, rfl, r3, r4, hb2⟩
  have c1 := vrow_at r3 (i := 3) (by decide)
  have c2 := vrow_at r4 (i := 0) (by decide)
  have c3 := vrow_at r4 (i := 2) (by decide)
  rw [z1] at c1
  rw [z2] at c2
  rw [z3] at c3
  have B2 := hide ((unhide B1).trans (hb2.mono (unhide B1).size))
  clear kR r3 r4 hb2 B1 z1 z2 z3
  go_wp2_with fail
  go_ret
  exact ⟨rfl, unhide B2⟩
end Go.Proofs.Ythbghcebcahlnaa
