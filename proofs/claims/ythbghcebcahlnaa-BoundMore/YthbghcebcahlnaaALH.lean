/- All: directions that are none. -/
import Derived.Test.YthbghcebcahlnaaALG
namespace Go.Proofs.Ythbghcebcahlnaa
open Go Go.RowKit

set_option maxRecDepth 100000 in
set_option maxHeartbeats 4000000 in
theorem allBad {n g c mz gd od cap : Nat} {da : Option Addr} {L : List (Int × Int)} {f : Nat → Nat × Nat} {z : Nat → Int × Int} (w : World) (h1 : 1 ≤ n) (h2 : n ≤ 64) (hR : Row w g (n * n) f) (hz : ∀ j, j < n * n → Cell (f j) (z j) mz) (hm : mz ≤ 1048576)
    (hD : Dirs w da gd od L) (hl : L.length ≤ 9223372036854775807) (hI : ∀ i, i < L.length → I64 (L.getD i (0, 0)).1 ∧ I64 (L.getD i (0, 0)).2) (hcap : L.length ≤ cap) (hG : ¬ GoodDirs L) :
    Calls (barP Try.prog) 7 #[gridV n g c, .slice da L.length cap, .int .i64 1] w fun e w' => ∃ r, r ≠ 0 ∧ e = .returned (.tuple #[.agg #[.int .i64 0, .slice none 0 0], .int .i64 r]) ∧ Below w.heap.size w w' := by
  have hlt := row_lt hR
  have hi0 : In7 w ((w.alloc (.cells #[.int .i64 n, .slice (some ⟨g, 0, none⟩) (n * n : Nat) c] 27)).alloc (.cells #[.int .i64 0, .slice none 0 0] 31)) n (.slice (some ⟨g, 0, none⟩) (n * n : Nat) c) := by
    have := heap_alloc_new (w.alloc (.cells #[.int .i64 (n : Int), .slice (some ⟨g, 0, none⟩) (n * n : Nat) c] 27)) (.cells #[.int .i64 0, .slice none 0 0] 31)
    refine ⟨((Below.refl _ w).alloc (Nat.le_refl _) _).alloc (by simp) _, (alloc_old _ _ _ (by simp)).trans (heap_alloc_new w _), ?_⟩
    rwa [World.size_alloc] at this
  have kG := fun w1 (b : Below w.heap.size w w1) => gridCheck (c := c) w1 h1 h2 (row_below hR b hlt) hz hm
  have kL := fun w1 (b : Below w.heap.size w w1) => lookOk (cap := cap) hl hI w1 (dirs_below hD b) hcap
  clear hD hI hR hz hm hl
  replace kG := hide kG
  replace kL := hide kL
  replace hi0 := hide hi0
  replace hG := hide hG
  clear h1 h2 hlt hcap
  unfold gridV at *
  generalize L.length = ll at *
  generalize n * n = M at *
  go_enter Bar.func7, Bar.ntmps7
  go_wp2_with fail
  refine (unhide kG _ (unhide hi0).low).mono ?_
  rintro e w2 ⟨rfl, hb2⟩
  have hi2 := hide ((unhide hi0).up hb2)
  clear hb2 hi0
  go_wp2_with fail
  refine (unhide kL _ (unhide hi2).low).mono ?_
  rintro e w3 ⟨r, rfl, hr, hb3⟩
  have hr0 : r ≠ 0 := fun h => unhide hG (hr.1 h)
  have hi3 := (unhide hi2).up hb3
  clear hb3 hi2 hr kG kL
  have d0 : w3.cell? ⟨w.heap.size + 1, 0, none⟩ = some (.int .i64 0) := by simp [World.cell?, hi3.c1]
  have d1 : w3.cell? ⟨w.heap.size + 1, 1, none⟩ = some (.slice none 0 0) := by simp [World.cell?, hi3.c1]
  have d2 : w3.frozen? ⟨w.heap.size + 1, 0, none⟩ = false := thaw_of hi3.c1
  have d3 : w3.frozen? ⟨w.heap.size + 1, 1, none⟩ = false := thaw_of hi3.c1
  have hB : Below w.heap.size w ((w3.setCell ⟨w.heap.size + 1, 0, none⟩ (.int .i64 0)).setCell ⟨w.heap.size + 1, 1, none⟩ (.slice none 0 0)) := by
    refine hi3.low.trans ⟨rfl, rfl, rfl, by rw [World.size_setCell, World.size_setCell]; exact Nat.le_refl _, fun k hk => ?_⟩
    rw [heap_setCell_other _ _ _ _ (by show k ≠ w.heap.size + 1; omega), heap_setCell_other _ _ _ _ (by show k ≠ w.heap.size + 1; omega)]
  have hE : ((w3.setCell ⟨w.heap.size + 1, 0, none⟩ (.int .i64 0)).setCell ⟨w.heap.size + 1, 1, none⟩ (.slice none 0 0)).heap[w.heap.size + 1]? = some (.cells #[.int .i64 0, .slice none 0 0] 31) :=
    heap_setCell_same _ (w.heap.size + 1) 1 _ _ (.slice none 0 0) (heap_setCell_same _ (w.heap.size + 1) 0 _ _ (.int .i64 0) hi3.c1)
  have hi3 := hide hi3
  clear hi3
  replace hB := hide hB
  generalize w.heap.size + 1 = B at *
  have q : (r = 0) = False := by simpa using hr0
  go_wp2_with fail
  have y0 : ((w3.setCell ⟨B, 0, none⟩ (.int .i64 0)).setCell ⟨B, 1, none⟩ (.slice none 0 0)).cell? ⟨B, 0, none⟩ = some (.int .i64 0) := by simp [World.cell?, hE]
  have y1 : ((w3.setCell ⟨B, 0, none⟩ (.int .i64 0)).setCell ⟨B, 1, none⟩ (.slice none 0 0)).cell? ⟨B, 1, none⟩ = some (.slice none 0 0) := by simp [World.cell?, hE]
  refine ⟨rfl, .tuple #[.agg #[.int .i64 0, .slice none 0 0], .int .i64 r], ?_, r, hr0, rfl, unhide hB⟩
  unfold results
  simp only [Try.f7]
  simp [go_sem, y0, y1]
end Go.Proofs.Ythbghcebcahlnaa
