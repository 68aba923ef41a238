/- bound.Wide: its lists are new. -/
import Derived.Test.YthbghcebcahlnaaBS
namespace Go.Proofs.Ythbghcebcahlnaa
open Go.RowKit

set_option maxRecDepth 100000 in
set_option maxHeartbeats 3200000 in
theorem wideFresh (N : Nat) (w : World) (h1 : 1 ≤ N) (h2 : N ≤ 16) : Calls (barP Try.prog) 8 #[.int .i64 N] w fun e w' =>
    ∃ g h, e = .returned (.tuple #[.slice (some ⟨g, 0, none⟩) (N * N) (N * N), .slice (some ⟨h, 0, none⟩) (N * N) (N * N), .int .i64 0]) ∧ Ends w w' (N * N) g h (.int .i64 255) ∧ w.heap.size ≤ g ∧ w.heap.size ≤ h := by
  have ks := hide (fun w => isSmallYes (n := (N : Int)) (by omega) (by omega) w)
  obtain ⟨M, hM⟩ : ∃ M, N * N = M := ⟨_, rfl⟩
  have hM2 : M ≤ 256 := by rw [← hM]; exact Nat.mul_le_mul (show N ≤ 16 by omega) (show N ≤ 16 by omega)
  have hM1 : 1 ≤ M := by rw [← hM]; exact Nat.mul_le_mul h1 h1
  have m1 : IntKind.i64.wrap ((N : Int) * (N : Int)) = (M : Int) := by rw [← Int.natCast_mul, hM, IntKind.wrap_i64]; omega
  rw [hM]
  have hmk := run_make_row' (P := (barP Try.prog)) 35 3 (.int .i64 0) 8 Bar.underlying35 infoInt rfl .i64 .i64 M (by omega) (by omega)
  clear hM
  go_enter Bar.func8, Bar.ntmps8
  go_wp2_with fail
  refine (unhide ks _).mono ?_
  rintro e w1 ⟨rfl, rfl⟩
  clear ks
  go_wp2_with fail
  go_region_with (go_at_call 17; refine (repeatInts (x := 255) (M := M) hM1 (by omega) _ (by simp [go_sem]) (by first | (simp; done) | (simp; omega))).mono ?_; rintro e w3 ⟨gq, rfl, hgq, hrow, hb3⟩)
  all_goals go_wp2_with fail
  all_goals go_ret3
  · exact ⟨_, _, rfl, wide_a hgq hrow hb3, Nat.le_refl _, Nat.le_trans (by show w1.heap.size ≤ ((w1.alloc _).alloc _).heap.size; rw [World.size_alloc, World.size_alloc]; omega) hgq⟩
  · exact ⟨_, _, rfl, wide_b hgq hrow hb3, Nat.le_succ _, Nat.le_trans (by show w1.heap.size ≤ ((w1.alloc _).alloc _).heap.size; rw [World.size_alloc, World.size_alloc]; omega) hgq⟩
  · have hq : w1.heap.size ≤ ((w1.alloc (.cells #[.int .i64 255] 3)).drew).heap.size := by show w1.heap.size ≤ (w1.alloc _).heap.size; rw [World.size_alloc]; omega
    exact ⟨_, _, rfl, wide_c hrow hb3, Nat.le_trans hq hb3.size, Nat.le_trans hq hgq⟩
end Go.Proofs.Ythbghcebcahlnaa
