/- The landed Wide. -/
import Derived.Test.YthbghcebcahlnaaBR
namespace Go.Proofs.Ythbghcebcahlnaa
open Go.RowKit

theorem isSmallYes {n : Int} (h1 : 1 ≤ n) (h2 : n ≤ 16) (w : World) : Calls (barP Try.prog) 16 #[.int .i64 n] w fun e w' => e = .returned (.bool true) ∧ w' = w := by
  have d1 : ((1 : Int) ≤ n) = True := by simp; omega
  have d2 : (n ≤ 16) = True := by simp; omega
  go_enter Bar.func16, Bar.ntmps16
  go_wp2_with fail
  go_ret
  exact ⟨rfl, rfl⟩
theorem isSmallNo {n : Int} (h : n < 1 ∨ 16 < n) (w : World) : Calls (barP Try.prog) 16 #[.int .i64 n] w fun e w' => e = .returned (.bool false) ∧ w' = w := by
  have hd : ((1 : Int) ≤ n) = False ∨ (((1 : Int) ≤ n) = True ∧ (n ≤ 16) = False) := by
    by_cases d1 : n < 1
    · exact Or.inl (by simp; omega)
    · exact Or.inr ⟨by simp; omega, by simp; omega⟩
  clear h
  rcases hd with d1 | ⟨d1, d2⟩
  all_goals
    go_enter Bar.func16, Bar.ntmps16
    go_wp2_with fail
    go_ret
    exact ⟨rfl, rfl⟩

/-- The two lists lie apart. -/
def WideNew (f : Nat) : Prop := ∀ (N : Nat) (w : World), 1 ≤ N → N ≤ 16 → Calls (barP Try.prog) f #[.int .i64 N] w fun e w' =>
  ∃ g h, e = .returned (.tuple #[.slice (some ⟨g, 0, none⟩) (N * N) (N * N), .slice (some ⟨h, 0, none⟩) (N * N) (N * N), .int .i64 0]) ∧ VRow w' 3 g (N * N) (fun _ => .int .i64 0) ∧ VRow w' 3 h (N * N) (fun _ => .int .i64 255) ∧ g ≠ h ∧ Below w.heap.size w w'

section
variable {w w3 : World} {M gq : Nat} {x : Value}
def Ends (w w3 : World) (M g gq : Nat) (x : Value) : Prop := VRow w3 3 g M (fun _ => .int .i64 0) ∧ VRow w3 3 gq M (fun _ => x) ∧ g ≠ gq ∧ Below w.heap.size w w3
theorem wide_a (h1 : (((w.alloc (.cells (madeCells #[.int .i64 0] M) 3)).alloc (.cells #[.int .i64 255] 3)).drew).heap.size ≤ gq) (h2 : VRow w3 3 gq M (fun _ => x))
    (h3 : Below (((w.alloc (.cells (madeCells #[.int .i64 0] M) 3)).alloc (.cells #[.int .i64 255] 3)).drew).heap.size (((w.alloc (.cells (madeCells #[.int .i64 0] M) 3)).alloc (.cells #[.int .i64 255] 3)).drew) w3) : Ends w w3 M w.heap.size gq x := by
  have hs : (((w.alloc (.cells (madeCells #[.int .i64 0] M) 3)).alloc (.cells #[.int .i64 255] 3)).drew).heap.size = w.heap.size + 2 := by show ((w.alloc _).alloc _).heap.size = _; rw [World.size_alloc, World.size_alloc]
  refine ⟨vrow_keep (vrow_new w (.int .i64 0) M 3) ((h3.block _ (by omega)).trans (Below.heap_alloc _ _ _ (by rw [World.size_alloc]; omega))), h2, by omega, ?_⟩
  exact ((((Below.refl w.heap.size w).alloc (Nat.le_refl _) _).alloc (by rw [World.size_alloc]; omega) _).drew).trans (h3.mono (by omega))
theorem wide_b (h1 : (((w.alloc (.cells #[.int .i64 255] 3)).alloc (.cells (madeCells #[.int .i64 0] M) 3)).drew).heap.size ≤ gq) (h2 : VRow w3 3 gq M (fun _ => x))
    (h3 : Below (((w.alloc (.cells #[.int .i64 255] 3)).alloc (.cells (madeCells #[.int .i64 0] M) 3)).drew).heap.size (((w.alloc (.cells #[.int .i64 255] 3)).alloc (.cells (madeCells #[.int .i64 0] M) 3)).drew) w3) : Ends w w3 M (w.heap.size + 1) gq x := by
  have hs : (((w.alloc (.cells #[.int .i64 255] 3)).alloc (.cells (madeCells #[.int .i64 0] M) 3)).drew).heap.size = w.heap.size + 2 := by show ((w.alloc _).alloc _).heap.size = _; rw [World.size_alloc, World.size_alloc]
  have h := vrow_new (w.alloc (.cells #[.int .i64 255] 3)) (.int .i64 0) M 3
  rw [World.size_alloc] at h
  refine ⟨vrow_keep h (h3.block _ (by omega)), h2, by omega, ?_⟩
  exact ((((Below.refl w.heap.size w).alloc (Nat.le_refl _) _).alloc (by rw [World.size_alloc]; omega) _).drew).trans (h3.mono (by omega))
theorem wide_c (h2 : VRow w3 3 gq M (fun _ => x))
    (h3 : Below ((w.alloc (.cells #[.int .i64 255] 3)).drew).heap.size ((w.alloc (.cells #[.int .i64 255] 3)).drew) w3) : Ends w (w3.alloc (.cells (madeCells #[.int .i64 0] M) 3)) M w3.heap.size gq x := by
  have hs : ((w.alloc (.cells #[.int .i64 255] 3)).drew).heap.size = w.heap.size + 1 := by show (w.alloc _).heap.size = _; rw [World.size_alloc]
  have hlt := vrow_lt h2
  have hsz := h3.size
  refine ⟨vrow_new w3 (.int .i64 0) M 3, vrow_keep h2 (Below.heap_alloc _ _ _ hlt), by omega, ?_⟩
  exact ((((Below.refl w.heap.size w).alloc (Nat.le_refl _) _).drew).trans (h3.mono (by omega))).alloc (by omega) _
end

set_option maxRecDepth 100000 in
set_option maxHeartbeats 3200000 in
theorem boundWideNew : WideNew 8 := by
  intro N w h1 h2
  have ks := hide (fun w => isSmallYes (n := (N : Int)) (by omega) (by omega) w)
  obtain ⟨M, hM⟩ : ∃ M, N * N = M := ⟨_, rfl⟩
  have hM2 : M ≤ 256 := by rw [← hM]; exact Nat.mul_le_mul (show N ≤ 16 by omega) (show N ≤ 16 by omega)
  have hM1 : 1 ≤ M := by rw [← hM]; exact Nat.mul_le_mul h1 h1
  have m1 : IntKind.i64.wrap ((N : Int) * (N : Int)) = (M : Int) := by rw [← Int.natCast_mul, hM, IntKind.wrap_i64]; omega
  rw [hM]
  have hmk := run_make_row' (P := (barP Try.prog)) 35 3 (.int .i64 0) 8 Bar.underlying35 infoInt rfl .i64 .i64 M (by omega) (by omega)
  clear hM
  go_enter Bar.func8, Bar.ntmps8
  go_wp2_with fail
  refine (unhide ks _).mono ?_
  rintro e w1 ⟨rfl, rfl⟩
  clear ks
  go_wp2_with fail
  go_region_with (go_at_call 17; refine (repeatInts (x := 255) (M := M) hM1 (by omega) _ (by simp [go_sem]) (by first | (simp; done) | (simp; omega))).mono ?_; rintro e w3 ⟨gq, rfl, hgq, hrow, hb3⟩)
  all_goals go_wp2_with fail
  all_goals go_ret3
  · exact ⟨_, _, rfl, wide_a hgq hrow hb3⟩
  · exact ⟨_, _, rfl, wide_b hgq hrow hb3⟩
  · exact ⟨_, _, rfl, wide_c hrow hb3⟩

set_option maxHeartbeats 3200000 in
theorem boundWide : WideOk 8 := by
  intro n w
  by_cases h : n < 1 ∨ 16 < n
  · have ks := hide (fun w => isSmallNo h w)
    unfold wideLo wideHi wideE
    rw [if_pos h, if_pos h, if_pos h]
    clear h
    go_enter Bar.func8, Bar.ntmps8
    go_wp2_with fail
    refine (unhide ks _).mono ?_
    rintro e w1 ⟨rfl, rfl⟩
    clear ks
    go_wp2_with fail
    go_ret3
    exact ⟨_, _, rfl, ints_none _, ints_none _, Below.refl _ _⟩
  · unfold wideLo wideHi wideE
    rw [if_neg h, if_neg h, if_neg h]
    obtain ⟨N, rfl⟩ : ∃ N : Nat, n = N := ⟨n.toNat, by omega⟩
    rw [Int.toNat_natCast]
    refine (boundWideNew N w (by omega) (by omega)).mono ?_
    rintro e w' ⟨g, h', rfl, r1, r2, _, hb⟩
    exact ⟨_, _, rfl, vrow_ints r1, vrow_ints r2, hb⟩
end Go.Proofs.Ythbghcebcahlnaa
