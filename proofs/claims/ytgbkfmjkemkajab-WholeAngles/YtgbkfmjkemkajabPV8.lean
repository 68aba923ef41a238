/- Package grid's own New. -/
import Derived.Test.YtgbkfmjkemkajabYC
import Derived.Test.YtgbkfmjkemkajabDK
import Derived.Maps.AppendAt
namespace Go.Proofs.Ytgbkfmjkemkajab
open Go.RowKit

theorem block_cell {w : World} {b : Nat} {cs : Array Value} {t : TypeId} (h : w.heap[b]? = some (.cells cs t (0, 0))) (i : Nat) : w.cell? ⟨b, i, none⟩ = cs[i]? := by simp [World.cell?, h]
theorem block_frozen {w : World} {b : Nat} {cs : Array Value} {t : TypeId} (h : w.heap[b]? = some (.cells cs t (0, 0))) (i : Nat) : w.frozen? ⟨b, i, none⟩ = false := by simp [World.frozen?, h]
set_option maxHeartbeats 400000 in
theorem gridSide {n : Nat} (h1 : 1 ≤ n) (h2 : n ≤ 64) (w : World) :
    Calls Try.prog 38 #[.int .i64 n] w fun e w' => e = .returned (.bool true) ∧ w' = w := by
  have q1 : (1 ≤ (n : Int)) = True := by simp; omega
  have q2 : ((n : Int) ≤ 64) = True := by simp; omega
  go_enter Try.func38, Try.ntmps38
  go_wp2_with fail
  go_ret
  exact ⟨rfl, rfl⟩

set_option maxHeartbeats 1600000 in
/-- Package grid's own: a field of noughts. -/
theorem blankAny {n M : Nat} (hM : n * n = M) (h4 : M ≤ 4096) (w : World) :
    Calls Try.prog 39 #[.int .i64 n] w fun e w' => ∃ g', e = .returned (.agg #[.int .i64 n, .slice (some ⟨g', 0, none⟩) M M]) ∧ w.heap.size ≤ g' ∧ Row w' g' M (fun _ => (0, 0)) ∧ Below w.heap.size w w' := by
  obtain ⟨i0, hi0, hz0, hz1, hz2⟩ := info_parts infoC
  have q5 : (n : Int) * (n : Int) = (M : Int) := by rw [← hM, Int.natCast_mul]
  have q6 : IntKind.i64.wrap (M : Int) = M := by rw [IntKind.wrap_i64]; omega
  have hM' := hide hM
  clear hM
  have hb1 := hide ((Below.refl w.heap.size w).alloc (Nat.le_refl _) (.cells #[.int .i64 0, .slice none 0 0] 40))
  have hc1 := hide (heap_alloc_new w (.cells #[.int .i64 0, .slice none 0 0] 40))
  go_enter Try.func39, Try.ntmps39
  go_wp2_with (first
    | (at_make; refine wpList_make_full _ rfl (.tmp 6) (.tmp 6) 33 rfl w.heap.size 32 i0 (.complex .f64 0 0) 1 Try.underlying33 hi0 hz0 hz1 .i64 .i64 M M M rfl rfl rfl rfl ?c1 ?c2 ?c3 ?_))
  case c1 => rw [hz2]; omega
  case c2 => unfold maxLen; omega
  case c3 => simp
  intro W2 hown2 hg2
  have hT : Hid (Row W2 (w.heap.size + 1) M (fun _ => (0, 0))) := row_made hown2 (fun _ => (0, 0)) (fun i hi => zeros_get M i hi) (fun _ _ => rfl)
  have hb2 := grown_below hg2
  rw [World.size_alloc] at hb2
  have hc2 := (hb2.block _ (Nat.lt_succ_self _)).trans (unhide hc1)
  have e0 := block_cell hc2 0
  have e1 := block_cell hc2 1
  have g0 := block_frozen hc2 0
  have g1 := block_frozen hc2 1
  simp only [List.getElem?_toArray, List.getElem?_cons_zero, List.getElem?_cons_succ] at e0 e1
  have hc3 := hide hc2
  have hb3 := hide ((unhide hb1).trans (hb2.mono (Nat.le_succ _)))
  clear hown2 hg2 hc1 hb1 hb2 hc2
  go_wp2
  have x1 := heap_setCell_same W2 w.heap.size 0 _ _ (.int .i64 n) (unhide hc3)
  have x2 := heap_setCell_same _ w.heap.size 1 _ _ (.slice (some ⟨w.heap.size + 1, 0, none⟩) M M) x1
  refine bodyPost_ret (results_two (P := Try.prog) rfl _ _ w.heap.size (.int .i64 n) (.slice (some ⟨w.heap.size + 1, 0, none⟩) M M) _ rfl (by rw [block_cell x2]; rfl) (by rw [block_cell x2]; rfl) Try.underlying40 rfl (by kernel_rfl)) rfl ?_
  refine ⟨w.heap.size + 1, rfl, by omega, row_keep (unhide hT) ?_, ((unhide hb3).setCell (p := ⟨w.heap.size, 0, none⟩) (Nat.le_refl _) _).setCell (p := ⟨w.heap.size, 1, none⟩) (Nat.le_refl _) _⟩
  rw [Below.heap_setCell _ _ _ _ (by show w.heap.size + 1 ≠ w.heap.size; omega), Below.heap_setCell _ _ _ _ (by show w.heap.size + 1 ≠ w.heap.size; omega)]

set_option maxHeartbeats 1600000 in
/-- Package grid's own: a new grid. -/
theorem newAny {n M : Nat} (h1 : 1 ≤ n) (h2 : n ≤ 64) (hM : n * n = M) (h4 : M ≤ 4096) (w : World) :
    Calls Try.prog 16 #[.int .i64 n] w fun e w' => ∃ g', e = .returned (.tuple #[.agg #[.int .i64 n, .slice (some ⟨g', 0, none⟩) M M], .int .i64 0]) ∧ w.heap.size ≤ g' ∧ Row w' g' M (fun _ => (0, 0)) ∧ Below w.heap.size w w' := by
  have kS := hide fun w => gridSide h1 h2 w
  have kB := hide fun w => blankAny hM h4 w
  have hb1 := hide ((Below.refl w.heap.size w).alloc (Nat.le_refl _) (.cells #[.int .i64 0, .slice none 0 0] 40))
  have hc1 := hide (heap_alloc_new w (.cells #[.int .i64 0, .slice none 0 0] 40))
  have hs1 := hide (World.size_alloc w (.cells #[.int .i64 0, .slice none 0 0] 40))
  clear hM
  go_enter Try.func16, Try.ntmps16
  go_wp2_with (first | (go_at_call 38; refine (unhide kS _).mono ?_; rintro e w' ⟨rfl, rfl⟩))
  generalize w.alloc (.cells #[.int .i64 0, .slice none 0 0] 40) = W1 at hb1 hc1 hs1 ⊢
  refine (unhide kB W1).mono ?_
  rintro e W2 ⟨g', rfl, hg, hR, hb2⟩
  have hsz := unhide hs1
  have hc2 := (hb2.block _ (by omega)).trans (unhide hc1)
  have e0 := block_cell hc2 0
  have e1 := block_cell hc2 1
  have g0 := block_frozen hc2 0
  have g1 := block_frozen hc2 1
  simp only [List.getElem?_toArray, List.getElem?_cons_zero, List.getElem?_cons_succ] at e0 e1
  have hc2 := hide hc2
  have hR := hide hR
  have hb2 := hide ((unhide hb1).trans (hb2.mono (by omega)))
  have hg : Hid (w.heap.size < g') := by show w.heap.size < g'; omega
  clear hc1 hb1 hsz hs1 kB kS
  go_wp2
  have x1 := heap_setCell_same W2 w.heap.size 0 _ _ (.int .i64 n) (unhide hc2)
  have x2 := heap_setCell_same _ w.heap.size 1 _ _ (.slice (some ⟨g', 0, none⟩) M M) x1
  have hg := unhide hg
  refine bodyPost_ret (results_two_tmp (P := Try.prog) rfl _ _ w.heap.size (.int .i64 n) (.slice (some ⟨g', 0, none⟩) M M) (.int .i64 0) _ rfl rfl (by rw [block_cell x2]; rfl) (by rw [block_cell x2]; rfl) Try.underlying40 rfl (by kernel_rfl)) rfl ?_
  refine ⟨g', rfl, by omega, row_keep (unhide hR) ?_, ((unhide hb2).setCell (p := ⟨w.heap.size, 0, none⟩) (Nat.le_refl _) _).setCell (p := ⟨w.heap.size, 1, none⟩) (Nat.le_refl _) _⟩
  rw [Below.heap_setCell _ _ _ _ (by show g' ≠ w.heap.size; omega), Below.heap_setCell _ _ _ _ (by show g' ≠ w.heap.size; omega)]

end Go.Proofs.Ytgbkfmjkemkajab
