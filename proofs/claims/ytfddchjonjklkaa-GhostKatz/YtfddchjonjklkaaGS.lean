/- Package ghost's own calls over what landed; two ghosts the same. -/
import Derived.Test.YtfddchjonjklkaaGZ
import Derived.Test.YtfddchjonjklkaaGS1
namespace Go.Proofs.Ytfddchjonjklkaa
open Go.RowKit Fl

def ghostV (L : List (Int × Int)) (g c : Nat) : Value := .agg #[.int .i64 (gW L), .int .i64 (gH L), .slice (some ⟨g, 0, none⟩) (gW L * gH L : Nat) c]

theorem lay3' {w W : World} {a b c x y z : Value} {t : TypeId} (h : W.heap[w.heap.size]? = some (.cells #[x, y, z] t (0, 0))) (hb : Below w.heap.size w W) :
    W.cell? ⟨w.heap.size, 0, none⟩ = some x ∧ W.cell? ⟨w.heap.size, 1, none⟩ = some y ∧ W.cell? ⟨w.heap.size, 2, none⟩ = some z ∧ W.frozen? ⟨w.heap.size, 0, none⟩ = false ∧ W.frozen? ⟨w.heap.size, 1, none⟩ = false ∧ W.frozen? ⟨w.heap.size, 2, none⟩ = false ∧
    (((W.setCell ⟨w.heap.size, 0, none⟩ a).setCell ⟨w.heap.size, 1, none⟩ b).setCell ⟨w.heap.size, 2, none⟩ c).cell? ⟨w.heap.size, 0, none⟩ = some a ∧
    (((W.setCell ⟨w.heap.size, 0, none⟩ a).setCell ⟨w.heap.size, 1, none⟩ b).setCell ⟨w.heap.size, 2, none⟩ c).cell? ⟨w.heap.size, 1, none⟩ = some b ∧
    (((W.setCell ⟨w.heap.size, 0, none⟩ a).setCell ⟨w.heap.size, 1, none⟩ b).setCell ⟨w.heap.size, 2, none⟩ c).cell? ⟨w.heap.size, 2, none⟩ = some c ∧
    Below w.heap.size w (((W.setCell ⟨w.heap.size, 0, none⟩ a).setCell ⟨w.heap.size, 1, none⟩ b).setCell ⟨w.heap.size, 2, none⟩ c) := by
  have e1 := heap_setCell_same W w.heap.size 0 _ _ a h
  have e2 := heap_setCell_same _ w.heap.size 1 _ _ b e1
  have e3 := heap_setCell_same _ w.heap.size 2 _ _ c e2
  refine ⟨?_, ?_, ?_, block_frozen h 0, block_frozen h 1, block_frozen h 2, ?_, ?_, ?_, ?_⟩
  · rw [block_cell h]; rfl
  · rw [block_cell h]; rfl
  · rw [block_cell h]; rfl
  · rw [block_cell e3]; rfl
  · rw [block_cell e3]; rfl
  · rw [block_cell e3]; rfl
  · exact ((hb.setCell (p := ⟨w.heap.size, 0, none⟩) (Nat.le_refl _) _).setCell (p := ⟨w.heap.size, 1, none⟩) (Nat.le_refl _) _).setCell (p := ⟨w.heap.size, 2, none⟩) (Nat.le_refl _) _

theorem fits_katz (n : Int) (L : List (Int × Int)) : ((fitsS n L).2 ≠ 0 ∧ katzS n L = (false, (fitsS n L).2) ∧ (fitsS n L).1 = false) ∨ ((fitsS n L).2 = 0 ∧ katzS n L = (!(fitsS n L).1, 0)) := by
  unfold fitsS katzS
  by_cases c1 : n < 1 ∨ 64 < n
  · rw [if_pos c1, if_pos c1]
    exact Or.inl ⟨by decide, rfl, rfl⟩
  · rw [if_neg c1, if_neg c1]
    by_cases c2 : twiceS L = 0
    · rw [if_neg (by omega), if_neg (by omega)]
      refine Or.inr ⟨rfl, ?_⟩
      dsimp only
      rw [← decide_not, Prod.mk.injEq, decide_eq_decide]
      omega
    · rw [if_pos c2, if_pos c2]
      exact Or.inl ⟨c2, rfl, rfl⟩

set_option maxHeartbeats 800000 in
theorem gFits {n : Int} {L : List (Int × Int)} {a : Option Addr} {cap g o : Nat} (hN : L.length ≤ 9223372036854775807) (hA : All64 L) (w : World) (h : Dirs w a g o L) :
    Calls Try.prog 9 #[.int .i64 n, .slice a L.length cap] w fun e w' => e = .returned (.tuple #[.bool (fitsS n L).1, .int .i64 (fitsS n L).2]) ∧ Below w.heap.size w w' := by
  have k := hide (dirKatz (n := n) (cap := cap) hN hA w h)
  have q := fits_katz n L
  clear h hA hN
  generalize L.length = N at *
  generalize katzS n L = s at *
  generalize fitsS n L = r at *
  obtain ⟨ra, re⟩ := r
  dsimp only at *
  rcases q with ⟨q1, rfl, rfl⟩ | ⟨rfl, rfl⟩
  · have q2 : (re == 0) = false := by simp; exact q1
    dsimp only at k
    go_enter Try.func9, Try.ntmps9
    go_wp2_with fail
    refine (unhide k).mono ?_
    rintro e w1 ⟨rfl, hb1⟩
    have hb1 := hide hb1
    go_wp2_with fail
    go_ret2
    exact ⟨rfl, unhide hb1⟩
  · dsimp only at k
    cases ra
    all_goals
      simp only [Bool.not_false, Bool.not_true] at k
      go_enter Try.func9, Try.ntmps9
      go_wp2_with fail
      refine (unhide k).mono ?_
      rintro e w1 ⟨rfl, hb1⟩
      have hb1 := hide hb1
      go_wp2_with fail
      go_ret2
      exact ⟨rfl, unhide hb1⟩

theorem fits64 {L : List (Int × Int)} (c1 : ¬ 8 < L.length) : (makeErr L ≠ 0 ∧ ((fitsS 64 L = (false, makeErr L)) ∨ (fitsS 64 L = (false, 0) ∧ makeErr L = 4))) ∨ (makeErr L = 0 ∧ fitsS 64 L = (true, 0)) := by
  have f : fitsS 64 L = if twiceS L ≠ 0 then (false, twiceS L) else (decide (sumP L + 1 ≤ 64 ∧ sumQ L + 1 ≤ 64), 0) := by unfold fitsS; rw [if_neg (by omega)]
  have m : makeErr L = if twiceS L ≠ 0 then twiceS L else if 64 < sumP L + 1 ∨ 64 < sumQ L + 1 then 4 else 0 := by unfold makeErr; rw [if_neg c1]
  by_cases c2 : twiceS L ≠ 0
  · rw [if_pos c2] at f m
    rw [f, m]
    exact Or.inl ⟨c2, Or.inl rfl⟩
  · rw [if_neg c2] at f m
    by_cases c3 : 64 < sumP L + 1 ∨ 64 < sumQ L + 1
    · rw [if_pos c3] at m
      rw [f, m]
      exact Or.inl ⟨by decide, Or.inr ⟨by rw [decide_eq_false (by omega)], rfl⟩⟩
    · rw [if_neg c3] at m
      rw [f, m]
      exact Or.inr ⟨rfl, by rw [decide_eq_true (by omega)]⟩

set_option maxHeartbeats 1600000 in
theorem gMakeBad {L : List (Int × Int)} {a : Option Addr} {cap g o : Nat} (hN : L.length ≤ 9223372036854775807) (hE : makeErr L ≠ 0) (hA : All64 L) (w : World) (h : Dirs w a g o L) :
    Calls Try.prog 7 #[.slice a L.length cap] w fun e w' => e = .returned (.tuple #[.agg #[.int .i64 0, .int .i64 0, .slice none 0 0], .int .i64 (makeErr L)]) ∧ Below w.heap.size w w' := by
  have e0 := heap_alloc_new w (.cells #[.int .i64 0, .int .i64 0, .slice none 0 0] 26)
  have hb0 := (Below.refl _ w).alloc (Nat.le_refl _) (.cells #[.int .i64 0, .int .i64 0, .slice none 0 0] 26)
  have hs0 : w.heap.size + 1 ≤ (w.alloc (.cells #[.int .i64 0, .int .i64 0, .slice none 0 0] 26)).heap.size := by rw [World.size_alloc]; exact Nat.le_refl _
  have k := hide (gFits (n := 64) (cap := cap) hN hA _ (dirs_below h hb0))
  have hb0h := hide hb0
  have e0h := hide e0
  clear h hA
  by_cases c1 : 8 < L.length
  · have er : Hid (makeErr L = 2) := by show _ = _; unfold makeErr; rw [if_pos c1]
    generalize makeErr L = r at *
    have q1 : (8 < (L.length : Int)) = True := by simp; omega
    have z1 := block_cell e0 0
    have z2 := block_cell e0 1
    have z3 := block_cell e0 2
    simp only [List.getElem?_toArray, List.getElem?_cons_zero, List.getElem?_cons_succ] at z1 z2 z3
    clear k c1 e0 hb0 hs0
    generalize L.length = N at *
    go_enter Try.func7, Try.ntmps7
    go_wp2_with fail
    refine bodyPost_ret (results_three_tmp (P := Try.prog) rfl _ _ w.heap.size (.int .i64 0) (.int .i64 0) (.slice none 0 0) (.int .i64 2) _ rfl rfl z1 z2 z3 Try.underlying26 rfl (by kernel_rfl)) rfl ?_
    exact ⟨by rw [unhide er], unhide hb0h⟩
  · have q1 : (8 < (L.length : Int)) = False := by simp; omega
    have hab : Hid ((fitsS 64 L = (false, makeErr L)) ∨ (fitsS 64 L = (false, 0) ∧ makeErr L = 4)) := by
      rcases fits64 c1 with ⟨_, h2⟩ | ⟨h1, _⟩
      · exact h2
      · exact absurd h1 hE
    generalize makeErr L = r at *
    generalize fitsS 64 L = f at *
    have q2 : (r != 0) = true := by simp; exact hE
    clear c1 e0 hb0 hE
    generalize L.length = N at *
    rcases unhide hab with rfl | ⟨rfl, rfl⟩
    all_goals
      clear hab
      dsimp only at k
      go_enter Try.func7, Try.ntmps7
      go_wp2_with fail
      generalize w.alloc (.cells #[.int .i64 0, .int .i64 0, .slice none 0 0] 26) = w0 at *
      refine (unhide k).mono ?_
      rintro e w1 ⟨rfl, hb1⟩
      have fin := lay0 ((hb1.block w.heap.size (by omega)).trans (unhide e0h)) ((unhide hb0h).trans (hb1.mono (by omega)))
      obtain ⟨x0, x1, x2, y0, y1, y2, z⟩ := fin
      have z := hide z
      clear hb1 k
      go_wp2_with fail
      obtain ⟨z1, z2, z3, z5⟩ := unhide z
      refine bodyPost_ret (results_three_tmp (P := Try.prog) rfl _ _ w.heap.size (.int .i64 0) (.int .i64 0) (.slice none 0 0) _ _ rfl rfl z1 z2 z3 Try.underlying26 rfl (by kernel_rfl)) rfl ?_
      exact ⟨rfl, z5⟩

set_option maxHeartbeats 1600000 in
/-- Two ghosts with the same measures and rows of the same numbers. -/
theorem sameGood {x y : Int} {M ga gb ca cb : Nat} {f : Nat → Nat × Nat} (w : World) (hA : Row w ga M f) (hB : Row w gb M f) (hM : M ≤ 4096) :
    Calls Try.prog 11 #[.agg #[.int .i64 x, .int .i64 y, .slice (some ⟨ga, 0, none⟩) M ca], .agg #[.int .i64 x, .int .i64 y, .slice (some ⟨gb, 0, none⟩) M cb]] w fun e w' => e = .returned (.bool true) ∧ Below w.heap.size w w' := by
  have hb := ((Below.refl _ w).alloc (Nat.le_refl _) (.cells #[.int .i64 x, .int .i64 y, .slice (some ⟨ga, 0, none⟩) M ca] 26)).alloc (by simp) (.cells #[.int .i64 x, .int .i64 y, .slice (some ⟨gb, 0, none⟩) M cb] 26)
  have k := hide (rsameList (ca := ca) (cb := cb) _ (row_below hA hb (row_lt hA)) (row_below hB hb (row_lt hB)) hM)
  have hb := hide hb
  clear hA hB
  go_enter Try.func11, Try.ntmps11
  go_wp2_with (first | (go_at_call 21; refine (unhide k).mono ?_; rintro e w1 ⟨rfl, hb1⟩; have hb1 := hide hb1))
  go_ret
  exact ⟨rfl, (unhide hb).trans ((unhide hb1).mono (by simp; omega))⟩

set_option maxHeartbeats 1600000 in
/-- Two empty ones. -/
theorem sameEmpty (w : World) :
    Calls Try.prog 11 #[.agg #[.int .i64 0, .int .i64 0, .slice none 0 0], .agg #[.int .i64 0, .int .i64 0, .slice none 0 0]] w fun e w' => e = .returned (.bool true) ∧ Below w.heap.size w w' := by
  have hb := hide (((Below.refl _ w).alloc (Nat.le_refl _) (.cells #[.int .i64 0, .int .i64 0, .slice none 0 0] 26)).alloc (by simp) (.cells #[.int .i64 0, .int .i64 0, .slice none 0 0] 26))
  have k : ∀ w, Calls Try.prog 21 #[.slice none 0 0, .slice none 0 0] w fun e w' => e = .returned (.bool true) ∧ w' = w := by
    intro w
    go_enter Try.func21, Try.ntmps21
    go_wp2_with fail
    go_loopw [5] (fun iv wr => iv = .int .i64 0 ∧ w = wr) (fun _ _ => 0)
    case atStart => exact ⟨rfl, rfl⟩
    case round =>
      obtain ⟨rfl, rfl⟩ := hrel
      go_wp2_with fail
      go_ret
      exact ⟨rfl, rfl⟩
  have k := hide k
  go_enter Try.func11, Try.ntmps11
  go_wp2_with (first | (go_at_call 21; refine (unhide k _).mono ?_; rintro e w1 ⟨rfl, rfl⟩))
  go_ret
  exact ⟨rfl, unhide hb⟩
end Go.Proofs.Ytfddchjonjklkaa
