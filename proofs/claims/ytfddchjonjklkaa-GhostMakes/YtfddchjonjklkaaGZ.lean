/- The ghost of directions: the document's own Make, where it answers an error. -/
import Derived.Test.YtfddchjonjklkaaGY
namespace Go.Proofs.Ytfddchjonjklkaa
open Go.RowKit Fl

set_option maxRecDepth 100000 in
set_option maxHeartbeats 4000000 in
theorem makeBad {L : List (Int × Int)} {a : Option Addr} {cap g o : Nat} (hN : L.length ≤ 9223372036854775807) (hE : makeErr L ≠ 0) (hA : All64 L) (w : World) (h : Dirs w a g o L) :
    Calls Try.prog 8 #[.slice a L.length cap] w fun e w' => e = .returned (.tuple #[.agg #[.int .i64 0, .int .i64 0, .slice none 0 0], .int .i64 (makeErr L)]) ∧ Below w.heap.size w w' := by
  have kT := hide (fun (W : World) (hb : Below w.heap.size w W) => twiceAny (cap := cap) hN hA W (dirs_below h hb).at_ (dirs_below h hb).cell)
  have kM := hide (fun (ht : twiceS L = 0) (W : World) (hb : Below w.heap.size w W) => measuresAny (cap := cap) ht W (dirs_below h hb))
  have hb0 := hide ((Below.refl _ w).alloc (Nat.le_refl _) (.cells #[.int .i64 0, .int .i64 0, .slice none 0 0] 26))
  have e0 := hide (heap_alloc_new w (.cells #[.int .i64 0, .int .i64 0, .slice none 0 0] 26))
  have hs0 : w.heap.size + 1 ≤ (w.alloc (.cells #[.int .i64 0, .int .i64 0, .slice none 0 0] 26)).heap.size := by rw [World.size_alloc]; exact Nat.le_refl _
  have fin := hide (fun (W : World) (hb : Below (w.alloc (.cells #[.int .i64 0, .int .i64 0, .slice none 0 0] 26)).heap.size (w.alloc (.cells #[.int .i64 0, .int .i64 0, .slice none 0 0] 26)) W) => lay0 ((hb.block w.heap.size (by omega)).trans (unhide e0)) ((unhide hb0).trans (hb.mono (by omega))))
  clear h hA
  by_cases c1 : 8 < L.length
  · have hE' : Hid (makeErr L = 2) := by show _ = _; unfold makeErr; rw [if_pos c1]
    generalize makeErr L = er at *
    have q0 : (8 < (L.length : Int)) = True := by simp; omega
    generalize L.length = N at *
    clear kT kM c1
    go_enter Try.func8, Try.ntmps8
    have fin := unhide fin _ (Below.refl _ _)
    obtain ⟨x0, x1, x2, y0, y1, y2, _⟩ := fin
    go_wp2_with fail
    refine bodyPost_ret (results_three_tmp (P := Try.prog) rfl _ _ w.heap.size (.int .i64 0) (.int .i64 0) (.slice none 0 0) (.int .i64 2) _ rfl rfl x0 x1 x2 Try.underlying26 rfl (by kernel_rfl)) rfl ?_
    exact ⟨by rw [unhide hE'], unhide hb0⟩
  · have q0 : (8 < (L.length : Int)) = False := by simp; omega
    by_cases c2 : twiceS L = 0
    · have c3 : 64 < sumP L + 1 ∨ 64 < sumQ L + 1 := by
        unfold makeErr at hE
        rw [if_neg c1, if_neg (by omega)] at hE
        by_cases c : 64 < sumP L + 1 ∨ 64 < sumQ L + 1
        · exact c
        · rw [if_neg c] at hE
          exact absurd rfl hE
      have hE' : Hid (makeErr L = 4) := by show _ = _; unfold makeErr; rw [if_neg c1, if_neg (by omega), if_pos c3]
      rw [c2] at kT
      have kM := hide (unhide kM c2)
      generalize makeErr L = er at *
      have q1 : ((64 < sumP L + 1) = True) ∨ ((64 < sumP L + 1) = False ∧ (64 < sumQ L + 1) = True) := by
        by_cases c : 64 < sumP L + 1
        · exact Or.inl (by simp; omega)
        · exact Or.inr ⟨by simp; omega, by simp; omega⟩
      generalize sumP L + 1 = sp at *
      generalize sumQ L + 1 = sq at *
      generalize L.length = N at *
      clear c1 c2 c3
      rcases q1 with q1 | ⟨q1, q2⟩
      all_goals
        go_enter Try.func8, Try.ntmps8
        go_wp2_with fail
        generalize w.alloc (.cells #[.int .i64 0, .int .i64 0, .slice none 0 0] 26) = w0 at *
        refine (unhide kT w0 (unhide hb0)).mono ?_
        rintro e w1 ⟨rfl, hb1⟩
        have B1 := hide hb1
        clear hb1 kT
        go_wp2_with fail
        refine (unhide kM w1 ((unhide hb0).trans ((unhide B1).mono (by omega)))).mono ?_
        rintro e w2 ⟨rfl, hb2⟩
        have fin := unhide fin _ ((unhide B1).trans (hb2.mono (unhide B1).size))
        obtain ⟨x0, x1, x2, y0, y1, y2, z⟩ := fin
        have z := hide z
        clear hb2 kM B1
        go_wp2_with fail
        obtain ⟨z1, z2, z3, z5⟩ := unhide z
        refine bodyPost_ret (results_three_tmp (P := Try.prog) rfl _ _ w.heap.size (.int .i64 0) (.int .i64 0) (.slice none 0 0) (.int .i64 4) _ rfl rfl z1 z2 z3 Try.underlying26 rfl (by kernel_rfl)) rfl ?_
        exact ⟨by rw [unhide hE'], z5⟩
    · have hE' : Hid (makeErr L = twiceS L) := by show _ = _; unfold makeErr; rw [if_neg c1, if_pos c2]
      generalize makeErr L = er at *
      generalize twiceS L = t at *
      have q1 : (t != 0) = true := by simp; exact c2
      generalize L.length = N at *
      clear c1 c2 kM
      go_enter Try.func8, Try.ntmps8
      go_wp2_with fail
      generalize w.alloc (.cells #[.int .i64 0, .int .i64 0, .slice none 0 0] 26) = w0 at *
      refine (unhide kT w0 (unhide hb0)).mono ?_
      rintro e w1 ⟨rfl, hb1⟩
      have fin := unhide fin _ hb1
      obtain ⟨x0, x1, x2, y0, y1, y2, z⟩ := fin
      have z := hide z
      clear hb1 kT
      go_wp2_with fail
      obtain ⟨z1, z2, z3, z5⟩ := unhide z
      refine bodyPost_ret (results_three_tmp (P := Try.prog) rfl _ _ w.heap.size (.int .i64 0) (.int .i64 0) (.slice none 0 0) (.int .i64 t) _ rfl rfl z1 z2 z3 Try.underlying26 rfl (by kernel_rfl)) rfl ?_
      exact ⟨by rw [unhide hE'], z5⟩
end Go.Proofs.Ytfddchjonjklkaa
