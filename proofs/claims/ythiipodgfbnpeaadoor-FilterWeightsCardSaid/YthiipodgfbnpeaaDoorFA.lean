/- The weights of a filter are what the document says: the walk. -/
import Derived.Test.YthiipodgfbnpeaaDoorFL
namespace Go.Proofs.YthiipodgfbnpeaaDoor
open Go.RowKit

section
variable {w w' : World} {g n : Nat} {f : Nat → Value}
theorem wrow_at (h : WRow w g n f) {i : Nat} (hi : i < n) : w.cell? ⟨g, i, none⟩ = some (f i) := by
  obtain ⟨cur, h1, h2, h3⟩ := h
  simp [World.cell?, h1, h3 i hi]
theorem wrow_lt (h : WRow w g n f) : g < w.heap.size := by
  obtain ⟨cur, h1, _⟩ := h
  exact (Array.getElem?_eq_some_iff.1 h1).1
theorem wrow_keep (h : WRow w g n f) (hb : w'.heap[g]? = w.heap[g]?) : WRow w' g n f := by
  obtain ⟨cur, h1, h2, h3⟩ := h
  exact ⟨cur, by rw [hb]; exact h1, h2, h3⟩
theorem wrow_frozen (h : WRow w g n f) (i : Nat) : w.frozen? ⟨g, i, none⟩ = false := by
  obtain ⟨cur, h1, _⟩ := h
  exact frozen_of_row w _ i cur _ h1
theorem wrow_set (h : WRow w g n f) (k : Nat) (v : Value) : WRow (w.setCell ⟨g, k, none⟩ v) g n (fun i => if i = k then v else f i) := by
  obtain ⟨cur, h1, h2, h3⟩ := h
  refine ⟨cur.setIfInBounds k v, heap_setCell_same w g k cur _ _ h1, by simpa using h2, fun i hi => ?_⟩
  dsimp only
  by_cases c : i = k
  · subst c
    rw [if_pos rfl, Array.getElem?_setIfInBounds_self_of_lt (by omega)]
  · rw [if_neg c, Array.getElem?_setIfInBounds_ne (by omega)]
    exact h3 i hi
theorem wrow_below (h : WRow w g n f) (hb : Below w.heap.size w w') : WRow w' g n f := wrow_keep h (hb.block _ (wrow_lt h))
end

/-- What a length answers, at any number. -/
theorem length_any {f : Nat} (hB : LengthBad f) (hG : LengthGood f) (b : Int) : ∃ x e : Int, (∀ W : World, Calls Tryd.prog f #[.int .i64 b] W fun r w' => r = .returned (.tuple #[.int .i64 x, .int .i64 e]) ∧ Below W.heap.size W w') ∧ (∀ {f' : Nat}, LengthBad f' → LengthGood f' → ∀ W : World, Calls Tryd.prog f' #[.int .i64 b] W fun r w' => r = .returned (.tuple #[.int .i64 x, .int .i64 e]) ∧ Below W.heap.size W w') := by
  by_cases h : b < 1 ∨ 2048 < b
  · exact ⟨0, 30, fun W => hB b W h, fun hB' _ W => hB' b W h⟩
  · obtain ⟨m, rfl⟩ : ∃ m : Nat, b = m := ⟨b.toNat, by omega⟩
    exact ⟨_, 0, fun W => hG m W (by omega) (by omega), fun _ hG' W => hG' m W (by omega) (by omega)⟩

set_option maxHeartbeats 3200000 in
theorem weightsBadWalk (hWB : WeightsBad 6) (hLB : LengthBad 8) (hLG : LengthGood 8) {n kind : Int} (hb : Wrong n ∨ kind < 1 ∨ 3 < kind) (w : World)
    (hal : Calls Tryd.prog 5 #[] w fun e w' => e = .returned (.bool true) ∧ Below w.heap.size w w') :
    Calls Tryd.prog 3 #[.int .i64 n, .int .i64 kind] w fun e w' => e = .returned (.bool true) ∧ Below w.heap.size w w' := by
  have k1 := hide (fun W => hWB n kind W hb)
  have k2 := hide (fun W => refWeightsBad n kind W hb)
  obtain ⟨x, xe, l1, l2⟩ := length_any hLB hLG n
  have l2 := hide (fun W => l2 refLengthBad refLengthGood W)
  have l1 := hide l1
  have hal := hide hal
  generalize wErr n = er at *
  clear hWB hLB hLG hb
  go_enter Tryd.func3, Tryd.ntmps3
  go_wp2_with fail
  refine (unhide hal).mono ?_
  rintro e w1 ⟨rfl, hb1⟩
  have B1 := hide hb1
  clear hb1 hal
  go_wp2_with fail
  refine (unhide k1 _).mono ?_
  rintro e w2 ⟨rfl, hb2⟩
  have B2 := hide ((unhide B1).trans (hb2.mono (unhide B1).size))
  clear hb2 B1
  go_wp2_with fail
  refine (unhide k2 _).mono ?_
  rintro e w3 ⟨rfl, hb3⟩
  have B3 := hide ((unhide B2).trans (hb3.mono (unhide B2).size))
  clear hb3 B2
  go_wp2_with fail
  refine (unhide l1 _).mono ?_
  rintro e w4 ⟨rfl, hb4⟩
  have B4 := hide ((unhide B3).trans (hb4.mono (unhide B3).size))
  clear hb4 B3
  go_wp2_with fail
  refine (unhide l2 _).mono ?_
  rintro e w5 ⟨rfl, hb5⟩
  have B5 := hide ((unhide B4).trans (hb5.mono (unhide B4).size))
  clear hb5 B4
  go_wp2_with fail
  refine wp_loop_rounds 1 ?_
  rw [rounds_succ]
  go_wp2_with fail
  refine wp_loop_rounds 1 ?_
  rw [rounds_succ]
  go_wp2_with fail
  refine (unhide k1 _).mono ?_
  rintro e w6 ⟨rfl, hb6⟩
  have B6 := hide ((unhide B5).trans (hb6.mono (unhide B5).size))
  clear hb6 B5
  go_wp2_with fail
  go_quiet (fail)
  go_wp2_with fail
  go_ret
  have hb := unhide B6
  exact ⟨rfl, ⟨hb.os, hb.tape, hb.output, hb.size, hb.block⟩⟩
end Go.Proofs.YthiipodgfbnpeaaDoor
