/- A projection; along what is no direction it is refused. -/
import Derived.Test.YtjmdlgekheehgaaYP
namespace Go.Proofs.Ytjmdlgekheehgaa
open Go.RowKit Go.Shelf
attribute [local go_sem] Oper.semAt_some store_complex

theorem bins60 {n : Nat} {a : Int × Int} (h1 : 1 ≤ n) (h2 : n ≤ 64) (ho : okD a.1 a.2 = false) : binsS n a = (0, 60) := by
  unfold binsS
  rw [if_neg (by omega), if_neg (by rw [ho]; decide)]

theorem set3' {w W : World} {gv dv : Array Value} {tg td tr : TypeId} {a b c x y z : Value} (h : Boxes w W gv dv #[x, y, z] tg td tr) :
    (((W.setCell ⟨w.heap.size + 1 + 1, 0, none⟩ a).setCell ⟨w.heap.size + 1 + 1, 1, none⟩ b).setCell ⟨w.heap.size + 1 + 1, 2, none⟩ c).cell? ⟨w.heap.size + 2, 0, none⟩ = some a ∧
    (((W.setCell ⟨w.heap.size + 1 + 1, 0, none⟩ a).setCell ⟨w.heap.size + 1 + 1, 1, none⟩ b).setCell ⟨w.heap.size + 1 + 1, 2, none⟩ c).cell? ⟨w.heap.size + 2, 1, none⟩ = some b ∧
    (((W.setCell ⟨w.heap.size + 1 + 1, 0, none⟩ a).setCell ⟨w.heap.size + 1 + 1, 1, none⟩ b).setCell ⟨w.heap.size + 1 + 1, 2, none⟩ c).cell? ⟨w.heap.size + 2, 2, none⟩ = some c ∧
    Below w.heap.size w (((W.setCell ⟨w.heap.size + 1 + 1, 0, none⟩ a).setCell ⟨w.heap.size + 1 + 1, 1, none⟩ b).setCell ⟨w.heap.size + 1 + 1, 2, none⟩ c) := by
  have e1 := heap_setCell_same W (w.heap.size + 2) 0 _ _ a h.three
  have e2 := heap_setCell_same _ (w.heap.size + 2) 1 _ _ b e1
  have e3 := heap_setCell_same _ (w.heap.size + 2) 2 _ _ c e2
  refine ⟨?_, ?_, ?_, ?_⟩
  · rw [block_cell e3]; rfl
  · rw [block_cell e3]; rfl
  · rw [block_cell e3]; rfl
  · exact ((h.below.setCell (p := ⟨w.heap.size + 2, 0, none⟩) (by show w.heap.size ≤ w.heap.size + 2; omega) a).setCell (p := ⟨w.heap.size + 2, 1, none⟩) (by show w.heap.size ≤ w.heap.size + 2; omega) b).setCell (p := ⟨w.heap.size + 2, 2, none⟩) (by show w.heap.size ≤ w.heap.size + 2; omega) c

set_option maxRecDepth 100000 in
set_option maxHeartbeats 4000000 in
/-- Package ray's own. -/
theorem projectAny {n g c m : Nat} {f : Nat → Nat × Nat} {z : Nat → Int × Int} {a : Int × Int} (w : World) (h1 : 1 ≤ n) (h2 : n ≤ 64) (ha : Dir64 a) (ho : okD a.1 a.2 = true) (hR : Row w g (n * n) f) (hz : ∀ j, j < n * n → Cell (f j) (z j) m) (hm : m ≤ 1048576) :
    Calls Try.prog 6 #[gridV n g c, dirV a] w fun e w' => ∃ g' B f', e = .returned (.tuple #[.agg #[.int .i64 a.1, .int .i64 a.2, .slice (some ⟨g', 0, none⟩) B B], .int .i64 0]) ∧ binsS n a = ((B : Int), 0) ∧ w.heap.size ≤ g' ∧
      Row w' g' B f' ∧ (∀ j, j < B → IC (f' j) (accZ (ixN n a) z (n * n) j)) ∧ Below w.heap.size w w' := by
  have kC := hide (fun (W : World) (h : Below w.heap.size w W) => gridCheck (c := c) W h1 h2 (row_below hR h (row_lt hR)) hz hm)
  have kD := hide (fun (W : World) => dirCheck ha.1 ha.2 W)
  rw [checkS_ok ho] at kD
  have kA := hide (fun (W : World) (h : Below w.heap.size w W) => alongAny (c := c) (a := a) W h1 h2 ha ho (row_below hR h (row_lt hR)) hz hm)
  unfold gridV dirV at *
  obtain ⟨P, Q⟩ := a
  dsimp only at *
  go_enter Try.func6, Try.ntmps6
  go_wp2_with fail
  have b0 := boxes_new w #[.int .i64 n, .slice (some ⟨g, 0, none⟩) (n * n : Nat) c] #[.int .i64 P, .int .i64 Q] #[.int .i64 0, .int .i64 0, .slice none 0 0] 29 24 31
  generalize ((w.alloc (.cells #[.int .i64 n, .slice (some ⟨g, 0, none⟩) (n * n : Nat) c] 29)).alloc (.cells #[.int .i64 P, .int .i64 Q] 24)).alloc (.cells #[.int .i64 0, .int .i64 0, .slice none 0 0] 31) = W0 at b0 ⊢
  refine (unhide kC W0 b0.below).mono ?_
  rintro e W1 ⟨rfl, hb1⟩
  have b1 := hide (b0.on hb1)
  have c0 := block_cell (unhide b1).one 0
  have c1 := block_cell (unhide b1).one 1
  have d0 := block_cell (unhide b1).two 0
  have d1 := block_cell (unhide b1).two 1
  simp only [List.getElem?_toArray, List.getElem?_cons_zero, List.getElem?_cons_succ] at c0 c1 d0 d1
  clear b0 hb1 kC
  go_wp2_with fail
  refine (unhide kD W1).mono ?_
  rintro e W2 ⟨rfl, hb2⟩
  have b2 := (unhide b1).on hb2
  have c0 := block_cell b2.one 0
  have c1 := block_cell b2.one 1
  have d0 := block_cell b2.two 0
  have d1 := block_cell b2.two 1
  simp only [List.getElem?_toArray, List.getElem?_cons_zero, List.getElem?_cons_succ] at c0 c1 d0 d1
  have b2 := hide b2
  clear b1 hb2 kD
  go_wp2_with fail
  refine (unhide kA W2 (unhide b2).below).mono ?_
  rintro e W3 ⟨g', B, f', rfl, hB, hg, hR3, hz3, hb3⟩
  have b3 := (unhide b2).on hb3
  have hs := (unhide b2).size
  have e0 := block_cell b3.three 0
  have e1 := block_cell b3.three 1
  have e2 := block_cell b3.three 2
  have g0 := block_frozen b3.three 0
  have g1 := block_frozen b3.three 1
  have g2 := block_frozen b3.three 2
  simp only [List.getElem?_toArray, List.getElem?_cons_zero, List.getElem?_cons_succ] at e0 e1 e2
  have b3 := hide b3
  have hB := hide hB
  have hR3 := hide hR3
  have hz3 := hide hz3
  clear b2 hb3 kA c0 c1 d0 d1
  go_wp2
  obtain ⟨k2, k3, k4, k6⟩ := set3' (a := .int .i64 P) (b := .int .i64 Q) (c := .slice (some ⟨g', 0, none⟩) B B) (unhide b3)
  refine bodyPost_ret (results_three_tmp (P := Try.prog) rfl _ _ (w.heap.size + 2) (.int .i64 P) (.int .i64 Q) (.slice (some ⟨g', 0, none⟩) B B) (.int .i64 0) _ rfl rfl k2 k3 k4 Try.underlying31 rfl (by kernel_rfl)) rfl ?_
  refine ⟨g', B, f', rfl, unhide hB, by omega, row_keep (unhide hR3) ?_, unhide hz3, k6⟩
  rw [Below.heap_setCell _ _ _ _ (by show g' ≠ w.heap.size + 2; omega), Below.heap_setCell _ _ _ _ (by show g' ≠ w.heap.size + 2; omega), Below.heap_setCell _ _ _ _ (by show g' ≠ w.heap.size + 2; omega)]

set_option maxRecDepth 100000 in
set_option maxHeartbeats 4000000 in
/-- Package ray's own. -/
theorem projectBad {n g c m : Nat} {f : Nat → Nat × Nat} {z : Nat → Int × Int} {a : Int × Int} (w : World) (h1 : 1 ≤ n) (h2 : n ≤ 64) (ha : Dir64 a) (ho : okD a.1 a.2 = false) (hR : Row w g (n * n) f) (hz : ∀ j, j < n * n → Cell (f j) (z j) m) (hm : m ≤ 1048576) :
    Calls Try.prog 6 #[gridV n g c, dirV a] w fun e w' => e = .returned (.tuple #[.agg #[.int .i64 0, .int .i64 0, .slice none 0 0], .int .i64 60]) ∧ Below w.heap.size w w' := by
  have kC := hide (fun (W : World) (h : Below w.heap.size w W) => gridCheck (c := c) W h1 h2 (row_below hR h (row_lt hR)) hz hm)
  have kD := hide (fun (W : World) => dirCheck ha.1 ha.2 W)
  rw [checkS_bad ho] at kD
  unfold gridV dirV at *
  obtain ⟨P, Q⟩ := a
  dsimp only at *
  go_enter Try.func6, Try.ntmps6
  go_wp2_with fail
  have b0 := boxes_new w #[.int .i64 n, .slice (some ⟨g, 0, none⟩) (n * n : Nat) c] #[.int .i64 P, .int .i64 Q] #[.int .i64 0, .int .i64 0, .slice none 0 0] 29 24 31
  generalize ((w.alloc (.cells #[.int .i64 n, .slice (some ⟨g, 0, none⟩) (n * n : Nat) c] 29)).alloc (.cells #[.int .i64 P, .int .i64 Q] 24)).alloc (.cells #[.int .i64 0, .int .i64 0, .slice none 0 0] 31) = W0 at b0 ⊢
  refine (unhide kC W0 b0.below).mono ?_
  rintro e W1 ⟨rfl, hb1⟩
  have b1 := hide (b0.on hb1)
  have c0 := block_cell (unhide b1).one 0
  have c1 := block_cell (unhide b1).one 1
  have d0 := block_cell (unhide b1).two 0
  have d1 := block_cell (unhide b1).two 1
  simp only [List.getElem?_toArray, List.getElem?_cons_zero, List.getElem?_cons_succ] at c0 c1 d0 d1
  clear b0 hb1 kC
  go_wp2_with fail
  refine (unhide kD W1).mono ?_
  rintro e W2 ⟨rfl, hb2⟩
  have b2 := (unhide b1).on hb2
  have e0 := block_cell b2.three 0
  have e1 := block_cell b2.three 1
  have e2 := block_cell b2.three 2
  have g0 := block_frozen b2.three 0
  have g1 := block_frozen b2.three 1
  have g2 := block_frozen b2.three 2
  simp only [List.getElem?_toArray, List.getElem?_cons_zero, List.getElem?_cons_succ] at e0 e1 e2
  have b2 := hide b2
  clear b1 c0 c1 d0 d1 hb2 kD
  go_wp2
  obtain ⟨k2, k3, k4, k6⟩ := set3' (a := .int .i64 0) (b := .int .i64 0) (c := .slice none 0 0) (unhide b2)
  refine bodyPost_ret (results_three_tmp (P := Try.prog) rfl _ _ (w.heap.size + 2) (.int .i64 0) (.int .i64 0) (.slice none 0 0) (.int .i64 60) _ rfl rfl k2 k3 k4 Try.underlying31 rfl (by kernel_rfl)) rfl ?_
  exact ⟨rfl, k6⟩
end Go.Proofs.Ytjmdlgekheehgaa
