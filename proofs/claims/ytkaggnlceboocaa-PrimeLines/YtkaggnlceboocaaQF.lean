/- The fixed fact of layer 15: Forward of one grid of side 2. -/
import Derived.Test.YtkaggnlceboocaaQS
import Derived.Test.YtkaggnlceboocaaQC
namespace Go.Proofs.Ytkaggnlceboocaa
open Go.RowKit Fl

def x4 (i : Nat) : Nat × Nat := ([4607182418800017408, 4611686018427387904, 4613937818241073152, 4616189618054758400].getD i 0, 0)
def z4 (i : Nat) : Int × Int := ((i : Int) + 1, 0)

theorem cell4 (j : Nat) (hj : j < 2 * 2) : Cell (x4 j) (z4 j) 4 := by
  rcases (by omega : j = 0 ∨ j = 1 ∨ j = 2 ∨ j = 3) with rfl | rfl | rfl | rfl
  · exact ⟨⟨iv_of 1 (by decide) (by decide +kernel), iv_zero⟩, by decide, by decide, by decide, by decide, by decide, by decide⟩
  · exact ⟨⟨iv_of 2 (by decide) (by decide +kernel), iv_zero⟩, by decide, by decide, by decide, by decide, by decide, by decide⟩
  · exact ⟨⟨iv_of 3 (by decide) (by decide +kernel), iv_zero⟩, by decide, by decide, by decide, by decide, by decide, by decide⟩
  · exact ⟨⟨iv_of 4 (by decide) (by decide +kernel), iv_zero⟩, by decide, by decide, by decide, by decide, by decide, by decide⟩

theorem row4 (w : World) : Row (w.alloc (.cells #[.complex .f64 4607182418800017408 0, .complex .f64 4611686018427387904 0, .complex .f64 4613937818241073152 0, .complex .f64 4616189618054758400 0] 36)) w.heap.size (2 * 2) x4 := by
  refine ⟨_, heap_alloc_new w _, by decide, fun i hi => ?_⟩
  rcases (by omega : i = 0 ∨ i = 1 ∨ i = 2 ∨ i = 3) with rfl | rfl | rfl | rfl <;> rfl

theorem infoCC : (Try.prog.info? 37).map (fun i => (i.zero, i.size, i.bytes)) = some (some (.slice none 0 0), 1, 24) := by kernel_rfl

/-- What stands while the lists are laid: those that are there, the row that holds them, the grid's box. -/
structure Lists (w : World) (N NN g c gl : Nat) (z : Nat → Int × Int) (xs : List Value) (m : Nat) (W : World) : Prop where
  gt : w.heap.size < gl
  owns : W.ownsRow w.heap.size 37 1 (.slice (some ⟨gl, 0, none⟩) (N + 1 : Nat) (N + 1 : Nat)) (N + 1) xs
  rows : ∀ j, j < m → ∃ g' f', xs[j]? = some (.slice (some ⟨g', 0, none⟩) N N) ∧ gl < g' ∧ Row W g' N f' ∧ ∀ t, t < N → IC (f' t) (sumZ z N j t N)
  box : W.heap[w.heap.size]? = some (.cells #[.int .i64 N, .slice (some ⟨g, 0, none⟩) NN c] 39 (0, 0))
  below : Below w.heap.size w W

theorem Lists.lt {w W : World} {N NN g c gl m : Nat} {z : Nat → Int × Int} {xs : List Value} (h : Lists w N NN g c gl z xs m W) : gl < W.heap.size := (h.owns.lt _ rfl).2

theorem Lists.on {w W W' : World} {N NN g c gl m : Nat} {z : Nat → Int × Int} {xs : List Value} (h : Lists w N NN g c gl z xs m W) (hb : Below W.heap.size W W') : Lists w N NN g c gl z xs m W' := by
  have h1 := h.lt
  have h0 := h.gt
  refine ⟨h0, owns_keep h.owns (hb.block _ h1), fun j hj => ?_, (hb.block _ (by omega)).trans h.box, h.below.trans (hb.mono h.below.size)⟩
  obtain ⟨g', f', a, b, r, d⟩ := h.rows j hj
  exact ⟨g', f', a, b, row_below r hb (row_lt r), d⟩

theorem Lists.set {w W : World} {N NN g c gl m g' : Nat} {f' : Nat → Nat × Nat} {z : Nat → Int × Int} {xs : List Value} (h : Lists w N NN g c gl z xs m W) (hm : m < N + 1) (hg : gl < g') (hR : Row W g' N f') (hI : ∀ t, t < N → IC (f' t) (sumZ z N m t N)) :
    Lists w N NN g c gl z (xs.set m (.slice (some ⟨g', 0, none⟩) N N)) (m + 1) (W.setCell ⟨gl, m, none⟩ (.slice (some ⟨g', 0, none⟩) N N)) := by
  have hl := h.owns.1
  have h0 := h.gt
  refine ⟨h0, (h.owns.stored m _).1, fun j hj => ?_, (Below.heap_setCell _ _ _ _ (by show w.heap.size ≠ gl; omega)).trans h.box, h.below.setCell (p := ⟨gl, m, none⟩) (by show w.heap.size ≤ gl; omega) _⟩
  by_cases e : j = m
  · subst e
    exact ⟨g', f', List.getElem?_set_self (by omega), hg, row_keep hR (Below.heap_setCell _ _ _ _ (by show g' ≠ gl; omega)), hI⟩
  · obtain ⟨g2, f2, a, b, r, d⟩ := h.rows j (by omega)
    exact ⟨g2, f2, by rw [List.getElem?_set_ne (by omega)]; exact a, b, row_keep r (Below.heap_setCell _ _ _ _ (by show g2 ≠ gl; omega)), d⟩

set_option maxRecDepth 100000 in
set_option maxHeartbeats 3200000 in
theorem forwardAny {N g c m : Nat} {f : Nat → Nat × Nat} {z : Nat → Int × Int} (w : World) (hp : isP (N : Int) = true) (hR : Row w g (N * N) f) (hz : ∀ j, j < N * N → Cell (f j) (z j) m) (hm : m ≤ 1048576) :
    Calls Try.prog 9 #[gridV N g c] w fun e w' => ∃ gl xs, e = .returned (.tuple #[.slice (some ⟨gl, 0, none⟩) (N + 1 : Nat) (N + 1 : Nat), .int .i64 0]) ∧ w'.ownsRow w.heap.size 37 1 (.slice (some ⟨gl, 0, none⟩) (N + 1 : Nat) (N + 1 : Nat)) (N + 1) xs ∧
      (∀ j, j < N + 1 → ∃ g' f', xs[j]? = some (.slice (some ⟨g', 0, none⟩) N N) ∧ Row w' g' N f' ∧ ∀ t, t < N → IC (f' t) (sumZ z N j t N)) ∧ Below w.heap.size w w' := by
  obtain ⟨i0, hi0, hz0, hz1, hz2⟩ := info_parts infoCC
  obtain ⟨N', e, h1, h2, _⟩ := isP_nat hp
  obtain rfl : N = N' := by omega
  clear e
  have kI := hide (fun W => primeIsAny (N : Int) W)
  rw [hp] at kI
  have kC := hide (fun W (hR : Row W g (N * N) f) => gridCheck (c := c) W (by omega) (by omega) hR hz hm)
  have kS := hide (fun W M (hM : M ≤ N) (hR : Row W g (N * N) f) => sumsAny (c := c) W (by omega) h2 hM hR hz hm)
  unfold gridV at *
  clear hp hz
  generalize N * N = NN at *
  have hb1 := (Below.refl w.heap.size w).alloc (Nat.le_refl _) (.cells #[.int .i64 N, .slice (some ⟨g, 0, none⟩) NN c] 39)
  have kC1 := hide (unhide kC _ (row_below hR hb1 (row_lt hR)))
  have hc1 := hide (heap_alloc_new w (.cells #[.int .i64 N, .slice (some ⟨g, 0, none⟩) NN c] 39))
  have hs1 := hide (World.size_alloc w (.cells #[.int .i64 N, .slice (some ⟨g, 0, none⟩) NN c] 39))
  have hR := hide hR
  have hb1 := hide hb1
  have n1 : IntKind.i64.wrap ((N : Int) + 1) = ((N + 1 : Nat) : Int) := by rw [IntKind.wrap_i64]; omega
  clear kC
  go_enter Try.func9, Try.ntmps9
  go_wp2_with fail
  generalize w.alloc (.cells #[.int .i64 N, .slice (some ⟨g, 0, none⟩) NN c] 39) = W1 at *
  refine (unhide kC1).mono ?_
  rintro e W2 ⟨rfl, hb2⟩
  have hsz1 := unhide hs1
  have hbx := (hb2.block w.heap.size (by omega)).trans (unhide hc1)
  have hs2 : w.heap.size + 1 ≤ W2.heap.size := by have := hb2.size; omega
  have hb2 := hide ((unhide hb1).trans (hb2.mono (unhide hb1).size))
  have k0 := cell_of_row _ _ 0 _ _ (0, 0) hbx
  simp only [List.getElem?_toArray, List.getElem?_cons_zero] at k0
  have hbx := hide hbx
  clear kC1 hc1 hs1 hb1 hsz1
  go_wp2_with fail
  refine (unhide kI _).mono ?_
  rintro e W2' ⟨rfl, hw⟩
  obtain rfl := hw.symm
  clear kI
  go_wp2_with (first
    | (at_make; refine wpList_make_full _ rfl (.tmp 18) (.tmp 18) 33 rfl w.heap.size 37 i0 (.slice none 0 0) 1 Try.underlying33 hi0 hz0 hz1 .i64 .i64 (N + 1 : Nat) (N + 1 : Nat) (N + 1) rfl rfl rfl rfl ?c1 ?c2 ?c3 ?_))
  case c1 => rw [hz2]; omega
  case c2 => unfold maxLen; omega
  case c3 => omega
  intro W3 hown3 hg3
  have hb3 := grown_below hg3
  have L0 : Hid (Lists w N NN g c W2.heap.size z _ 0 W3) := ⟨hs2, hown3, fun j hj => absurd hj (by omega), (hb3.block _ (by omega)).trans (unhide hbx), (unhide hb2).trans (hb3.mono (by omega))⟩
  have hgw : g < w.heap.size := row_lt (unhide hR)
  clear hown3 hg3 hb3 hbx hb2 k0
  generalize W2.heap.size = gl at *
  go_wp2_with fail
  go_loopw [22] (fun mv wr => ∃ (m : Nat) (xs : List Value), m ≤ N + 1 ∧ mv = .int .i64 m ∧ Hid (Lists w N NN g c gl z xs m wr)) (fun mv _ => N + 1 - (intOf mv).toNat)
  case atStart => exact ⟨0, _, Nat.zero_le _, rfl, L0⟩
  case round =>
    clear L0
    obtain ⟨m, xs, hmN, rfl, L⟩ := hrel
    by_cases hc : m < N + 1
    · have q1 : ((m : Int) < ((N + 1 : Nat) : Int)) = True := by simp; omega
      have q1' : ((m : Int) < (N : Int) + 1) = True := by simp; omega
      have kx := hide (unhide kS wr m (by omega) (row_below (unhide hR) (unhide L).below hgw))
      have k0 := cell_of_row _ _ 0 _ _ (0, 0) (unhide L).box
      have k1 := cell_of_row _ _ 1 _ _ (0, 0) (unhide L).box
      simp only [List.getElem?_toArray, List.getElem?_cons_zero, List.getElem?_cons_succ] at k0 k1
      go_wp2_with fail
      refine (unhide kx).mono ?_
      rintro e w3 ⟨g', f', rfl, hg', hR', hI', hb3⟩
      have hlt := (unhide L).lt
      have L3 := (unhide L).on hb3
      have hl := L3.owns.1
      have c1 : w3.cell? ⟨gl, m, none⟩ = some xs[m] := (L3.owns.cellAt _ (by omega)).trans (List.getElem?_eq_getElem (by omega))
      have z1 : w3.frozen? ⟨gl, m, none⟩ = false := L3.owns.frozenAt _
      have L4 := hide (L3.set hc (by omega) hR' hI')
      generalize xs[m] = y1 at c1
      clear kx k0 k1 L L3 hl hb3 hR' hI'
      go_wp2_with fail
      exact ⟨⟨m + 1, _, hc, by go_num, L4⟩, by simp [intOf]; omega⟩
    · have q1 : ((m : Int) < ((N + 1 : Nat) : Int)) = False := by simp; omega
      have q1' : ((m : Int) < (N : Int) + 1) = False := by simp; omega
      have e : m = N + 1 := by omega
      subst e
      go_wp2_with fail
      go_ret2
      exact ⟨gl, xs, rfl, (unhide L).owns, fun j hj => by
        obtain ⟨g', f', a, _, r, d⟩ := (unhide L).rows j hj
        exact ⟨g', f', a, r, d⟩, (unhide L).below⟩
end Go.Proofs.Ytkaggnlceboocaa
