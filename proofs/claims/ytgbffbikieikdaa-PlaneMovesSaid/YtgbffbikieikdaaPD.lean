/- The transform of a field by rows and then by columns; rows and columns exchanged. -/
import Derived.Test.YtgbffbikieikdaaPC
namespace Go.Proofs.Ytgbffbikieikdaa
open Go.RowKit Fl
attribute [local go_sem] store_complex

theorem below_grow {B g : Nat} {w0 w w' : World} (hB : B ≤ w0.heap.size) (hg : B ≤ g) (h : w.grownBy w' (some g)) (hb : Below B w0 w) : Below B w0 w' :=
  hb.grown h (Nat.le_trans hB hb.size) (fun k hk => by cases hk; exact hg)

/-- The box of the field and the place of the answer, whatever is done to the field's own cells. -/
def Box (w2 : World) (n g2 m s : Nat) : Prop := ∀ w' : World, (w2.alloc (.cells #[.int .i64 n, .slice (some ⟨g2, 0, none⟩) m m] 26)).grownBy w' (some g2) →
  w'.cell? ⟨w2.heap.size, 0, none⟩ = some (.int .i64 n) ∧ w'.cell? ⟨w2.heap.size, 1, none⟩ = some (.slice (some ⟨g2, 0, none⟩) m m) ∧
  w'.cell? ⟨s, 0, none⟩ = some (.int .i64 0) ∧ w'.cell? ⟨s, 1, none⟩ = some (.slice none 0 0) ∧ w'.frozen? ⟨s, 0, none⟩ = false ∧ w'.frozen? ⟨s, 1, none⟩ = false

theorem box_of {w2 : World} {n g2 m s : Nat} (b3 : w2.cell? ⟨s, 0, none⟩ = some (.int .i64 0)) (b4 : w2.cell? ⟨s, 1, none⟩ = some (.slice none 0 0)) (b5 : w2.frozen? ⟨s, 0, none⟩ = false) (b6 : w2.frozen? ⟨s, 1, none⟩ = false)
    (hs : s < w2.heap.size) (hg : g2 < w2.heap.size ∧ s ≠ g2) : Box w2 n g2 m s := by
  intro w' h
  have hsz : s < (w2.alloc (.cells #[.int .i64 n, .slice (some ⟨g2, 0, none⟩) m m] 26)).heap.size := by simp; omega
  have hb := Below.heap_alloc w2 (.cells #[.int .i64 n, .slice (some ⟨g2, 0, none⟩) m m] 26) s hs
  refine ⟨cell_grown h (by simp [go_sem]) (by simp; omega), cell_grown h (by simp [go_sem]) (by simp; omega), cell_grown h ((World.cell?_of_block hb).trans b3) (by simpa using hg.2), cell_grown h ((World.cell?_of_block hb).trans b4) (by simpa using hg.2),
    frozen_grown h hsz ((World.frozen?_of_block hb).trans b5) (by simpa using hg.2), frozen_grown h hsz ((World.frozen?_of_block hb).trans b6) (by simpa using hg.2)⟩

set_option maxHeartbeats 3200000 in
theorem byRowsAny {fid L n g cap : Nat} {f R1 R2 : Nat → Nat → Nat × Nat} (hS : Side L n) (hent : ∀ (w : World) (args : Array Value), (callFunc fid args).run Try.prog w = .ok (.enter fid args) w) (w : World)
    (h1 : ∀ g', RowDo fid n g' (Below w.heap.size w) f R1) (h2 : ∀ g', RowDo fid n g' (Below w.heap.size w) (fun j i => R1 i j) R2) (hR : Row w g (n * n) (flat n f)) :
    Calls Try.prog 11 #[gridV n g (n * n) cap, .func (.func fid) #[] #[]] w fun e w' =>
      ∃ g', e = .returned (.tuple #[gridV n g' (n * n) (n * n), .int .i64 0]) ∧ w.heap.size ≤ g' ∧ Row w' g' (n * n) (flat n (fun j i => R2 i j)) ∧ Below w.heap.size w w' := by
  obtain ⟨n1, n64⟩ := hS.le
  have hsq := square_le n64
  have hr := hide (fun w => rightAny (g := g) (cap := cap) hS w)
  have ht := hide (fun w h => takenAny (n := n) (g := g) (cap := cap) (f := flat n f) hsq w h)
  have hc1 := hide (fun (g' : Nat) (hg' : w.heap.size ≤ g') (w' : World) => rowsAny (g := g') (cap := n * n) (K := Below w.heap.size w) (f := f) (R := R1) n1 n64 (Nat.le_refl _) (fun a b hab hk => below_grow (Nat.le_refl _) hg' hab hk) (h1 g') hent w')
  have hx1 := hide (fun (g' : Nat) (w' : World) => exchangeAny (g := g') (cap := n * n) (f := R1) n64 w')
  have hc2 := hide (fun (g' : Nat) (hg' : w.heap.size ≤ g') (w' : World) => rowsAny (g := g') (cap := n * n) (K := Below w.heap.size w) (f := fun j i => R1 i j) (R := R2) n1 n64 (Nat.le_refl _) (fun a b hab hk => below_grow (Nat.le_refl _) hg' hab hk) (h2 g') hent w')
  have hx2 := hide (fun (g' : Nat) (w' : World) => exchangeAny (g := g') (cap := n * n) (f := R2) n64 w')
  have hR := hide hR
  clear h1 h2 hent hS hsq
  unfold gridV at *
  generalize n * n = m at *
  go_enter Try.func11, Try.ntmps11
  go_wp2_with fail
  refine (unhide hr _).mono ?_
  rintro e w1 ⟨rfl, hb1⟩
  have hB1 : Below w.heap.size w w1 := (((Below.refl _ _).alloc (Nat.le_refl _) _).alloc (by simp) _).trans (hb1.mono (by simp; omega))
  have b1 : w1.cell? ⟨w.heap.size, 0, none⟩ = some (.int .i64 n) := by rw [hb1.cell (by simp; omega)]; simp [go_sem]
  have b2 : w1.cell? ⟨w.heap.size, 1, none⟩ = some (.slice (some ⟨g, 0, none⟩) m cap) := by rw [hb1.cell (by simp; omega)]; simp [go_sem]
  have b3 : w1.cell? ⟨w.heap.size + 1, 0, none⟩ = some (.int .i64 0) := by rw [hb1.cell (by simp)]; simp [go_sem]
  have b4 : w1.cell? ⟨w.heap.size + 1, 1, none⟩ = some (.slice none 0 0) := by rw [hb1.cell (by simp)]; simp [go_sem]
  have b5 : w1.frozen? ⟨w.heap.size + 1, 0, none⟩ = false := by rw [hb1.frozen (by simp)]; simp [go_sem]
  have b6 : w1.frozen? ⟨w.heap.size + 1, 1, none⟩ = false := by rw [hb1.frozen (by simp)]; simp [go_sem]
  have hz1 : Hid (w.heap.size + 1 < w1.heap.size) := by
    have := hb1.size
    simp at this
    show _ < _
    omega
  have ht := hide (unhide ht w1 (row_below (unhide hR) hB1 (row_lt (unhide hR))))
  have hB1 := hide hB1
  clear hb1 hR hr
  go_wp2_with fail
  refine (unhide ht).mono ?_
  rintro e w2 ⟨g2, rfl, hg2, hR2, hb2⟩
  have hB2 : Below w.heap.size w w2 := (unhide hB1).trans (hb2.mono (unhide hB1).size)
  have b3 : w2.cell? ⟨w.heap.size + 1, 0, none⟩ = some (.int .i64 0) := (hb2.cell (unhide hz1)).trans b3
  have b4 : w2.cell? ⟨w.heap.size + 1, 1, none⟩ = some (.slice none 0 0) := (hb2.cell (unhide hz1)).trans b4
  have b5 : w2.frozen? ⟨w.heap.size + 1, 0, none⟩ = false := (hb2.frozen (unhide hz1)).trans b5
  have b6 : w2.frozen? ⟨w.heap.size + 1, 1, none⟩ = false := (hb2.frozen (unhide hz1)).trans b6
  have hz2 : Hid (w.heap.size + 1 < w2.heap.size ∧ w.heap.size + 1 < g2 ∧ g2 < w2.heap.size) := ⟨Nat.lt_of_lt_of_le (unhide hz1) hb2.size, Nat.lt_of_lt_of_le (unhide hz1) hg2, row_lt hR2⟩
  have hR2 := hide hR2
  have hB2 := hide hB2
  clear hb2 ht hB1 b1 b2 hg2 hz1
  have B : Hid (Box w2 n g2 m (w.heap.size + 1)) := by
    obtain ⟨z1, z2, z3⟩ := unhide hz2
    exact box_of b3 b4 b5 b6 (by omega) (by omega)
  have hR3 : Row (w2.alloc (.cells #[.int .i64 n, .slice (some ⟨g2, 0, none⟩) m m] 26)) g2 m (flat n f) := row_keep (unhide hR2) (Below.heap_alloc _ _ _ (unhide hz2).2.2)
  have hB3 : Below w.heap.size w (w2.alloc (.cells #[.int .i64 n, .slice (some ⟨g2, 0, none⟩) m m] 26)) := (unhide hB2).alloc (unhide hB2).size _
  have hgg : Hid (w.heap.size ≤ g2) := by
    have := (unhide hz2).2.1
    show _ ≤ _
    omega
  have hC := hide (unhide hc1 g2 (unhide hgg) _ hB3 hR3)
  have hB3 := hide hB3
  clear b3 b4 b5 b6 hR3 hc1
  go_wp2_with fail
  refine (unhide hC).mono ?_
  rintro e w4 ⟨rfl, hR4, hg4⟩
  obtain ⟨c1, c2, _⟩ := unhide B w4 hg4
  have hC := hide (unhide hx1 g2 w4 hR4)
  have hg4 := hide hg4
  clear hR4 hx1
  go_wp2_with fail
  refine (unhide hC).mono ?_
  rintro e w5 ⟨rfl, hR5, hg5⟩
  have hg5 := grown_trans (unhide hg4) hg5
  obtain ⟨c1, c2, _⟩ := unhide B w5 hg5
  have hC := hide (unhide hc2 g2 (unhide hgg) w5 (below_grow (Nat.le_refl _) (unhide hgg) hg5 (unhide hB3)) hR5)
  have hg5 := hide hg5
  clear hR5 hg4 hc2
  go_wp2_with fail
  refine (unhide hC).mono ?_
  rintro e w6 ⟨rfl, hR6, hg6⟩
  have hg6 := grown_trans (unhide hg5) hg6
  obtain ⟨c1, c2, _⟩ := unhide B w6 hg6
  have hC := hide (unhide hx2 g2 w6 hR6)
  have hg6 := hide hg6
  clear hR6 hg5 hx2
  go_wp2_with fail
  refine (unhide hC).mono ?_
  rintro e w7 ⟨rfl, hR7, hg7⟩
  have hg7 := grown_trans (unhide hg6) hg7
  obtain ⟨c1, c2, c3, c4, c5, c6⟩ := unhide B w7 hg7
  have hB7 := hide (below_grow (Nat.le_refl _) (unhide hgg) hg7 (unhide hB3))
  have hR7 := hide hR7
  have hn2 := hide (unhide hz2).2.1
  clear hg6 hg7 hC hB3 hB2 B hz2
  go_wp2_with fail
  refine bodyPost_ret (results_two_tmp (P := Try.prog) rfl _ _ (w.heap.size + 1) (.int .i64 n) (.slice (some ⟨g2, 0, none⟩) m m) (.int .i64 0) _ rfl rfl ?r0 ?r1 Try.underlying26 rfl (by kernel_rfl)) rfl ?_
  case r0 => simp [go_sem, c3]
  case r1 => simp [go_sem, c4]
  refine ⟨g2, rfl, unhide hgg, row_keep (unhide hR7) ?_, ((unhide hB7).setCell (by simp) _).setCell (by simp) _⟩
  have hne : g2 ≠ w.heap.size + 1 := by
    have := unhide hn2
    omega
  rw [Below.heap_setCell _ _ _ _ (by simpa using hne), Below.heap_setCell _ _ _ _ (by simpa using hne)]
end Go.Proofs.Ytgbffbikieikdaa
