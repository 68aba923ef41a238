/- plane.Back, plane.Across. -/
import Derived.Test.YtgbffbikieikdaaDoorPE
import Derived.Test.YtgbffbikieikdaaDoorR9
namespace Go.Proofs.YtgbffbikieikdaaDoor
open Go.RowKit Fl
attribute [local go_sem] store_complex

theorem ent_back (w : World) (args : Array Value) : (callFunc 16 args).run Tryd.prog w = .ok (.enter 16 args) w := by
  simp [go_sem]

theorem rowDo_back {L n b g : Nat} {w0 : World} {f s : Nat → Nat → Nat × Nat} {F : Nat → Nat → Int × Int} (hS : Side L n) (hb : 60 ≤ b) (hb2 : b ≤ 1900) (hD : Deb w0) (hF : Field (2 ^ L) b f F)
    (hs : ∀ j, j < n → ∀ k, k < n → LdTo L (fft L 1 (f j) k).1 (s j k).1 ∧ LdTo L (fft L 1 (f j) k).2 (s j k).2) : RowDo 16 n g (Below w0.heap.size w0) f s := by
  intro y hy w cap hc hK hsp
  have hL := hS.len
  have hn := hS.hn
  exact backSpan hb hb2 (by omega) hn ⟨F y, fun j hj => hF.cv y (by omega) j (by omega), fun j hj => hF.le y (by omega) j (by omega)⟩ hc (hs y hy) w (deb_below hD hK (deb_lt hD)) hsp

set_option maxHeartbeats 1600000 in
theorem planeBackAny {L n b b' g cap : Nat} {f s1 s2 : Nat → Nat → Nat × Nat} {F F1 : Nat → Nat → Int × Int} (hS : Side L n) (hb : 60 ≤ b) (hb2 : b ≤ 1900) (hb' : 60 ≤ b') (hb2' : b' ≤ 1900) (hF : Field (2 ^ L) b f F) (hF1 : Field (2 ^ L) b' s1 F1)
    (h1 : ∀ j, j < n → ∀ k, k < n → LdTo L (rowsB L 1 f j k).1 (s1 j k).1 ∧ LdTo L (rowsB L 1 f j k).2 (s1 j k).2)
    (h2 : ∀ j, j < n → ∀ k, k < n → LdTo L (colsB L 1 s1 j k).1 (s2 j k).1 ∧ LdTo L (colsB L 1 s1 j k).2 (s2 j k).2) (w : World) (hD : Deb w) (hR : Row w g (n * n) (flat n f)) :
    Calls Tryd.prog 8 #[gridV n g (n * n) cap] w fun e w' =>
      ∃ g', e = .returned (.tuple #[gridV n g' (n * n) (n * n), .int .i64 0]) ∧ w.heap.size ≤ g' ∧ Row w' g' (n * n) (flat n s2) ∧ Below w.heap.size w w' := by
  have hL := hS.len
  have hC := hide (fun w hD => byRowsAny (g := g) (cap := cap) (f := f) (R1 := s1) (R2 := fun j i => s2 i j) hS ent_back w (fun g' => rowDo_back hS hb hb2 hD hF h1)
    (fun g' => rowDo_back (F := fun j i => F1 i j) hS hb' hb2' hD ⟨fun j hj i hi => hF1.cv i hi j hj, fun j hj i hi => hF1.le i hi j hj⟩ (fun j hj k hk => h2 k hk j hj)))
  have hR1 : Row ((w.alloc (.cells #[.int .i64 n, .slice (some ⟨g, 0, none⟩) (n * n : Nat) cap] 26)).alloc (.cells #[.int .i64 0, .slice none 0 0] 26)) g (n * n) (flat n f) :=
    row_keep (row_keep hR (Below.heap_alloc _ _ _ (row_lt hR))) (Below.heap_alloc _ _ _ (by simp; have := row_lt hR; omega))
  have hD1 : Deb ((w.alloc (.cells #[.int .i64 n, .slice (some ⟨g, 0, none⟩) (n * n : Nat) cap] 26)).alloc (.cells #[.int .i64 0, .slice none 0 0] 26)) :=
    deb_below hD (((Below.refl w.heap.size w).alloc (Nat.le_refl _) _).alloc (by simp) _) (deb_lt hD)
  have hC := hide (unhide hC _ hD1 hR1)
  clear hR1 hF1 hF hR hS hD hD1 h1 h2
  unfold gridV at *
  generalize n * n = m at *
  go_enter Tryd.func8, Tryd.ntmps8
  go_wp2_with fail
  refine (unhide hC).mono ?_
  rintro e w1 ⟨g1, rfl, hg1, hR1, hb1⟩
  obtain ⟨c1, c2, c3, c4⟩ := ans_below (s := w.heap.size + 1) (a := .int .i64 0) (b := .slice none 0 0) (by simp [go_sem]) (by simp [go_sem]) (by simp [go_sem]) (by simp [go_sem]) hb1 (by simp)
  have hB1 : Hid (Below w.heap.size w w1) := (((Below.refl _ _).alloc (Nat.le_refl _) _).alloc (by simp) _).trans (hb1.mono (by simp; omega))
  have hg1 : Hid (w.heap.size + 2 ≤ g1) := by
    simp at hg1
    exact hg1
  have hR1 := hide hR1
  clear hb1 hC
  go_wp2_with fail
  refine bodyPost_ret (results_two_tmp (P := Tryd.prog) rfl _ _ (w.heap.size + 1) (.int .i64 n) (.slice (some ⟨g1, 0, none⟩) m m) (.int .i64 0) _ rfl rfl ?r0 ?r1 Tryd.underlying26 rfl (by kernel_rfl)) rfl ?_
  case r0 => simp [go_sem, c1]
  case r1 => simp [go_sem, c2]
  have hne : g1 ≠ w.heap.size + 1 := by
    have := unhide hg1
    omega
  refine ⟨g1, rfl, by have := unhide hg1; omega, row_keep (unhide hR1) ?_, ((unhide hB1).setCell (by simp) _).setCell (by simp) _⟩
  rw [Below.heap_setCell _ _ _ _ (by simpa using hne), Below.heap_setCell _ _ _ _ (by simpa using hne)]

set_option maxHeartbeats 1600000 in
theorem acrossAny {L n g cap : Nat} {f : Nat → Nat → Nat × Nat} (hS : Side L n) (w : World) (hR : Row w g (n * n) (flat n f)) :
    Calls Tryd.prog 12 #[gridV n g (n * n) cap] w fun e w' =>
      ∃ g', e = .returned (.tuple #[gridV n g' (n * n) (n * n), .int .i64 0]) ∧ w.heap.size ≤ g' ∧ Row w' g' (n * n) (flat n (fun j i => f i j)) ∧ Below w.heap.size w w' := by
  obtain ⟨n1, n64⟩ := hS.le
  have hsq := square_le n64
  have hr := hide (fun w => rightAny (g := g) (cap := cap) hS w)
  have ht := hide (fun w h => takenAny (n := n) (g := g) (cap := cap) (f := flat n f) hsq w h)
  have hx1 := hide (fun (g' : Nat) (w' : World) => exchangeAny (g := g') (cap := n * n) (f := f) n64 w')
  have hR := hide hR
  clear hS hsq
  unfold gridV at *
  generalize n * n = m at *
  go_enter Tryd.func12, Tryd.ntmps12
  go_wp2_with fail
  refine (unhide hr _).mono ?_
  rintro e w1 ⟨rfl, hb1⟩
  have hB1 : Below w.heap.size w w1 := (((Below.refl _ _).alloc (Nat.le_refl _) _).alloc (by simp) _).trans (hb1.mono (by simp; omega))
  have b1 : w1.cell? ⟨w.heap.size, 0, none⟩ = some (.int .i64 n) := by rw [hb1.cell (by simp; omega)]; simp [go_sem]
  have b2 : w1.cell? ⟨w.heap.size, 1, none⟩ = some (.slice (some ⟨g, 0, none⟩) m cap) := by rw [hb1.cell (by simp; omega)]; simp [go_sem]
  have b3 : w1.cell? ⟨w.heap.size + 1, 0, none⟩ = some (.int .i64 0) := by rw [hb1.cell (by simp)]; simp [go_sem]
  have b4 : w1.cell? ⟨w.heap.size + 1, 1, none⟩ = some (.slice none 0 0) := by rw [hb1.cell (by simp)]; simp [go_sem]
  have b5 : w1.frozen? ⟨w.heap.size + 1, 0, none⟩ = false := by rw [hb1.frozen (by simp)]; simp [go_sem]
  have b6 : w1.frozen? ⟨w.heap.size + 1, 1, none⟩ = false := by rw [hb1.frozen (by simp)]; simp [go_sem]
  have hz1 : Hid (w.heap.size + 1 < w1.heap.size) := by
    have := hb1.size
    simp at this
    show _ < _
    omega
  have ht := hide (unhide ht w1 (row_below (unhide hR) hB1 (row_lt (unhide hR))))
  have hB1 := hide hB1
  clear hb1 hR hr
  go_wp2_with fail
  refine (unhide ht).mono ?_
  rintro e w2 ⟨g2, rfl, hg2, hR2, hb2⟩
  have hB2 : Below w.heap.size w w2 := (unhide hB1).trans (hb2.mono (unhide hB1).size)
  have b3 : w2.cell? ⟨w.heap.size + 1, 0, none⟩ = some (.int .i64 0) := (hb2.cell (unhide hz1)).trans b3
  have b4 : w2.cell? ⟨w.heap.size + 1, 1, none⟩ = some (.slice none 0 0) := (hb2.cell (unhide hz1)).trans b4
  have b5 : w2.frozen? ⟨w.heap.size + 1, 0, none⟩ = false := (hb2.frozen (unhide hz1)).trans b5
  have b6 : w2.frozen? ⟨w.heap.size + 1, 1, none⟩ = false := (hb2.frozen (unhide hz1)).trans b6
  have hz2 : Hid (w.heap.size + 1 < w2.heap.size ∧ w.heap.size + 1 < g2 ∧ g2 < w2.heap.size) := ⟨Nat.lt_of_lt_of_le (unhide hz1) hb2.size, Nat.lt_of_lt_of_le (unhide hz1) hg2, row_lt hR2⟩
  have hR2 := hide hR2
  have hB2 := hide hB2
  clear hb2 ht hB1 b1 b2 hg2 hz1
  have B : Hid (Box w2 n g2 m (w.heap.size + 1)) := by
    obtain ⟨z1, z2, z3⟩ := unhide hz2
    exact box_of b3 b4 b5 b6 (by omega) (by omega)
  have hR3 : Row (w2.alloc (.cells #[.int .i64 n, .slice (some ⟨g2, 0, none⟩) m m] 26)) g2 m (flat n f) := row_keep (unhide hR2) (Below.heap_alloc _ _ _ (unhide hz2).2.2)
  have hB3 : Below w.heap.size w (w2.alloc (.cells #[.int .i64 n, .slice (some ⟨g2, 0, none⟩) m m] 26)) := (unhide hB2).alloc (unhide hB2).size _
  have hgg : Hid (w.heap.size ≤ g2) := by
    have := (unhide hz2).2.1
    show _ ≤ _
    omega
  have hC := hide (unhide hx1 g2 _ hR3)
  have hB3 := hide hB3
  clear b3 b4 b5 b6 hR3 hx1
  go_wp2_with fail
  refine (unhide hC).mono ?_
  rintro e w7 ⟨rfl, hR7, hg7⟩
  obtain ⟨c1, c2, c3, c4, c5, c6⟩ := unhide B w7 hg7
  have hB7 := hide (below_grow (Nat.le_refl _) (unhide hgg) hg7 (unhide hB3))
  have hR7 := hide hR7
  have hn2 := hide (unhide hz2).2.1
  clear hg7 hC hB3 hB2 B hz2
  go_wp2_with fail
  refine bodyPost_ret (results_two_tmp (P := Tryd.prog) rfl _ _ (w.heap.size + 1) (.int .i64 n) (.slice (some ⟨g2, 0, none⟩) m m) (.int .i64 0) _ rfl rfl ?r0 ?r1 Tryd.underlying26 rfl (by kernel_rfl)) rfl ?_
  case r0 => simp [go_sem, c3]
  case r1 => simp [go_sem, c4]
  refine ⟨g2, rfl, unhide hgg, row_keep (unhide hR7) ?_, ((unhide hB7).setCell (by simp) _).setCell (by simp) _⟩
  have hne : g2 ≠ w.heap.size + 1 := by
    have := unhide hn2
    omega
  rw [Below.heap_setCell _ _ _ _ (by simpa using hne), Below.heap_setCell _ _ _ _ (by simpa using hne)]
end Go.Proofs.YtgbffbikieikdaaDoor
