/- plane.Forward. -/
import Derived.Test.YtgbffbikieikdaaPD
import Derived.Test.YtgbffbikieikdaaG1
namespace Go.Proofs.Ytgbffbikieikdaa
open Go.RowKit Fl
attribute [local go_sem] store_complex

theorem rowDo_forward {L n b g : Nat} {K : World → Prop} {f : Nat → Nat → Nat × Nat} {F : Nat → Nat → Int × Int} (hS : Side L n) (hb : 60 ≤ b) (hb2 : b ≤ 1900) (hF : Field (2 ^ L) b f F) : RowDo 12 n g K f (fun j => fft L 4095 (f j)) := by
  intro y hy w cap hc _ hsp
  have hL := hS.len
  have hn := hS.hn
  exact forwardSpan hb hb2 (by omega) hn ⟨F y, fun j hj => hF.cv y (by omega) j (by omega), fun j hj => hF.le y (by omega) j (by omega)⟩ hc w hsp

/-- What the answer's place holds, in a world that has grown. -/
theorem ans_below {w w' : World} {a b : Value} {s B : Nat} (h0 : w.cell? ⟨s, 0, none⟩ = some a) (h1 : w.cell? ⟨s, 1, none⟩ = some b) (f0 : w.frozen? ⟨s, 0, none⟩ = false) (f1 : w.frozen? ⟨s, 1, none⟩ = false) (hb : Below B w w') (hs : s < B) :
    w'.cell? ⟨s, 0, none⟩ = some a ∧ w'.cell? ⟨s, 1, none⟩ = some b ∧ w'.frozen? ⟨s, 0, none⟩ = false ∧ w'.frozen? ⟨s, 1, none⟩ = false :=
  ⟨(hb.cell hs).trans h0, (hb.cell hs).trans h1, (hb.frozen hs).trans f0, (hb.frozen hs).trans f1⟩

set_option maxHeartbeats 1600000 in
theorem planeForwardAny {L n b g cap : Nat} {f : Nat → Nat → Nat × Nat} {F : Nat → Nat → Int × Int} (hS : Side L n) (hb : 60 ≤ b) (hb2 : b ≤ 1800) (hF : Field (2 ^ L) b f F) (w : World) (hR : Row w g (n * n) (flat n f)) :
    Calls Try.prog 6 #[gridV n g (n * n) cap] w fun e w' =>
      ∃ g', e = .returned (.tuple #[gridV n g' (n * n) (n * n), .int .i64 0]) ∧ w.heap.size ≤ g' ∧ Row w' g' (n * n) (flat n (planeB L f)) ∧ Below w.heap.size w w' := by
  have hL := hS.len
  obtain ⟨R, hF1, _⟩ := rows_near 4095 (by decide) hb (by omega) (show L ≤ 12 by omega) hF
  have hC := hide (fun w => byRowsAny (g := g) (cap := cap) (f := f) (R1 := fun j => fft L 4095 (f j)) (R2 := fun j => fft L 4095 (fun i => fft L 4095 (f i) j)) hS ent_forward w (fun g' => rowDo_forward hS hb (by omega) hF)
    (fun g' => rowDo_forward (F := fun j i => R i j) hS (by omega) (by omega) ⟨fun j hj i hi => hF1.cv i hi j hj, fun j hj i hi => hF1.le i hi j hj⟩))
  have hR1 : Row ((w.alloc (.cells #[.int .i64 n, .slice (some ⟨g, 0, none⟩) (n * n : Nat) cap] 26)).alloc (.cells #[.int .i64 0, .slice none 0 0] 26)) g (n * n) (flat n f) :=
    row_keep (row_keep hR (Below.heap_alloc _ _ _ (row_lt hR))) (Below.heap_alloc _ _ _ (by simp; have := row_lt hR; omega))
  have hC := hide (unhide hC _ hR1)
  clear hR1 hF1 hF hR hS
  unfold gridV at *
  generalize n * n = m at *
  go_enter Try.func6, Try.ntmps6
  go_wp2_with fail
  refine (unhide hC).mono ?_
  rintro e w1 ⟨g1, rfl, hg1, hR1, hb1⟩
  obtain ⟨c1, c2, c3, c4⟩ := ans_below (s := w.heap.size + 1) (a := .int .i64 0) (b := .slice none 0 0) (by simp [go_sem]) (by simp [go_sem]) (by simp [go_sem]) (by simp [go_sem]) hb1 (by simp)
  have hB1 : Hid (Below w.heap.size w w1) := (((Below.refl _ _).alloc (Nat.le_refl _) _).alloc (by simp) _).trans (hb1.mono (by simp; omega))
  have hg1 : Hid (w.heap.size + 2 ≤ g1) := by
    simp at hg1
    exact hg1
  have hR1 := hide hR1
  clear hb1 hC
  go_wp2_with fail
  refine bodyPost_ret (results_two_tmp (P := Try.prog) rfl _ _ (w.heap.size + 1) (.int .i64 n) (.slice (some ⟨g1, 0, none⟩) m m) (.int .i64 0) _ rfl rfl ?r0 ?r1 Try.underlying26 rfl (by kernel_rfl)) rfl ?_
  case r0 => simp [go_sem, c1]
  case r1 => simp [go_sem, c2]
  have hne : g1 ≠ w.heap.size + 1 := by
    have := unhide hg1
    omega
  refine ⟨g1, rfl, by have := unhide hg1; omega, row_keep (unhide hR1) ?_, ((unhide hB1).setCell (by simp) _).setCell (by simp) _⟩
  rw [Below.heap_setCell _ _ _ _ (by simpa using hne), Below.heap_setCell _ _ _ _ (by simpa using hne)]
end Go.Proofs.Ytgbffbikieikdaa
