/- Fields: the transform by rows and then by columns, rounded, near to the double sum. -/
import Derived.Test.YtgbffbikieikdaaE7
namespace Go.Proofs.Ytgbffbikieikdaa
open Fl

/-- The exact sums along the rows, along the columns; F j i: row j, column i. -/
def Dr (l c : Nat) (F : Nat → Nat → Int × Int) (j i : Nat) : Int × Int := dsum l c (fun k => F j k) i
def Dc (l c : Nat) (F : Nat → Nat → Int × Int) (j i : Nat) : Int × Int := dsum l c (fun k => F k i) j

theorem gm_right_comm (a b c : Int × Int) : gm (gm a b) c = gm (gm a c) b := by
  refine Prod.ext ?_ ?_
  · simp only [gm]; grind
  · simp only [gm]; grind

/-- Rows and columns may be exchanged. -/
theorem dr_dc (l c d : Nat) (F : Nat → Nat → Int × Int) (j i : Nat) : Dr l c (Dc l d F) j i = Dc l d (Dr l c F) j i := by
  unfold Dr Dc dsum
  have e1 : ∀ k, gm (csum (2 ^ l) (fun m => gm (F m k) (vz (d * (m * j) * 2 ^ (12 - l))))) (vz (c * (k * i) * 2 ^ (12 - l))) = csum (2 ^ l) (fun m => gm (gm (F m k) (vz (c * (k * i) * 2 ^ (12 - l)))) (vz (d * (m * j) * 2 ^ (12 - l)))) := by
    intro k
    rw [gm_csum]
    exact csum_congr fun m _ => gm_right_comm _ _ _
  rw [csum_congr fun k _ => e1 k, csum_swap]
  refine csum_congr fun m _ => ?_
  rw [gm_csum]

theorem dsum_errK {l c m e : Nat} (K : Int) {Y S : Nat → Int × Int} (h : ∀ k, k < 2 ^ l → N2 (cs (sm K (Y k)) (S k)) e) : N2 (cs (sm K (dsum l c Y m)) (dsum l c S m)) (2 ^ l * (e * 18446744073709559808)) := by
  unfold dsum
  rw [csum_sm, csum_cs]
  refine n2_csum fun k hk => ?_
  have e1 : cs (sm K (gm (Y k) (vz (c * (k * m) * 2 ^ (12 - l))))) (gm (S k) (vz (c * (k * m) * 2 ^ (12 - l)))) = gm (cs (sm K (Y k)) (S k)) (vz (c * (k * m) * 2 ^ (12 - l))) := by
    refine Prod.ext ?_ ?_
    · simp only [gm, cs, sm]; grind
    · simp only [gm, cs, sm]; grind
  rw [e1]
  exact n2_mul (h k hk) (n2_vz _)

/-- A list's transform with all that is known of it. -/
theorem fft_list (c : Nat) (hc : c % 2 = 1) (b : Nat) (hb : 60 ≤ b) (hb2 : b ≤ 1900) {l : Nat} (hl : l ≤ 12) (x : Nat → Nat × Nat) (X : Nat → Int × Int) (hx : ∀ j, j < 2 ^ l → CV (x j) (X j)) (hX : ∀ j, j < 2 ^ l → N2 (X j) (2 ^ b)) :
    ∃ Y : Nat → Int × Int, ∀ k, k < 2 ^ l → CV (fft l c x k) (Y k) ∧ N2 (Y k) (2 ^ (b + l + 1)) ∧ N2 (cs (sm 18446744073709551616 (Y k)) (dsum l c X k)) (errOf l b) := by
  have h1 : ∀ k, ∃ Y : Int × Int, k < 2 ^ l → CV (fft l c x k) Y ∧ N2 Y (2 ^ (b + l + 1)) ∧ N2 (cs (sm 18446744073709551616 Y) (dsum l c X k)) (errOf l b) := by
    intro k
    by_cases hk : k < 2 ^ l
    · obtain ⟨Y, cY, nY⟩ := fft_near c hc b hb hb2 l hl x X hx hX k hk
      exact ⟨Y, fun _ => ⟨cY, y_small hl hX nY, nY⟩⟩
    · exact ⟨(0, 0), fun h => absurd h hk⟩
  obtain ⟨Y, hY⟩ := Classical.axiomOfChoice h1
  exact ⟨Y, hY⟩

/-- The rows' transforms; then the columns'. -/
def rowsB (l c : Nat) (f : Nat → Nat → Nat × Nat) (j i : Nat) : Nat × Nat := fft l c (f j) i
def colsB (l c : Nat) (f : Nat → Nat → Nat × Nat) (j i : Nat) : Nat × Nat := fft l c (fun k => f k i) j
def planeB (l : Nat) (f : Nat → Nat → Nat × Nat) : Nat → Nat → Nat × Nat := colsB l 4095 (rowsB l 4095 f)

/-- A field of numbers: bits, values, how long they are. -/
structure Field (n b : Nat) (f : Nat → Nat → Nat × Nat) (F : Nat → Nat → Int × Int) : Prop where
  cv : ∀ j, j < n → ∀ i, i < n → CV (f j i) (F j i)
  le : ∀ j, j < n → ∀ i, i < n → N2 (F j i) (2 ^ b)

theorem rows_near (c : Nat) (hc : c % 2 = 1) {b l : Nat} (hb : 60 ≤ b) (hb2 : b ≤ 1900) (hl : l ≤ 12) {f : Nat → Nat → Nat × Nat} {F : Nat → Nat → Int × Int} (h : Field (2 ^ l) b f F) :
    ∃ R : Nat → Nat → Int × Int, Field (2 ^ l) (b + l + 1) (rowsB l c f) R ∧ ∀ j, j < 2 ^ l → ∀ i, i < 2 ^ l → N2 (cs (sm 18446744073709551616 (R j i)) (Dr l c F j i)) (errOf l b) := by
  have h1 : ∀ j, ∃ Y : Nat → Int × Int, j < 2 ^ l → ∀ k, k < 2 ^ l → CV (fft l c (f j) k) (Y k) ∧ N2 (Y k) (2 ^ (b + l + 1)) ∧ N2 (cs (sm 18446744073709551616 (Y k)) (dsum l c (F j) k)) (errOf l b) := by
    intro j
    by_cases hj : j < 2 ^ l
    · obtain ⟨Y, hY⟩ := fft_list c hc b hb hb2 hl (f j) (F j) (h.cv j hj) (h.le j hj)
      exact ⟨Y, fun _ => hY⟩
    · exact ⟨fun _ => (0, 0), fun c => absurd c hj⟩
  obtain ⟨R, hR⟩ := Classical.axiomOfChoice h1
  exact ⟨R, ⟨fun j hj i hi => (hR j hj i hi).1, fun j hj i hi => (hR j hj i hi).2.1⟩, fun j hj i hi => (hR j hj i hi).2.2⟩

theorem cols_near (c : Nat) (hc : c % 2 = 1) {b l : Nat} (hb : 60 ≤ b) (hb2 : b ≤ 1900) (hl : l ≤ 12) {f : Nat → Nat → Nat × Nat} {F : Nat → Nat → Int × Int} (h : Field (2 ^ l) b f F) :
    ∃ R : Nat → Nat → Int × Int, Field (2 ^ l) (b + l + 1) (colsB l c f) R ∧ ∀ j, j < 2 ^ l → ∀ i, i < 2 ^ l → N2 (cs (sm 18446744073709551616 (R j i)) (Dc l c F j i)) (errOf l b) := by
  obtain ⟨R, h1, h2⟩ := rows_near c hc hb hb2 hl (f := fun i j => f j i) (F := fun i j => F j i) ⟨fun i hi j hj => h.cv j hj i hi, fun i hi j hj => h.le j hj i hi⟩
  exact ⟨fun j i => R i j, ⟨fun j hj i hi => h1.cv i hi j hj, fun j hj i hi => h1.le i hi j hj⟩, fun j hj i hi => h2 i hi j hj⟩

/-- How far: rows and columns. -/
def errP (l b : Nat) : Nat := 18446744073709551616 * errOf l (b + l + 1) + 2 ^ l * (errOf l b * 18446744073709559808)

theorem plane_near {b l : Nat} (hb : 60 ≤ b) (hb2 : b ≤ 1800) (hl : l ≤ 12) {f : Nat → Nat → Nat × Nat} {F : Nat → Nat → Int × Int} (h : Field (2 ^ l) b f F) :
    ∃ Y : Nat → Nat → Int × Int, Field (2 ^ l) (b + l + 1 + l + 1) (planeB l f) Y ∧
      ∀ j, j < 2 ^ l → ∀ i, i < 2 ^ l → N2 (cs (sm (18446744073709551616 * 18446744073709551616) (Y j i)) (Dc l 4095 (Dr l 4095 F) j i)) (errP l b) := by
  obtain ⟨R, h1, h2⟩ := rows_near 4095 (by decide) hb (by omega) hl h
  obtain ⟨Y, h3, h4⟩ := cols_near 4095 (by decide) (by omega) (by omega) hl h1
  refine ⟨Y, h3, fun j hj i hi => ?_⟩
  have e : cs (sm (18446744073709551616 * 18446744073709551616) (Y j i)) (Dc l 4095 (Dr l 4095 F) j i) = ca (sm 18446744073709551616 (cs (sm 18446744073709551616 (Y j i)) (Dc l 4095 R j i))) (cs (sm 18446744073709551616 (Dc l 4095 R j i)) (Dc l 4095 (Dr l 4095 F) j i)) := by
    refine Prod.ext ?_ ?_
    · simp only [sm, cs, ca]; grind
    · simp only [sm, cs, ca]; grind
  rw [e]
  exact n2_add (n2_sm 18446744073709551616 (h4 j hj i hi)) (dsum_errK 18446744073709551616 fun k hk => h2 k hk i hi)

/-- A field with rows and columns exchanged: the same sums, exchanged. -/
theorem dd_across (l : Nat) (F : Nat → Nat → Int × Int) (j i : Nat) : Dc l 4095 (Dr l 4095 (fun a b => F b a)) j i = Dc l 4095 (Dr l 4095 F) i j := by
  rw [← dr_dc l 4095 4095 F i j]
  rfl
end Go.Proofs.Ytgbffbikieikdaa
