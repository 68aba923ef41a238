/- Fields: the whole way there and back; rows and columns exchanged; the first cell. -/
import Derived.Test.YtgbffbikieikdaaG2
namespace Go.Proofs.Ytgbffbikieikdaa
open Fl

theorem budget4 {l b P R Q D : Nat} (h : Sizes l b P R Q) (hD : R = 1073741824 * D) :
    18446744073709551616 * (18446744073709551616 * (3 * P) + errOf l (b + l + 1)) + P * (8589934592 * R * 18446744073709559808) + P * (P * (R * 2720083094132915643088896)) ≤ 18446744073709551616 * 18446744073709551616 * P * D := by
  have h2 := h.e2
  have hq := h.QP
  have e1 : P * (8589934592 * R * 18446744073709559808) = 8589934592 * Q * 18446744073709559808 := by rw [h.hQ]; grind
  have e2 : P * (P * (R * 2720083094132915643088896)) ≤ 32 * (Q * 2720083094132915643088896) := by
    rw [← Nat.mul_assoc P R, ← h.hQ]
    exact Nat.mul_le_mul_right _ h.P2
  have e3 : Q = 1073741824 * (P * D) := by rw [h.hQ, hD]; grind
  have e4 : 18446744073709551616 * 18446744073709551616 * P * D = 18446744073709551616 * 18446744073709551616 * (P * D) := Nat.mul_assoc _ _ _
  rw [e1, e4]
  generalize P * D = G at *
  omega

/-- Behind the columns' way back: near to the field. -/
theorem end_near {l b : Nat} (hl : l ≤ 5) (hb : 60 ≤ b) {F R2 S T : Nat → Nat → Int × Int} (hF : ∀ j, j < 2 ^ l → ∀ i, i < 2 ^ l → N2 (F j i) (2 ^ b))
    (hS : ∀ j, j < 2 ^ l → ∀ i, i < 2 ^ l → N2 (cs (sm 18446744073709551616 (S j i)) (Dc l 4095 F j i)) (8589934592 * 2 ^ b))
    (hR : ∀ j, j < 2 ^ l → ∀ i, i < 2 ^ l → N2 (cs (sm 18446744073709551616 (R2 j i)) (Dc l 1 S j i)) (errOf l (b + l + 1)))
    (hT : ∀ j, j < 2 ^ l → ∀ i, i < 2 ^ l → Near1 (R2 j i).1 (T j i).1 l ∧ Near1 (R2 j i).2 (T j i).2 l) :
    ∀ j, j < 2 ^ l → ∀ i, i < 2 ^ l → N2 (cs (T j i) (F j i)) (2 ^ (b - 30)) := by
  intro j hj i hi
  obtain ⟨P, R, Q, hz⟩ := sizes hl hb
  have n1 := near_scaled (hT j hj i hi).1 (hT j hj i hi).2
  have n2 := hR j hj i hi
  have n3 : N2 (cs (sm 18446744073709551616 (Dc l 1 S j i)) (Dc l 1 (Dc l 4095 F) j i)) (2 ^ l * (8589934592 * 2 ^ b * 18446744073709559808)) := dsum_errK _ fun k hk => hS k hk i hi
  have n4 : N2 (cs (Dc l 1 (Dc l 4095 F) j i) (sm 18446744073709551616 (sm ((2 ^ l : Nat) : Int) (sm 18446744073709551616 (F j i))))) (2 ^ l * (2 ^ l * (2 ^ b * 2720083094132915643088896))) :=
    dsum_back (X := fun k => F k i) (by omega) hj fun k hk => hF k hk i hi
  have key : sm ((18446744073709551616 * 18446744073709551616 * 2 ^ l : Nat) : Int) (cs (T j i) (F j i)) =
      ca (ca (sm ((18446744073709551616 : Nat) : Int) (ca (sm ((18446744073709551616 : Nat) : Int) (cs (sm ((2 ^ l : Nat) : Int) (T j i)) (R2 j i))) (cs (sm 18446744073709551616 (R2 j i)) (Dc l 1 S j i))))
        (cs (sm 18446744073709551616 (Dc l 1 S j i)) (Dc l 1 (Dc l 4095 F) j i)))
        (cs (Dc l 1 (Dc l 4095 F) j i) (sm 18446744073709551616 (sm ((2 ^ l : Nat) : Int) (sm 18446744073709551616 (F j i))))) := by
    rw [Int.natCast_mul]
    generalize ((2 ^ l : Nat) : Int) = p
    refine Prod.ext ?_ ?_
    · simp only [sm, cs, ca]; grind
    · simp only [sm, cs, ca]; grind
  refine n2_div (18446744073709551616 * 18446744073709551616 * 2 ^ l) (Nat.mul_pos (by decide) (Nat.two_pow_pos l)) ?_
  rw [key]
  refine n2_mono (n2_add (n2_add (n2_sm _ (n2_add (n2_sm _ n1) n2)) n3) n4) ?_
  have hD : R = 1073741824 * 2 ^ (b - 30) := by
    rw [hz.hR, show (1073741824 : Nat) = 2 ^ 30 from rfl, ← Nat.pow_add]
    congr 1
    omega
  rw [← hz.hP, ← hz.hR]
  exact budget4 hz hD

/-- The numbers behind the rows' way back are not long. -/
theorem mid_small {l b : Nat} (hl : l ≤ 5) (hb : 60 ≤ b) {F S : Nat → Nat → Int × Int} (hF : ∀ j, j < 2 ^ l → ∀ i, i < 2 ^ l → N2 (F j i) (2 ^ b))
    (hS : ∀ j, j < 2 ^ l → ∀ i, i < 2 ^ l → N2 (cs (sm 18446744073709551616 (S j i)) (Dc l 4095 F j i)) (8589934592 * 2 ^ b)) :
    ∀ j, j < 2 ^ l → ∀ i, i < 2 ^ l → N2 (S j i) (2 ^ (b + l + 1)) := by
  intro j hj i hi
  obtain ⟨P, R, Q, hz⟩ := sizes hl hb
  have e : sm ((18446744073709551616 : Nat) : Int) (S j i) = ca (cs (sm 18446744073709551616 (S j i)) (Dc l 4095 F j i)) (Dc l 4095 F j i) := by
    refine Prod.ext ?_ ?_
    · simp only [sm, cs, ca]; omega
    · simp only [sm, cs, ca]; omega
  have h1 := n2_add (hS j hj i hi) (n2_dsum (l := l) (c := 4095) (k := j) (x := fun k => F k i) fun k hk => hF k hk i hi)
  refine n2_div 18446744073709551616 (by decide) ?_
  rw [e]
  refine n2_mono h1 ?_
  have h2 := hz.QR
  rw [hz.two, ← hz.hP, ← hz.hR, ← Nat.mul_assoc P R, ← hz.hQ]
  omega

/-- There and back, in the order in which the program goes: what the rows' way back gives before it is scaled; whatever the scaling leaves; the columns' way back likewise. -/
theorem plane_back {l b : Nat} (hl : l ≤ 5) (hb : 60 ≤ b) (hb2 : b ≤ 1800) {f : Nat → Nat → Nat × Nat} {F : Nat → Nat → Int × Int} (h : Field (2 ^ l) b f F) :
    ∃ (Y R1 : Nat → Nat → Int × Int), Field (2 ^ l) (b + l + 1 + l + 1) (planeB l f) Y ∧ Field (2 ^ l) (b + l + 1 + l + 1 + l + 1) (rowsB l 1 (planeB l f)) R1 ∧
      ∀ (s : Nat → Nat → Nat × Nat) (S : Nat → Nat → Int × Int), (∀ j, j < 2 ^ l → ∀ i, i < 2 ^ l → CV (s j i) (S j i) ∧ Near1 (R1 j i).1 (S j i).1 l ∧ Near1 (R1 j i).2 (S j i).2 l) →
        Field (2 ^ l) (b + l + 1) s S ∧ ∃ R2 : Nat → Nat → Int × Int, Field (2 ^ l) (b + l + 1 + l + 1) (colsB l 1 s) R2 ∧
          ∀ T : Nat → Nat → Int × Int, (∀ j, j < 2 ^ l → ∀ i, i < 2 ^ l → Near1 (R2 j i).1 (T j i).1 l ∧ Near1 (R2 j i).2 (T j i).2 l) →
            ∀ j, j < 2 ^ l → ∀ i, i < 2 ^ l → N2 (cs (T j i) (F j i)) (2 ^ (b - 30)) := by
  obtain ⟨Y, h1, h2⟩ := plane_near hb hb2 (by omega) h
  obtain ⟨R1, h3, h4⟩ := rows_near 1 (by decide) (by omega) (by omega) (by omega) h1
  refine ⟨Y, R1, h1, h3, fun s S hS => ?_⟩
  have h5 := mid_near hl hb h.le h2 h4 (fun j hj i hi => (hS j hj i hi).2)
  have h6 : Field (2 ^ l) (b + l + 1) s S := ⟨fun j hj i hi => (hS j hj i hi).1, mid_small hl hb h.le h5⟩
  obtain ⟨R2, h7, h8⟩ := cols_near 1 (by decide) (by omega) (by omega) (by omega) h6
  exact ⟨h6, R2, h7, fun T hT => end_near hl hb h.le h5 h8 hT⟩

/-- The transform of the exchanged field is near to the exchanged transform. -/
theorem plane_across {l b : Nat} (hl : l ≤ 5) (hb : 60 ≤ b) (hb2 : b ≤ 1800) {f : Nat → Nat → Nat × Nat} {F : Nat → Nat → Int × Int} (h : Field (2 ^ l) b f F) :
    ∃ A B : Nat → Nat → Int × Int, ∀ j, j < 2 ^ l → ∀ i, i < 2 ^ l → CV (planeB l (fun a c => f c a) j i) (A j i) ∧ CV (planeB l f i j) (B j i) ∧ N2 (cs (A j i) (B j i)) (2 ^ (b - 32)) := by
  obtain ⟨P, R, Q, hz⟩ := sizes hl hb
  obtain ⟨Y, h1, h2⟩ := plane_near hb hb2 (by omega) h
  obtain ⟨A, h3, h4⟩ := plane_near hb hb2 (by omega) (f := fun a c => f c a) (F := fun a c => F c a) ⟨fun j hj i hi => h.cv i hi j hj, fun j hj i hi => h.le i hi j hj⟩
  refine ⟨A, fun j i => Y i j, fun j hj i hi => ⟨h3.cv j hj i hi, h1.cv i hi j hj, ?_⟩⟩
  have n1 := h4 j hj i hi
  have n2 := h2 i hi j hj
  rw [dd_across] at n1
  refine n2_div (18446744073709551616 * 18446744073709551616) (by decide) ?_
  have key : sm ((18446744073709551616 * 18446744073709551616 : Nat) : Int) (cs (A j i) (Y i j)) = cs (cs (sm (18446744073709551616 * 18446744073709551616) (A j i)) (Dc l 4095 (Dr l 4095 F) i j)) (cs (sm (18446744073709551616 * 18446744073709551616) (Y i j)) (Dc l 4095 (Dr l 4095 F) i j)) := by
    refine Prod.ext ?_ ?_
    · simp only [sm, cs]; grind
    · simp only [sm, cs]; grind
  show N2 (sm ((18446744073709551616 * 18446744073709551616 : Nat) : Int) (cs (A j i) (Y i j))) _
  rw [key]
  refine n2_mono (n2_sub n1 n2) ?_
  have h5 := errP_le hz
  have hD : R = 4294967296 * 2 ^ (b - 32) := by
    rw [hz.hR, show (4294967296 : Nat) = 2 ^ 32 from rfl, ← Nat.pow_add]
    congr 1
    omega
  have h6 := hz.QR2
  generalize 2 ^ (b - 32) = D at hD ⊢
  omega

/-- The first number of whole ones, of whatever size the sums bear. -/
theorem fft_sumA (c A : Nat) (l : Nat) : 2 ^ l * A < 2 ^ 52 → ∀ (x : Nat → Nat × Nat) (n : Nat → Int × Int), (∀ j, j < 2 ^ l → IC (x j) (n j)) → (∀ j, j < 2 ^ l → (n j).1.natAbs ≤ A ∧ (n j).2.natAbs ≤ A) → IC (fft l c x 0) (csum (2 ^ l) n) := by
  induction l with
  | zero =>
    intro _ x n hx _
    have h := hx 0 (by decide)
    show IC (x 0) (ca (0, 0) (n 0))
    have e : ca (0, 0) (n 0) = n 0 := Prod.ext (Int.zero_add _) (Int.zero_add _)
    rw [e]
    exact h
  | succ l ih =>
    intro hA x n hx hn
    have hp : 2 ^ (l + 1) = 2 * 2 ^ l := by rw [Nat.pow_succ]; omega
    have hA' : 2 * (2 ^ l * A) < 2 ^ 52 := by rw [hp, Nat.mul_assoc] at hA; exact hA
    have iE := ih (by omega) (fun i => x (2 * i)) (fun j => n (2 * j)) (fun j hj => hx _ (by omega)) (fun j hj => hn _ (by omega))
    have iO := ih (by omega) (fun i => x (2 * i + 1)) (fun j => n (2 * j + 1)) (fun j hj => hx _ (by omega)) (fun j hj => hn _ (by omega))
    have bE := csum_bound (n := 2 ^ l) (A := A) (f := fun j => n (2 * j)) fun j hj => hn _ (by omega)
    have bO := csum_bound (n := 2 ^ l) (A := A) (f := fun j => n (2 * j + 1)) fun j hj => hn _ (by omega)
    have e1 : fft (l + 1) c x 0 = addC (fft l c (fun i => x (2 * i)) 0) (mulC (wB c (l + 1) 0) (fft l c (fun i => x (2 * i + 1)) 0)) := if_pos (Nat.two_pow_pos l)
    rw [e1, wB_zero, hp, csum_split]
    obtain ⟨_, m2⟩ := mulC_one iO (by omega) (by omega)
    exact (addC_iv iE m2 (by omega) (by omega)).2
end Go.Proofs.Ytgbffbikieikdaa
