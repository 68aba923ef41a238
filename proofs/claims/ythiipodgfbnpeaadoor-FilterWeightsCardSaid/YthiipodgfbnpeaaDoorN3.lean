/- What comes back, as bits: near to what went out. -/
import Derived.Test.YthiipodgfbnpeaaDoorN2
namespace Go.Proofs.YthiipodgfbnpeaaDoor
open Go.RowKit Fl

theorem scale_near {Z R X : Int} {l E : Nat} (h1 : (Z - ((2 ^ l : Nat) : Int) * X).natAbs ≤ 2 ^ l * E) (h2 : Near1 Z R l) : (X - R).natAbs ≤ E := by
  unfold Near1 at h2
  have hP : 0 < 2 ^ l := Nat.two_pow_pos l
  generalize 2 ^ l = P at h1 h2 hP
  have h3 : 2 * ((X - R) * (P : Int)).natAbs ≤ 2 * (P * E) + P := by
    have e : (X - R) * (P : Int) = -(Z - (P : Int) * X) + -(R * (P : Int) - Z) := by grind
    rw [e]
    have := Int.natAbs_add_le (-(Z - (P : Int) * X)) (-(R * (P : Int) - Z))
    rw [Int.natAbs_neg, Int.natAbs_neg] at this
    omega
  rw [Int.natAbs_mul, Int.natAbs_natCast] at h3
  generalize (X - R).natAbs = D at h3
  by_cases c : D ≤ E
  · exact c
  · have h5 : (E + 1) * P ≤ D * P := Nat.mul_le_mul_right _ (by omega)
    rw [Nat.add_mul, Nat.one_mul, Nat.mul_comm E P] at h5
    omega

theorem part_back {z l b E t : Nat} {Z X : Int} (hl : l ≤ 12) (hz : FV z Z) (hw : z < 18446744073709551616) (h : (Z - ((2 ^ l : Nat) : Int) * X).natAbs ≤ 2 ^ l * E) (hE : E = 5 * 2 ^ t) (ht : t = 1063) (hX : X.natAbs ≤ 2 ^ b) (hb : b = 1095) :
    ∃ r R, LdTo l z r ∧ FV r R ∧ (X - R).natAbs ≤ E := by
  have hsmall : Z.natAbs < 2 ^ 2000 := by
    have h1 : Z.natAbs ≤ 2 ^ l * E + 2 ^ l * X.natAbs := by
      have := Int.natAbs_add_le (Z - ((2 ^ l : Nat) : Int) * X) (((2 ^ l : Nat) : Int) * X)
      rw [Int.sub_add_cancel, Int.natAbs_mul, Int.natAbs_natCast] at this
      omega
    have hp : 2 ^ l ≤ 2 ^ 12 := Nat.pow_le_pow_right (by decide) hl
    have h2 : 2 ^ l * E ≤ 2 ^ 12 * E := Nat.mul_le_mul_right _ hp
    have h3 : 2 ^ l * X.natAbs ≤ 2 ^ 12 * 2 ^ b := Nat.mul_le_mul hp hX
    have h4 : 2 ^ 12 * E + 2 ^ 12 * 2 ^ b < 2 ^ 2000 := by
      subst hE ht hb
      decide +kernel
    omega
  obtain ⟨r, R, q1, _, q2, q3⟩ := ld_any hl hw hz hsmall
  exact ⟨r, R, q1, q2, scale_near h q3⟩

/-- The way back of the transform of whole numbers. -/
theorem back_list {l : Nat} (hl : l ≤ 12) {xs : Nat → Nat × Nat} {v : Nat → Int × Int} (h : Ints (2 ^ l) xs v) (q t : Nat) (hq : q = 1074) (ht : t = 1063) :
    Nums (1095 + l + 1) (2 ^ l) (fft l 4095 xs) ∧ ∃ sc : Nat → Nat × Nat, ∀ k, k < 2 ^ l → (LdTo l (fft l 1 (fft l 4095 xs) k).1 (sc k).1 ∧ LdTo l (fft l 1 (fft l 4095 xs) k).2 (sc k).2) ∧
      ∃ R : Int × Int, CV (sc k) R ∧ ((v k).1 * 2 ^ q - R.1).natAbs ≤ 5 * 2 ^ t ∧ ((v k).2 * 2 ^ q - R.2).natAbs ≤ 5 * 2 ^ t := by
  obtain ⟨b, hb⟩ : ∃ b, b = 1095 := ⟨_, rfl⟩
  have hX : ∀ j, j < 2 ^ l → N2 ((v j).1 * 2 ^ q, (v j).2 * 2 ^ q) (2 ^ b) := by
    intro j hj
    rw [show b = q + 21 by omega]
    exact n2_whole q (h.le j hj).1 (h.le j hj).2
  obtain ⟨Y, cY, nY, hZ⟩ := there_back hl (b := b) (by omega) (by omega) xs (fun j => ((v j).1 * 2 ^ q, (v j).2 * 2 ^ q)) (fun j hj => cv_ic (h.ic j hj) q hq) hX
  rw [← hb]
  refine ⟨⟨Y, cY, nY⟩, ?_⟩
  have key : ∀ k, ∃ r : Nat × Nat, k < 2 ^ l → (LdTo l (fft l 1 (fft l 4095 xs) k).1 r.1 ∧ LdTo l (fft l 1 (fft l 4095 xs) k).2 r.2) ∧
      ∃ R : Int × Int, CV r R ∧ ((v k).1 * 2 ^ q - R.1).natAbs ≤ 5 * 2 ^ t ∧ ((v k).2 * 2 ^ q - R.2).natAbs ≤ 5 * 2 ^ t := by
    intro k
    by_cases hk : k < 2 ^ l
    · obtain ⟨Z, cZ, nZ⟩ := hZ k hk
      obtain ⟨p1, p2⟩ := n2_fst nZ
      obtain ⟨x1, x2⟩ := n2_fst (hX k hk)
      have hw : W2 (fft l 1 (fft l 4095 xs) k) := fft_w fun j _ => fft_w fun i hi => h.w2 i hi
      rw [show b - 32 = t by omega] at p1 p2
      obtain ⟨r1, R1, a1, a2, a3⟩ := part_back hl cZ.one hw.1 p1 rfl ht x1 hb
      obtain ⟨r2, R2, b1, b2, b3⟩ := part_back hl cZ.two hw.2 p2 rfl ht x2 hb
      exact ⟨(r1, r2), fun _ => ⟨⟨a1, b1⟩, (R1, R2), ⟨a2, b2⟩, a3, b3⟩⟩
    · exact ⟨(0, 0), fun c => absurd c hk⟩
  obtain ⟨sc, hsc⟩ := Classical.axiomOfChoice key
  exact ⟨sc, hsc⟩

/-- The sum, number by number. -/
def sumS (x : Nat → Nat × Nat) : Nat → Nat × Nat
  | 0 => (0, 0)
  | j + 1 => addC (sumS x j) (x j)

theorem sum_ic {n : Nat} {x : Nat → Nat × Nat} {v : Nat → Int × Int} (hn : n ≤ 4096) (h : Ints n x v) : ∀ j, j ≤ n → IC (sumS x j) (csum j v) ∧ (j < n → AddTo (sumS x j) (x j) (addC (sumS x j) (x j))) := by
  have hb : ∀ j, j ≤ n → (csum j v).1.natAbs ≤ j * 1048576 ∧ (csum j v).2.natAbs ≤ j * 1048576 := fun j hj => csum_bound fun i hi => h.le i (by omega)
  intro j
  induction j with
  | zero =>
    intro _
    refine ⟨⟨iv_zero, iv_zero⟩, fun hj => ?_⟩
    have h1 := h.le 0 hj
    exact (addC_iv (x := (0, 0)) ⟨iv_zero, iv_zero⟩ (h.ic 0 hj) (by show (0 + (v 0).1).natAbs < _; omega) (by show (0 + (v 0).2).natAbs < _; omega)).1
  | succ j ih =>
    intro hj
    obtain ⟨i1, _⟩ := ih (by omega)
    have b1 := hb j (by omega)
    have b2 := h.le j (by omega)
    have hj' : j * 1048576 ≤ 4096 * 1048576 := Nat.mul_le_mul_right _ (by omega)
    have i2 : IC (sumS x (j + 1)) (csum (j + 1) v) := (addC_iv i1 (h.ic j (by omega)) (by omega) (by omega)).2
    refine ⟨i2, fun hj2 => ?_⟩
    have b3 := hb (j + 1) hj
    have b4 := h.le (j + 1) hj2
    have hj'' : (j + 1) * 1048576 ≤ 4096 * 1048576 := Nat.mul_le_mul_right _ (by omega)
    exact (addC_iv i2 (h.ic (j + 1) hj2) (by omega) (by omega)).1
end Go.Proofs.YthiipodgfbnpeaaDoor
