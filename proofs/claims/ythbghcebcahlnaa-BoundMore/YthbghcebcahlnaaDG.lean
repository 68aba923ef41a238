/- One form, the direction across twice, the order: what the numbers come to. -/
import Derived.Test.YthbghcebcahlnaaDC
namespace Go.Proofs.Ythbghcebcahlnaa
open Go.RowKit

def mulT (i j k : Nat) : Bool := k == 20 || decide (normalS (((k : Int) - 20) * ((i : Int) - 16)) (((k : Int) - 20) * j) = (((i : Int) - 16, (j : Int)), 0))
def acrossT (P Q : Int) : Bool :=
  decide ((acrossS (P, Q)).2 = 0) && decide (acrossS (acrossS (P, Q)).1 = ((P, Q), 0)) && decide ((acrossS (P, Q)).1.1 * P + (acrossS (P, Q)).1.2 * Q = 0) && decide ((acrossS (P, Q)).1.1.natAbs ≤ 16) && decide ((acrossS (P, Q)).1.2.natAbs ≤ 16)

theorem mul_all : ((List.range 33).all fun i => (List.range 17).all fun j => !okD ((i : Int) - 16) j || (List.range 41).all fun k => mulT i j k) = true := by decide +kernel
theorem across_all : ((List.range 33).all fun i => (List.range 17).all fun j => !okD ((i : Int) - 16) j || acrossT ((i : Int) - 16) j) = true := by decide +kernel

theorem mul_table {i j k : Nat} (hi : i < 33) (hj : j < 17) (h : okD ((i : Int) - 16) j = true) (hk : k < 41) (h20 : k ≠ 20) : normalS (((k : Int) - 20) * ((i : Int) - 16)) (((k : Int) - 20) * j) = (((i : Int) - 16, (j : Int)), 0) := by
  have h1 := List.all_eq_true.1 (List.all_eq_true.1 mul_all i (List.mem_range.2 hi)) j (List.mem_range.2 hj)
  rw [h] at h1
  have h2 := List.all_eq_true.1 (by simpa using h1 : ((List.range 41).all fun k => mulT i j k) = true) k (List.mem_range.2 hk)
  unfold mulT at h2
  simpa [h20] using h2

theorem across_table {i j : Nat} (hi : i < 33) (hj : j < 17) (h : okD ((i : Int) - 16) j = true) : acrossT ((i : Int) - 16) j = true := by
  have h1 := List.all_eq_true.1 (List.all_eq_true.1 across_all i (List.mem_range.2 hi)) j (List.mem_range.2 hj)
  rw [h] at h1
  simpa using h1

theorem mul_normal {P Q k : Int} (h : okD P Q = true) (hk : k ≠ 0) (h1 : -20 ≤ k) (h2 : k ≤ 20) : normalS (k * P) (k * Q) = ((P, Q), 0) := by
  obtain ⟨b1, b2, b3⟩ := okD_bounds h
  obtain ⟨i, hi⟩ : ∃ i : Nat, (i : Int) - 16 = P := ⟨(P + 16).toNat, by omega⟩
  obtain ⟨j, hj⟩ : ∃ j : Nat, (j : Int) = Q := ⟨Q.toNat, by omega⟩
  obtain ⟨m, hm⟩ : ∃ m : Nat, (m : Int) - 20 = k := ⟨(k + 20).toNat, by omega⟩
  have := mul_table (i := i) (j := j) (k := m) (by omega) (by omega) (by rw [hi, hj]; exact h) (by omega) (by omega)
  rw [hi, hj, hm] at this
  exact this

theorem across_two {P Q : Int} (h : okD P Q = true) : (acrossS (P, Q)).2 = 0 ∧ acrossS (acrossS (P, Q)).1 = ((P, Q), 0) ∧ (acrossS (P, Q)).1.1 * P + (acrossS (P, Q)).1.2 * Q = 0 ∧ (acrossS (P, Q)).1.1.natAbs ≤ 16 ∧ (acrossS (P, Q)).1.2.natAbs ≤ 16 := by
  obtain ⟨b1, b2, b3⟩ := okD_bounds h
  obtain ⟨i, hi⟩ : ∃ i : Nat, (i : Int) - 16 = P := ⟨(P + 16).toNat, by omega⟩
  obtain ⟨j, hj⟩ : ∃ j : Nat, (j : Int) = Q := ⟨Q.toNat, by omega⟩
  have := across_table (i := i) (j := j) (by omega) (by omega) (by rw [hi, hj]; exact h)
  rw [hi, hj] at this
  unfold acrossT at this
  simp only [Bool.and_eq_true, decide_eq_true_eq] at this
  exact ⟨this.1.1.1.1, this.1.1.1.2, this.1.1.2, this.1.2, this.2⟩

theorem normalS_zero : normalS 0 0 = ((0, 0), 1) := by decide +kernel

theorem okD_form {P Q : Int} (h : okD P Q = true) : 0 ≤ Q ∧ (Q = 0 → P = 1) ∧ Nat.gcd P.natAbs Q.natAbs = 1 := by
  unfold okD at h
  simp only [decide_eq_true_eq] at h
  exact ⟨h.1, h.2.2.2.2, h.2.2.2.1⟩

/-- Two directions with one angle are one. -/
theorem cross_zero {a b : Int × Int} (ha : okD a.1 a.2 = true) (hb : okD b.1 b.2 = true) (h : crossS a b = 0) : a = b := by
  obtain ⟨a1, a2, a3⟩ := okD_form ha
  obtain ⟨b1, b2, b3⟩ := okD_form hb
  unfold crossS at h
  have e : a.1 * b.2 = a.2 * b.1 := by omega
  have eN : a.1.natAbs * b.2.natAbs = a.2.natAbs * b.1.natAbs := by rw [← Int.natAbs_mul, ← Int.natAbs_mul, e]
  have d1 : a.2.natAbs ∣ b.2.natAbs := by
    have : a.2.natAbs ∣ a.1.natAbs * b.2.natAbs := ⟨b.1.natAbs, eN⟩
    exact (Nat.Coprime.symm a3).dvd_of_dvd_mul_left this
  have d2 : b.2.natAbs ∣ a.2.natAbs := by
    have : b.2.natAbs ∣ b.1.natAbs * a.2.natAbs := ⟨a.1.natAbs, by rw [Nat.mul_comm, ← eN, Nat.mul_comm]⟩
    exact (Nat.Coprime.symm b3).dvd_of_dvd_mul_left this
  have e2 : a.2 = b.2 := by
    have := Nat.dvd_antisymm d1 d2
    omega
  by_cases c : a.2 = 0
  · exact Prod.ext (by rw [a2 c, b2 (by omega)]) e2
  · refine Prod.ext ?_ e2
    rw [← e2, Int.mul_comm] at e
    exact Int.eq_of_mul_eq_mul_left c e

theorem cross_three (a b c : Int × Int) : crossS a b * c.2 + crossS b c * a.2 = crossS a c * b.2 := by
  unfold crossS
  grind

/-- The order goes on. -/
theorem cross_on {a b c : Int × Int} (ha : okD a.1 a.2 = true) (hb : okD b.1 b.2 = true) (hc : okD c.1 c.2 = true) (h1 : 0 ≤ crossS a b) (h2 : 0 ≤ crossS b c) : 0 ≤ crossS a c ∧ (0 < crossS a c ∨ (crossS a b = 0 ∧ crossS b c = 0)) := by
  by_cases e1 : crossS a b = 0
  · have := cross_zero ha hb e1
    subst this
    by_cases e2 : crossS a c = 0
    · exact ⟨by omega, Or.inr ⟨e1, e2⟩⟩
    · exact ⟨by omega, Or.inl (by omega)⟩
  · by_cases e2 : crossS b c = 0
    · have := cross_zero hb hc e2
      subst this
      exact ⟨h1, Or.inl (by omega)⟩
    · obtain ⟨a1, a2, a3⟩ := okD_form ha
      obtain ⟨b1, b2, b3⟩ := okD_form hb
      obtain ⟨c1, c2, c3⟩ := okD_form hc
      have hcp : 0 < c.2 := by
        rcases Int.lt_or_eq_of_le c1 with h | h
        · exact h
        · have x := c2 h.symm
          unfold crossS at h2
          rw [← h, x] at h2
          have : b.2 = 0 := by omega
          have y := b2 this
          exact absurd (by unfold crossS; rw [← h, x, this, y]; rfl) e2
      have hbp : 0 < b.2 := by
        rcases Int.lt_or_eq_of_le b1 with h | h
        · exact h
        · have x := b2 h.symm
          unfold crossS at h1
          rw [← h, x] at h1
          have : a.2 = 0 := by omega
          have y := a2 this
          exact absurd (by unfold crossS; rw [← h, x, this, y]; rfl) e1
      have key := cross_three a b c
      have p1 : 0 < crossS a b * c.2 := Int.mul_pos (by omega) hcp
      have p2 : 0 ≤ crossS b c * a.2 := Int.mul_nonneg h2 a1
      have p3 : 0 < crossS a c * b.2 := by omega
      have p4 : 0 < crossS a c := Int.pos_of_mul_pos_left p3 hbp
      exact ⟨by omega, Or.inl p4⟩

/-- The order of two, by its cross product. -/
theorem cmpS_ok {a b : Int × Int} (ha : okD a.1 a.2 = true) (hb : okD b.1 b.2 = true) : cmpS a b = if 0 < crossS a b then -1 else if crossS a b < 0 then 1 else 0 := by
  unfold cmpS
  rw [ha, hb]
  rfl
theorem cross_swap (a b : Int × Int) : crossS b a = -crossS a b := by
  unfold crossS
  grind
theorem cmpS_bad {a b : Int × Int} (ha : okD a.1 a.2 = false) : cmpS a b = 0 ∧ cmpS b a = 0 := by
  unfold cmpS
  rw [ha]
  constructor
  · rfl
  · rw [Bool.and_false]
    rfl
end Go.Proofs.Ythbghcebcahlnaa
