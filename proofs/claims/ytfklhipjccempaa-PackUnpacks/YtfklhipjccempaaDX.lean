/- The program's own Check, Cmp, Across. -/
import Derived.Test.YtfklhipjccempaaDE
namespace Go.Proofs.Ytfklhipjccempaa
open Go.RowKit

theorem normal_ok {P Q : Int} (h : okD P Q = true) : normalS P Q = ((P, Q), 0) := by
  have := mul_normal (k := 1) h (by decide) (by decide) (by decide)
  rwa [Int.one_mul, Int.one_mul] at this

theorem div_self_one {a g : Nat} (hg : 2 ≤ g) (h : a = a / g) : a = 0 := by
  rcases Nat.eq_zero_or_pos a with e | e
  · exact e
  · have := Nat.div_lt_self e (show 1 < g by omega)
    omega

theorem ok_normal {P Q : Int} (h : normalS P Q = ((P, Q), 0)) : okD P Q = true := by
  by_cases c1 : P = 0 ∧ Q = 0
  · rw [c1.1, c1.2, normalS_zero] at h
    simp at h
  · have hp := gcd_pos c1
    by_cases c2 : 16 < P.natAbs / Nat.gcd P.natAbs Q.natAbs ∨ 16 < Q.natAbs / Nat.gcd P.natAbs Q.natAbs
    · rw [normalS_big c1 c2] at h
      simp at h
    · have key : (P = -((P.natAbs / Nat.gcd P.natAbs Q.natAbs : Nat) : Int) ∨ P = ((P.natAbs / Nat.gcd P.natAbs Q.natAbs : Nat) : Int)) ∧ Q = ((Q.natAbs / Nat.gcd P.natAbs Q.natAbs : Nat) : Int) ∧ (Q = 0 → P = ((P.natAbs / Nat.gcd P.natAbs Q.natAbs : Nat) : Int)) := by
        by_cases c3 : Q ≠ 0 ∧ (decide (P < 0)) ≠ (decide (Q < 0))
        · have e := (normalS_turn c1 c2 c3).symm.trans h
          simp only [Prod.mk.injEq] at e
          exact ⟨Or.inl e.1.1.symm, e.1.2.symm, fun h0 => absurd h0 c3.1⟩
        · have e := (normalS_stay c1 c2 c3).symm.trans h
          simp only [Prod.mk.injEq] at e
          exact ⟨Or.inr e.1.1.symm, e.1.2.symm, fun _ => e.1.1.symm⟩
      obtain ⟨k1, k2, k3⟩ := key
      have a1 : P.natAbs = P.natAbs / Nat.gcd P.natAbs Q.natAbs := by
        generalize P.natAbs / Nat.gcd P.natAbs Q.natAbs = z at k1
        omega
      have a2 : Q.natAbs = Q.natAbs / Nat.gcd P.natAbs Q.natAbs := by
        generalize Q.natAbs / Nat.gcd P.natAbs Q.natAbs = z at k2
        omega
      have g1 : Nat.gcd P.natAbs Q.natAbs = 1 := by
        rcases Nat.lt_or_ge 1 (Nat.gcd P.natAbs Q.natAbs) with hg | hg
        · have b1 := div_self_one hg a1
          have b2 := div_self_one hg a2
          exact absurd ⟨by omega, by omega⟩ c1
        · omega
      rw [g1, Nat.div_one, Nat.div_one] at c2
      rw [g1, Nat.div_one] at k2 k3
      unfold okD
      simp only [decide_eq_true_eq]
      refine ⟨by omega, by omega, by omega, g1, fun h0 => ?_⟩
      have h1 := k3 h0
      rw [h0] at g1
      simp at g1
      omega

theorem check_by {P Q r1 r2 r3 : Int} (h : normalS P Q = ((r1, r2), r3)) : (r3 = 0 ∧ r1 = P ∧ r2 = Q ∧ checkS P Q = 0) ∨ (r3 ≠ 0 ∧ checkS P Q = 60) ∨ (r3 = 0 ∧ r1 ≠ P ∧ checkS P Q = 60) ∨ (r3 = 0 ∧ r1 = P ∧ r2 ≠ Q ∧ checkS P Q = 60) := by
  cases c : okD P Q
  · have e := checkS_bad c
    by_cases h3 : r3 = 0
    · by_cases h1 : r1 = P
      · by_cases h2 : r2 = Q
        · rw [h1, h2, h3] at h
          rw [ok_normal h] at c
          cases c
        · exact Or.inr (Or.inr (Or.inr ⟨h3, h1, h2, e⟩))
      · exact Or.inr (Or.inr (Or.inl ⟨h3, h1, e⟩))
    · exact Or.inr (Or.inl ⟨h3, e⟩)
  · rw [normal_ok c] at h
    simp only [Prod.mk.injEq] at h
    exact Or.inl ⟨h.2.symm, h.1.1.symm, h.1.2.symm, checkS_ok c⟩

theorem cmp_same {a : Int × Int} : cmpS a a = 0 := by
  unfold cmpS
  have e : crossS a a = 0 := by
    unfold crossS
    rw [Int.mul_comm a.2 a.1]
    omega
  rw [e]
  split <;> rfl
theorem cmp_none {a b : Int × Int} (h : okD a.1 a.2 = false ∨ okD b.1 b.2 = false) : cmpS a b = 0 := by
  unfold cmpS
  rcases h with h | h
  · rw [h]; rfl
  · rw [h, Bool.and_false]; rfl

end Go.Proofs.Ytfklhipjccempaa
