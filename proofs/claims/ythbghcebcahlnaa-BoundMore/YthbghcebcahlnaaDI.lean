/- The document's own Bins, Start, Index. -/
import Derived.Test.YthbghcebcahlnaaDC
import Derived.Deep.RegionHeld3
namespace Go.Proofs.Ythbghcebcahlnaa
open Go.RowKit

theorem bins_small {n P Q : Int} (h1 : 1 ≤ n) (h2 : n ≤ 64) (h3 : P.natAbs ≤ 16) (h4 : 0 ≤ Q) (h5 : Q ≤ 16) : 0 ≤ (n - 1) * (P.natAbs + Q) ∧ (n - 1) * (P.natAbs + Q) ≤ 2016 := by
  have a1 : (n - 1) * (P.natAbs + Q) ≤ 63 * 32 := Int.mul_le_mul (by omega) (by omega) (by omega) (by omega)
  exact ⟨Int.mul_nonneg (by omega) (by omega), a1⟩

theorem start_small {n P Q : Int} (h1 : 1 ≤ n) (h2 : n ≤ 64) (h3 : P.natAbs ≤ 16) : 0 ≤ startS n (P, Q) ∧ startS n (P, Q) ≤ 1008 := by
  unfold startS
  dsimp only
  by_cases c : P < 0
  · rw [if_pos c, Int.zero_mul]
    exact ⟨by decide, by decide⟩
  · rw [if_neg c]
    have a1 : P * (n - 1) ≤ 16 * 63 := Int.mul_le_mul (by omega) (by omega) (by omega) (by omega)
    exact ⟨Int.mul_nonneg (by omega) (by omega), a1⟩

theorem cell_prod {x n Q : Int} (h1 : 0 ≤ x) (h2 : x < n) (h3 : n ≤ 64) (h4 : Q.natAbs ≤ 16) : (Q * x).natAbs ≤ 1008 := by
  rw [Int.natAbs_mul]
  exact Nat.mul_le_mul h4 (by omega : x.natAbs ≤ 63)

theorem binsS_bad {n : Int} {a : Int × Int} (h : (binsS n a).2 ≠ 0) (x y : Int) : indexS n a x y = (0, (binsS n a).2) := by unfold indexS; rw [if_pos h]
theorem binsS_ok {n : Int} {a : Int × Int} (h : (binsS n a).2 = 0) : 1 ≤ n ∧ n ≤ 64 ∧ okD a.1 a.2 = true := by
  unfold binsS at h
  by_cases c1 : n < 1 ∨ 64 < n
  · rw [if_pos c1] at h
    exact absurd h (by decide)
  · rw [if_neg c1] at h
    cases c2 : okD a.1 a.2
    · rw [c2, if_neg (by decide)] at h
      exact absurd h (by decide)
    · exact ⟨by omega, by omega, rfl⟩

end Go.Proofs.Ythbghcebcahlnaa
