/- The program's own isSide, liesIn, look, bins, origin, Bins, Index. -/
import Derived.Test.YtfddchjonjklkaaDX
import Derived.Test.YtfddchjonjklkaaDI
namespace Go.Proofs.Ytfddchjonjklkaa
open Go.RowKit

set_option maxHeartbeats 800000 in
theorem sideAny {n : Int} (w : World) :
    Calls Try.prog 22 #[.int .i64 n] w fun e w' => e = .returned (.bool (decide (1 ≤ n ∧ n ≤ 64))) ∧ w' = w := by
  by_cases c1 : 1 ≤ n
  · have q1 : (1 ≤ n) = True := by simp; omega
    by_cases c2 : n ≤ 64
    · have q2 : (n ≤ 64) = True := by simp; omega
      rw [decide_eq_true (⟨c1, c2⟩ : 1 ≤ n ∧ n ≤ 64)]
      clear c1 c2
      go_enter Try.func22, Try.ntmps22
      go_wp2_with fail
      go_ret
      exact ⟨rfl, rfl⟩
    · have q2 : (n ≤ 64) = False := by simp; omega
      rw [decide_eq_false (fun h => c2 h.2 : ¬ (1 ≤ n ∧ n ≤ 64))]
      clear c1 c2
      go_enter Try.func22, Try.ntmps22
      go_wp2_with fail
      go_ret
      exact ⟨rfl, rfl⟩
  · have q1 : (1 ≤ n) = False := by simp; omega
    rw [decide_eq_false (fun h => c1 h.1 : ¬ (1 ≤ n ∧ n ≤ 64))]
    clear c1
    go_enter Try.func22, Try.ntmps22
    go_wp2_with fail
    go_ret
    exact ⟨rfl, rfl⟩

theorem binsS_good {n P Q : Int} (h1 : 1 ≤ n) (h2 : n ≤ 64) (h3 : okD P Q = true) : binsS n (P, Q) = ((n - 1) * (P.natAbs + Q) + 1, 0) := by
  unfold binsS
  rw [if_neg (by omega), if_pos h3]

theorem binsS_none {n : Int} {a : Int × Int} (h : (binsS n a).2 ≠ 0) : (binsS n a).1 = 0 := by
  unfold binsS at h ⊢
  split
  · rfl
  · rename_i c
    rw [if_neg c] at h
    split
    · rename_i c2
      rw [if_pos c2] at h
      exact absurd rfl h
    · rfl

end Go.Proofs.Ytfddchjonjklkaa
