/- The program's own isSide, liesIn, look, bins, origin, Bins, Index. -/
import Derived.Test.YtfklhipjccempaaDX
import Derived.Test.YtfklhipjccempaaDI
namespace Go.Proofs.Ytfklhipjccempaa
open Go.RowKit

theorem binsS_good {n P Q : Int} (h1 : 1 ≤ n) (h2 : n ≤ 64) (h3 : okD P Q = true) : binsS n (P, Q) = ((n - 1) * (P.natAbs + Q) + 1, 0) := by
  unfold binsS
  rw [if_neg (by omega), if_pos h3]

theorem binsS_none {n : Int} {a : Int × Int} (h : (binsS n a).2 ≠ 0) : (binsS n a).1 = 0 := by
  unfold binsS at h ⊢
  split
  · rfl
  · rename_i c
    rw [if_neg c] at h
    split
    · rename_i c2
      rw [if_pos c2] at h
      exact absurd rfl h
    · rfl

end Go.Proofs.Ytfklhipjccempaa
