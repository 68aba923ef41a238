/- The document's start: the walk. -/
import Derived.Test.YtgbkfmjkemkajaaPS1
namespace Go.Proofs.Ytgbkfmjkemkajaa
open Go.RowKit

/-- The lines' counts, cell by cell. -/
theorem cnt_next {n : Nat} {d : Int × Int} {i q : Nat} (hq : lnI n d i = (q : Int)) (j : Nat) : cntB (onB n d allB (j : Int)) (i + 1) = cntB (onB n d allB (j : Int)) i + if j = q then 1 else 0 := by
  rw [cnt_step]
  congr 1
  by_cases e : j = q
  · rw [if_pos e, if_pos (onB_true.2 ⟨rfl, by rw [hq, e]⟩)]
  · rw [if_neg e, if_neg (fun h => e ?_)]
    have := (onB_true.1 h).2
    omega
end Go.Proofs.Ytgbkfmjkemkajaa
