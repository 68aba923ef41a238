/- The soft weights, as bits. -/
import Derived.Test.YthiipodgfbnpeaaDoorFW
namespace Go.Proofs.YthiipodgfbnpeaaDoor
open Go.RowKit

def okSoft (K : Nat) : Bool := match softO K with | some c => goodW c | none => false
theorem softs_a : ∀ a < 32, ∀ b < 32, okSoft (32 * a + b) = true := by decide +kernel
end Go.Proofs.YthiipodgfbnpeaaDoor
