/- The weights of a filter, as bits: the greatest order. -/
import Derived.Test.YthiipodgfbnpeaaDoorFW
namespace Go.Proofs.YthiipodgfbnpeaaDoor
open Go.RowKit

def okRT (j : Nat) : Bool := (floatBits .quo .f64 (floatOfInt .f64 (j : Int)) (floatOfInt .f64 4096)).isSome && goodW (rT j)
theorem ramps_top : ∀ a < 65, ∀ b < 32, okRT (32 * a + b) = true := by decide +kernel
end Go.Proofs.YthiipodgfbnpeaaDoor
