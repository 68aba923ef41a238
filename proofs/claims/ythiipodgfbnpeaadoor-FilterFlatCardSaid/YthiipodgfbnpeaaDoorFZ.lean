/- The soft weights, as bits: the second half. -/
import Derived.Test.YthiipodgfbnpeaaDoorFY
namespace Go.Proofs.YthiipodgfbnpeaaDoor
open Go.RowKit

theorem softs_b : ∀ a < 32, ∀ b < 32, okSoft (32 * (32 + a) + b) = true := by decide +kernel
theorem softs_c : okSoft 2048 = true := by decide +kernel
end Go.Proofs.YthiipodgfbnpeaaDoor
