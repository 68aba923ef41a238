/- The size of a difference. -/
import Derived.Test.YthiipodgfbnpeaaDoorAB
namespace Go.Proofs.YthiipodgfbnpeaaDoor
open Go.RowKit Fl Ieee

/-- The greater of two. -/
def maxB (A B : Nat) : Nat := if (FloatKind.f64.format.order A B == some .lt) = true then B else A

end Go.Proofs.YthiipodgfbnpeaaDoor
