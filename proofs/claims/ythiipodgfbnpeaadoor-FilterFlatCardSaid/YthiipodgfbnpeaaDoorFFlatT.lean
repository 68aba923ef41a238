/- The flat filter gives whole bins back once rounded, and bins that are 0 stay 0: the law's row, its two listed tables of the library tied to the program's text; no condition besides. -/
import Derived.Test.YthiipodgfbnpeaaDoorFFlat
import Derived.Test.YthiipodgfbnpeaaDoorFR
import Derived.Test.YthiipodgfbnpeaaDoorFND
import Derived.Test.YthiipodgfbnpeaaDoorFNL
import Derived.Test.YthiipodgfbnpeaaDoorFNF
namespace Go.Proofs.YthiipodgfbnpeaaDoor
theorem proved : Rows.FilterFlatCardSaid := provedFlat (fun w hD => aliveAny filterWeightsGood (applyGen filterWeightsGood filterLengthGood) w hD) (applyNone filterLengthBad) (applyKind filterWeightsBad filterLengthGood)
  (applyFlat (applyGen filterWeightsGood filterLengthGood)) (applyZero (applyGen filterWeightsGood filterLengthGood))
end Go.Proofs.YthiipodgfbnpeaaDoor
