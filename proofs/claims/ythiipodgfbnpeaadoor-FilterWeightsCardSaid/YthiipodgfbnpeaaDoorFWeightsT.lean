/- The weights of a filter are what the document says, from 0 to 1 and mirrored: the law's row, its two listed tables of the library tied to the program's text; no condition besides. -/
import Derived.Test.YthiipodgfbnpeaaDoorFWeights
import Derived.Test.YthiipodgfbnpeaaDoorFR
import Derived.Test.YthiipodgfbnpeaaDoorFND
import Derived.Test.YthiipodgfbnpeaaDoorFNL
import Derived.Test.YthiipodgfbnpeaaDoorFNF
namespace Go.Proofs.YthiipodgfbnpeaaDoor
theorem proved : Rows.FilterWeightsCardSaid := provedWeights (fun w hD => aliveAny filterWeightsGood (applyGen filterWeightsGood filterLengthGood) w hD) filterWeightsBad filterWeightsGood filterLengthBad filterLengthGood
end Go.Proofs.YthiipodgfbnpeaaDoor
