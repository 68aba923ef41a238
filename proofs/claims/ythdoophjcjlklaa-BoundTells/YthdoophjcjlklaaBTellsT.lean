/- BoundTells returns true for every input: which cells are certain and how wide bounds are is told as the document says; no condition. -/
import Derived.Test.YthdoophjcjlklaaBTells
import Derived.Test.YthdoophjcjlklaaBE
import Derived.Test.YthdoophjcjlklaaBY
namespace Go.Proofs.Ythdoophjcjlklaa

theorem proved : Rows.BoundTellsSaid := provedTells aliveOk boundWide boundCertain boundWidth
end Go.Proofs.Ythdoophjcjlklaa
