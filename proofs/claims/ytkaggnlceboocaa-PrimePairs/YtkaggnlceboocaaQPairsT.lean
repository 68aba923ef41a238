/- Two unlike cells of a grid of prime side lie together on just one line; no condition. -/
import Derived.Test.YtkaggnlceboocaaQPairs
import Derived.Test.YtkaggnlceboocaaQV
namespace Go.Proofs.Ytkaggnlceboocaa
theorem proved : Rows.PrimePairsSaid := provedPairs aliveOk primeIs primeLine
end Go.Proofs.Ytkaggnlceboocaa
