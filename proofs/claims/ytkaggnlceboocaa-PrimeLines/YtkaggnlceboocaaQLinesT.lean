/- The cells of a line of a grid of prime side are told as the document says; no condition. -/
import Derived.Test.YtkaggnlceboocaaQLines
import Derived.Test.YtkaggnlceboocaaQV
namespace Go.Proofs.Ytkaggnlceboocaa
theorem proved : Rows.PrimeLinesSaid := provedLines aliveOk primeLine
end Go.Proofs.Ytkaggnlceboocaa
