/- PeelOrders, of the landed code. -/
import Derived.Test.YtgbkfmjkemkajaaPOrders
import Derived.Test.YtgbkfmjkemkajaaPVF
namespace Go.Proofs.Ytgbkfmjkemkajaa
theorem proved : Rows.PeelOrdersSaid := provedPeelOrders aliveOk openBad openGood
end Go.Proofs.Ytgbkfmjkemkajaa
