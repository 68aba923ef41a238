/- PeelOpens, of the landed code. -/
import Derived.Test.YtgbkfmjkemkajaaPOpens
import Derived.Test.YtgbkfmjkemkajaaPVF
import Derived.Test.YtgbkfmjkemkajaaPB7
import Derived.Test.YtgbkfmjkemkajaaPS3
namespace Go.Proofs.Ytgbkfmjkemkajaa
theorem proved : Rows.PeelOpensSaid := provedPeelOpens aliveOk openBad openGood leftBad leftGood refOpenBad (refOpenGood startOk) (refLeftBad refOpenBad) (refLeftGood (refOpenGood startOk))
end Go.Proofs.Ytgbkfmjkemkajaa
