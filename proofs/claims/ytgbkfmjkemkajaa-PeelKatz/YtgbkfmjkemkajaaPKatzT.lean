/- PeelKatz, of the landed code. -/
import Derived.Test.YtgbkfmjkemkajaaPKatz
import Derived.Test.YtgbkfmjkemkajaaPVF
namespace Go.Proofs.Ytgbkfmjkemkajaa
theorem proved : Rows.PeelKatzSaid := provedPeelKatz aliveOk leftBad leftGood
end Go.Proofs.Ytgbkfmjkemkajaa
