/- WholeAngles, of the landed code. -/
import Derived.Test.YtgbkfmjkemkajabPAngles
import Derived.Test.YtgbkfmjkemkajabPVG
import Derived.Test.YtgbkfmjkemkajabPM9
import Derived.Test.YtgbkfmjkemkajabDU
namespace Go.Proofs.Ytgbkfmjkemkajab
theorem proved : Rows.WholeAnglesSaid := provedAngles alive14Ok (fun _ w => dirAll w) leftGood
end Go.Proofs.Ytgbkfmjkemkajab
