/- The document's own All. -/
import Derived.Test.YtgbkfmjkemkajabDS
import Derived.Deep.AppendLies
namespace Go.Proofs.Ytgbkfmjkemkajab
open Go.RowKit

end Go.Proofs.Ytgbkfmjkemkajab
