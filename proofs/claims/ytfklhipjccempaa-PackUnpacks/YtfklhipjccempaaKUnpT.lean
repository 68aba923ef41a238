/- PackUnpacks is true of every list of bytes: the program reads it as a field, or refuses it, just as the document's own reading does, and leaves it as it was. No condition. -/
import Derived.Test.YtfklhipjccempaaKUnpacks
import Derived.Test.YtfklhipjccempaaKA1
import Derived.Test.YtfklhipjccempaaLO
namespace Go.Proofs.Ytfklhipjccempaa

theorem proved : Rows.PackUnpacksSaid := provedUnpacks (alive21 progPack progUnpack) progUnpack
end Go.Proofs.Ytfklhipjccempaa
