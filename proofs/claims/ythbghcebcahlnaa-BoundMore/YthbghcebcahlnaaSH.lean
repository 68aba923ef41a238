/- The library's wait group, as this program has it. -/
import Derived.Test.YthbghcebcahlnaaChecked
import Derived.Conc.WgGenLoneE
import Derived.KernelRfl
namespace Go.Proofs.Ythbghcebcahlnaa
open Go Go.Conc.Lib
abbrev link : WgLink := { add := 27, done := 29, wait := 31, relMerge := 43, disable := 44, enable := 45, inBubble := 46, associate := 47, fatal := 48, uOr := 49, uAdd := 50, raceRead := 51, uLoad := 52, uStore := 53, disassociate := 54, semrelease := 55, acquire := 57, isAssociated := 58, uCas := 59, raceWrite := 60, semacquire := 61, orU64 := 77, addU64 := 78, loadU64 := 79, storeU64 := 80, casU64 := 83, tWgP := 102, tUP := 104, tAssoc := 105, tWg := 77, tAU := 74, tU64 := 72, tUint := 43, tU32 := 75, tPU32 := 109, tPAU := 135, tPU64 := 137, tNoCopy := 71, tANoCopy := 65, tAlign64 := 66 }
set_option maxHeartbeats 4000000 in
theorem wgLib : WgLib Try.prog link := by
  constructor
  all_goals first | kernel_rfl | (intro w; kernel_rfl)
end Go.Proofs.Ythbghcebcahlnaa
