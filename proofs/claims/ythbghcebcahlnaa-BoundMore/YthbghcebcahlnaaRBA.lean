/- Good code: what a step may do without being seen by others. -/
import Derived.Test.YthbghcebcahlnaaRB
import GoSem.Dispatch
namespace Go.Proofs.Ythbghcebcahlnaa
open Go

/-- A type of numbers. -/
def isNumT : TypeDesc → Bool
  | .int _ => true
  | .float _ => true
  | .complex _ => true
  | _ => false
/-- The builtins that good code calls. -/
def okBuiltin : Builtin → Bool
  | .append | .cap | .complex | .copy | .imag | .len | .max | .min | .real => true
  | _ => false
def okTarget : Target → Bool
  | .builtin b _ _ _ => okBuiltin b
  | .coroexit _ => false
  | _ => true
/-- A call that good code makes. -/
def okCall (c : Call) : Bool := match c.callee with
  | .builtin b => okBuiltin b
  | _ => true
/-- Operations of good code. -/
def okOp (P : Program) : Op → Bool
  | .move _ | .assign _ | .pick .. | .alloc _ | .box .. | .build .. | .buildSlice .. | .load .. | .store .. | .nilCheck _ | .binOp .. | .unOp .. | .sliceToArrayPointer .. | .makeInterface .. | .makeFunc .. | .makeSlice .. | .slice .. | .fieldAddr .. | .field .. | .indexAddr .. | .index .. | .extract .. | .panic _ => true
  | .convert src dst _ => (P.underlying src).any isNumT && (P.underlying dst).any isNumT
  | .call c => okCall c
  | _ => false
def okCode (P : Program) : Code → Bool
  | .skip | .exit _ | .ret | .refuse _ => true
  | .region _ ops _ => ops.all fun o => okOp P o.op
  | .seq a b | .cond _ a b | .rangeFunc _ _ a b => okCode P a && okCode P b
  | .block _ c | .loop c => okCode P c
  | .scope _ | .label _ | .goto _ => false
def okLoop (P : Program) (l : Loop) : Prop := okCode P l.assign = true ∧ okCode P l.body = true ∧ ∀ c, l.pending = some c → okCode P c = true
/-- What lies in the heap: no view, good loops, good calls. -/
def okObj (P : Program) : Obj → Prop
  | .view a _ => a.spot.isSome = true
  | .pending .. => False
  | .loop l => okLoop P l
  | .deferred (some ds) => ∀ d ∈ ds, okTarget d.target = true
  | _ => True
def okItem (P : Program) : Item → Bool
  | .code c | .inLoop c => okCode P c
  | .inScope _ => false
  | .inRegion ops _ => ops.all fun o => okOp P o.op
  | .inBlock _ | .inRangeFunc _ | .endRangeFunc _ | .beginRound => true
  | .call .. | .extern .. => false
/-- What an operation of good code leads to. -/
def okNext (P : Program) (F : Array Func) : Next → Prop
  | .value _ | .skip => True
  | .enter f _ => ∃ fn c, F[f]? = some fn ∧ P.funcs[f]? = some fn ∧ fn.body = some c
  | .round _ _ _ a b => okCode P a = true ∧ okCode P b = true
  | _ => False
end Go.Proofs.Ythbghcebcahlnaa
