/-
  No cell of these rows narrows 'for every input' (looked for: loops, veiled, ifaces, maps, wideKeys, modest, calm, conditions, laid).
  DERIVED. THE GIVEN ROWS OF THIS SEAT. 3 by the template 'for every input the law returns true; each argument reads behind the call as it read before'; 0 by the template 'total and deterministic' (their statements: YtfddchjonjklkaaTotals.lean).
  GIVEN WITH THE SEED: the statements are not yours to turn. If you find one false, say at which input.
  Laid BY PROGRAM, IN A SANDBOX (cutbox-rows.mjs): the forced cells as the released guide's own fill.sh prints them over the translation b5273dd7e34275de… (all of the seat's roots in one cut). By AI agents, Wed Nov 11 2026. No macro, syntax, notation, axiom, sorry.
-/
import Derived.Test.YtfddchjonjklkaaChecked
import GoSem.Claim
import GoSem.ClaimJoined
import GoSem.ClaimMapViews
import Derived.JoinedTies
import Derived.KernelRfl
namespace Go.Proofs.Ytfddchjonjklkaa
/- THE CELL 'sum', in the pinned program and in every row, IS THE sha256 OF THE DUMP (.gsa) THAT YtfddchjonjklkaaProg.lean LOADS. Nothing in Lean hashes anything: it is a label: what it is worth is what the hold of that sum in a sandbox is worth. -/
noncomputable def Try.pinned : Pinned := { name := "ytfddchjonjklkaa", sum := "b5273dd7e34275de75e55861cfdc4dae11ad022b689f88bb6a20ab95b631f318", checked := Try.checked }
namespace Rows
def none {H : Type} : Left H := { results := [], args := [] }

/-- 'penumbralaw13.GhostMakes': WHATEVER THE INPUT: true; the input reads as it did. -/
def ghostMakesSpec : ChangeSpec := { name := "ghostMakes", fn := fun _ => fun
  | [d1, d2] => { results := [.lit (.bool true)], args := [d1, d2] }
  | _ => none }
def ghostMakesRow : OpenClaim := { program := "ytfddchjonjklkaa", sum := "b5273dd7e34275de75e55861cfdc4dae11ad022b689f88bb6a20ab95b631f318", func := "penumbra/penumbralaw13.GhostMakes", spec := "ghostMakes", inPlace := ["math.Float64bits", "math.Float64frombits", "math.archTrunc"], unfollowed := true, recurses := true, plainKeys := false, apart := false }
def GhostMakesSaid : Prop := ghostMakesRow.holds Try.pinned (OpenSpec.ofChange ghostMakesSpec)

/-- ITS FALSE NEIGHBOUR: 'it returns false'. Refute it at one input. -/
def ghostMakesWrong : ChangeSpec := { name := "ghostMakes", fn := fun _ => fun
  | [d1, d2] => { results := [.lit (.bool false)], args := [d1, d2] }
  | _ => none }
def GhostMakesWrongFalsely : Prop := ghostMakesRow.holds Try.pinned (OpenSpec.ofChange ghostMakesWrong)

/-- 'penumbralaw13.GhostKatz': WHATEVER THE INPUT: true; the input reads as it did. -/
def ghostKatzSpec : ChangeSpec := { name := "ghostKatz", fn := fun _ => fun
  | [d1, d2] => { results := [.lit (.bool true)], args := [d1, d2] }
  | _ => none }
def ghostKatzRow : OpenClaim := { program := "ytfddchjonjklkaa", sum := "b5273dd7e34275de75e55861cfdc4dae11ad022b689f88bb6a20ab95b631f318", func := "penumbra/penumbralaw13.GhostKatz", spec := "ghostKatz", inPlace := ["math.Float64bits", "math.Float64frombits", "math.archTrunc"], unfollowed := true, recurses := true, plainKeys := false, apart := false }
def GhostKatzSaid : Prop := ghostKatzRow.holds Try.pinned (OpenSpec.ofChange ghostKatzSpec)

/-- ITS FALSE NEIGHBOUR: 'it returns false'. Refute it at one input. -/
def ghostKatzWrong : ChangeSpec := { name := "ghostKatz", fn := fun _ => fun
  | [d1, d2] => { results := [.lit (.bool false)], args := [d1, d2] }
  | _ => none }
def GhostKatzWrongFalsely : Prop := ghostKatzRow.holds Try.pinned (OpenSpec.ofChange ghostKatzWrong)

/-- 'penumbralaw13.GhostOrders': WHATEVER THE INPUT: true; the input reads as it did. -/
def ghostOrdersSpec : ChangeSpec := { name := "ghostOrders", fn := fun _ => fun
  | [d] => { results := [.lit (.bool true)], args := [d] }
  | _ => none }
def ghostOrdersRow : OpenClaim := { program := "ytfddchjonjklkaa", sum := "b5273dd7e34275de75e55861cfdc4dae11ad022b689f88bb6a20ab95b631f318", func := "penumbra/penumbralaw13.GhostOrders", spec := "ghostOrders", inPlace := ["math.Float64bits", "math.Float64frombits", "math.archTrunc"], unfollowed := true, recurses := true, plainKeys := false, apart := false }
def GhostOrdersSaid : Prop := ghostOrdersRow.holds Try.pinned (OpenSpec.ofChange ghostOrdersSpec)

/-- ITS FALSE NEIGHBOUR: 'it returns false'. Refute it at one input. -/
def ghostOrdersWrong : ChangeSpec := { name := "ghostOrders", fn := fun _ => fun
  | [d] => { results := [.lit (.bool false)], args := [d] }
  | _ => none }
def GhostOrdersWrongFalsely : Prop := ghostOrdersRow.holds Try.pinned (OpenSpec.ofChange ghostOrdersWrong)

/- THE SECOND FORM. 'bulk': how many values and letters a reading holds, each counted each time it is reached (what is shared counts as often as it is met; a slice's spare places count too). A statement '..UptoSaid' is the law's where the arguments, and the package variables that the reading takes, are together of bulk at most 1048576: NARROWER than '..Said'. Prove '..Said' where nothing that the law and all that it calls make is longer than what came in: it says more and counts as full. Else prove '..UptoSaid'. A law counts once. -/
mutual
def uptoBulk {H : Type} : DataW H → Nat
  | .lit (.string bytes) => bytes.length + 1
  | .lit _ => 1
  | .nil => 1
  | .ptr d => uptoBulk d + 1
  | .slice elems spare => uptoBulkAll elems + uptoBulkAll spare + 1
  | .agg parts => uptoBulkAll parts + 1
  | .iface _ d => uptoBulk d + 1
  | .map entries => uptoBulkEntries entries + 1
  | .held _ => 1
def uptoBulkAll {H : Type} : List (DataW H) → Nat
  | [] => 0
  | d :: r => uptoBulk d + uptoBulkAll r
def uptoBulkEntries {H : Type} : List (Lit × DataW H) → Nat
  | [] => 0
  | x :: r => uptoBulkEntry x + uptoBulkEntries r
def uptoBulkEntry {H : Type} : Lit × DataW H → Nat
  | (.string bytes, d) => bytes.length + uptoBulk d + 1
  | (_, d) => uptoBulk d + 1
 end
def uptoSmall : (H : Type) → List (DataW H) → Bool := fun _ ds => decide (uptoBulkAll ds ≤ 1048576)
def OpenSpec.upto (s : _root_.Go.ChangeSpec) : _root_.Go.OpenSpec := { _root_.Go.OpenSpec.ofChange s with cond := some uptoSmall }

/-- 'penumbralaw13.GhostMakes', WHERE WHAT IT READS IS OF BULK AT MOST 1048576: true; the input reads as it did. -/
def ghostMakesUptoRow : OpenClaim := { program := "ytfddchjonjklkaa", sum := "b5273dd7e34275de75e55861cfdc4dae11ad022b689f88bb6a20ab95b631f318", func := "penumbra/penumbralaw13.GhostMakes", spec := "ghostMakes", inPlace := ["math.Float64bits", "math.Float64frombits", "math.archTrunc"], unfollowed := true, recurses := true, plainKeys := false, apart := false, narrowed := true }
def GhostMakesUptoSaid : Prop := ghostMakesUptoRow.holds Try.pinned (OpenSpec.upto ghostMakesSpec)

/-- 'penumbralaw13.GhostKatz', WHERE WHAT IT READS IS OF BULK AT MOST 1048576: true; the input reads as it did. -/
def ghostKatzUptoRow : OpenClaim := { program := "ytfddchjonjklkaa", sum := "b5273dd7e34275de75e55861cfdc4dae11ad022b689f88bb6a20ab95b631f318", func := "penumbra/penumbralaw13.GhostKatz", spec := "ghostKatz", inPlace := ["math.Float64bits", "math.Float64frombits", "math.archTrunc"], unfollowed := true, recurses := true, plainKeys := false, apart := false, narrowed := true }
def GhostKatzUptoSaid : Prop := ghostKatzUptoRow.holds Try.pinned (OpenSpec.upto ghostKatzSpec)

/-- 'penumbralaw13.GhostOrders', WHERE WHAT IT READS IS OF BULK AT MOST 1048576: true; the input reads as it did. -/
def ghostOrdersUptoRow : OpenClaim := { program := "ytfddchjonjklkaa", sum := "b5273dd7e34275de75e55861cfdc4dae11ad022b689f88bb6a20ab95b631f318", func := "penumbra/penumbralaw13.GhostOrders", spec := "ghostOrders", inPlace := ["math.Float64bits", "math.Float64frombits", "math.archTrunc"], unfollowed := true, recurses := true, plainKeys := false, apart := false, narrowed := true }
def GhostOrdersUptoSaid : Prop := ghostOrdersUptoRow.holds Try.pinned (OpenSpec.upto ghostOrdersSpec)

end Rows
end Go.Proofs.Ytfddchjonjklkaa
