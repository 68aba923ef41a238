/-
  No cell of these rows narrows 'for every input' (looked for: loops, veiled, ifaces, maps, wideKeys, modest, calm, conditions, laid).
  DERIVED. THE GIVEN ROWS OF THIS SEAT. 6 by the template 'for every input the law returns true; each argument reads behind the call as it read before'; 0 by the template 'total and deterministic' (their statements: YtkjjhllmedkfhaaTotals.lean).
  GIVEN WITH THE SEED: the statements are not yours to turn. If you find one false, say at which input.
  Laid BY PROGRAM, IN A SANDBOX (cutbox-rows.mjs): the forced cells as the released guide's own fill.sh prints them over the translation 4e7e38a5df82bd73… (all of the seat's roots in one cut). By AI agents, Wed Nov 11 2026. No macro, syntax, notation, axiom, sorry.
-/
import Derived.Test.YtkjjhllmedkfhaaChecked
import GoSem.Claim
import GoSem.ClaimJoined
import GoSem.ClaimMapViews
import Derived.JoinedTies
import Derived.KernelRfl
namespace Go.Proofs.Ytkjjhllmedkfhaa
/- THE CELL 'sum', in the pinned program and in every row, IS THE sha256 OF THE DUMP (.gsa) THAT YtkjjhllmedkfhaaProg.lean LOADS. Nothing in Lean hashes anything: it is a label: what it is worth is what the hold of that sum in a sandbox is worth. -/
noncomputable def Try.pinned : Pinned := { name := "ytkjjhllmedkfhaa", sum := "4e7e38a5df82bd737ee96a3c528f2e1d14a3802f45f26d0ca7c73b4122a92c51", checked := Try.checked }
namespace Rows
def none {H : Type} : Left H := { results := [], args := [] }

/-- 'penumbralaw06.DirForms': WHATEVER THE INPUT: true; the input reads as it did. -/
def dirFormsSpec : ChangeSpec := { name := "dirForms", fn := fun _ => fun
  | [d1, d2] => { results := [.lit (.bool true)], args := [d1, d2] }
  | _ => none }
def dirFormsRow : OpenClaim := { program := "ytkjjhllmedkfhaa", sum := "4e7e38a5df82bd737ee96a3c528f2e1d14a3802f45f26d0ca7c73b4122a92c51", func := "penumbra/penumbralaw06.DirForms", spec := "dirForms", plainKeys := false, apart := false }
def DirFormsSaid : Prop := dirFormsRow.holds Try.pinned (OpenSpec.ofChange dirFormsSpec)

/-- ITS FALSE NEIGHBOUR: 'it returns false'. Refute it at one input. -/
def dirFormsWrong : ChangeSpec := { name := "dirForms", fn := fun _ => fun
  | [d1, d2] => { results := [.lit (.bool false)], args := [d1, d2] }
  | _ => none }
def DirFormsWrongFalsely : Prop := dirFormsRow.holds Try.pinned (OpenSpec.ofChange dirFormsWrong)

/-- 'penumbralaw06.DirAll': WHATEVER THE INPUT: true; the input reads as it did. -/
def dirAllSpec : ChangeSpec := { name := "dirAll", fn := fun _ => fun
  | [d] => { results := [.lit (.bool true)], args := [d] }
  | _ => none }
def dirAllRow : OpenClaim := { program := "ytkjjhllmedkfhaa", sum := "4e7e38a5df82bd737ee96a3c528f2e1d14a3802f45f26d0ca7c73b4122a92c51", func := "penumbra/penumbralaw06.DirAll", spec := "dirAll", unfollowed := true, recurses := true, plainKeys := false, apart := false }
def DirAllSaid : Prop := dirAllRow.holds Try.pinned (OpenSpec.ofChange dirAllSpec)

/-- ITS FALSE NEIGHBOUR: 'it returns false'. Refute it at one input. -/
def dirAllWrong : ChangeSpec := { name := "dirAll", fn := fun _ => fun
  | [d] => { results := [.lit (.bool false)], args := [d] }
  | _ => none }
def DirAllWrongFalsely : Prop := dirAllRow.holds Try.pinned (OpenSpec.ofChange dirAllWrong)

/-- 'penumbralaw06.DirLines': WHATEVER THE INPUT: true; the input reads as it did. -/
def dirLinesSpec : ChangeSpec := { name := "dirLines", fn := fun _ => fun
  | [d] => { results := [.lit (.bool true)], args := [d] }
  | _ => none }
def dirLinesRow : OpenClaim := { program := "ytkjjhllmedkfhaa", sum := "4e7e38a5df82bd737ee96a3c528f2e1d14a3802f45f26d0ca7c73b4122a92c51", func := "penumbra/penumbralaw06.DirLines", spec := "dirLines", plainKeys := false, apart := false }
def DirLinesSaid : Prop := dirLinesRow.holds Try.pinned (OpenSpec.ofChange dirLinesSpec)

/-- ITS FALSE NEIGHBOUR: 'it returns false'. Refute it at one input. -/
def dirLinesWrong : ChangeSpec := { name := "dirLines", fn := fun _ => fun
  | [d] => { results := [.lit (.bool false)], args := [d] }
  | _ => none }
def DirLinesWrongFalsely : Prop := dirLinesRow.holds Try.pinned (OpenSpec.ofChange dirLinesWrong)

/-- 'penumbralaw06.DirKatz': WHATEVER THE INPUT: true; the input reads as it did. -/
def dirKatzSpec : ChangeSpec := { name := "dirKatz", fn := fun _ => fun
  | [d1, d2] => { results := [.lit (.bool true)], args := [d1, d2] }
  | _ => none }
def dirKatzRow : OpenClaim := { program := "ytkjjhllmedkfhaa", sum := "4e7e38a5df82bd737ee96a3c528f2e1d14a3802f45f26d0ca7c73b4122a92c51", func := "penumbra/penumbralaw06.DirKatz", spec := "dirKatz", plainKeys := false, apart := false }
def DirKatzSaid : Prop := dirKatzRow.holds Try.pinned (OpenSpec.ofChange dirKatzSpec)

/-- ITS FALSE NEIGHBOUR: 'it returns false'. Refute it at one input. -/
def dirKatzWrong : ChangeSpec := { name := "dirKatz", fn := fun _ => fun
  | [d1, d2] => { results := [.lit (.bool false)], args := [d1, d2] }
  | _ => none }
def DirKatzWrongFalsely : Prop := dirKatzRow.holds Try.pinned (OpenSpec.ofChange dirKatzWrong)

/-- 'penumbralaw06.DirOne': WHATEVER THE INPUT: true; the input reads as it did. -/
def dirOneSpec : ChangeSpec := { name := "dirOne", fn := fun _ => fun
  | [d1, d2, d3] => { results := [.lit (.bool true)], args := [d1, d2, d3] }
  | _ => none }
def dirOneRow : OpenClaim := { program := "ytkjjhllmedkfhaa", sum := "4e7e38a5df82bd737ee96a3c528f2e1d14a3802f45f26d0ca7c73b4122a92c51", func := "penumbra/penumbralaw06.DirOne", spec := "dirOne", plainKeys := false, apart := false }
def DirOneSaid : Prop := dirOneRow.holds Try.pinned (OpenSpec.ofChange dirOneSpec)

/-- ITS FALSE NEIGHBOUR: 'it returns false'. Refute it at one input. -/
def dirOneWrong : ChangeSpec := { name := "dirOne", fn := fun _ => fun
  | [d1, d2, d3] => { results := [.lit (.bool false)], args := [d1, d2, d3] }
  | _ => none }
def DirOneWrongFalsely : Prop := dirOneRow.holds Try.pinned (OpenSpec.ofChange dirOneWrong)

/-- 'penumbralaw06.DirCells': WHATEVER THE INPUT: true; the input reads as it did. -/
def dirCellsSpec : ChangeSpec := { name := "dirCells", fn := fun _ => fun
  | [d1, d2] => { results := [.lit (.bool true)], args := [d1, d2] }
  | _ => none }
def dirCellsRow : OpenClaim := { program := "ytkjjhllmedkfhaa", sum := "4e7e38a5df82bd737ee96a3c528f2e1d14a3802f45f26d0ca7c73b4122a92c51", func := "penumbra/penumbralaw06.DirCells", spec := "dirCells", plainKeys := false, apart := false }
def DirCellsSaid : Prop := dirCellsRow.holds Try.pinned (OpenSpec.ofChange dirCellsSpec)

/-- ITS FALSE NEIGHBOUR: 'it returns false'. Refute it at one input. -/
def dirCellsWrong : ChangeSpec := { name := "dirCells", fn := fun _ => fun
  | [d1, d2] => { results := [.lit (.bool false)], args := [d1, d2] }
  | _ => none }
def DirCellsWrongFalsely : Prop := dirCellsRow.holds Try.pinned (OpenSpec.ofChange dirCellsWrong)

/- THE SECOND FORM. 'bulk': how many values and letters a reading holds, each counted each time it is reached (what is shared counts as often as it is met; a slice's spare places count too). A statement '..UptoSaid' is the law's where the arguments, and the package variables that the reading takes, are together of bulk at most 1048576: NARROWER than '..Said'. Prove '..Said' where nothing that the law and all that it calls make is longer than what came in: it says more and counts as full. Else prove '..UptoSaid'. A law counts once. -/
mutual
def uptoBulk {H : Type} : DataW H → Nat
  | .lit (.string bytes) => bytes.length + 1
  | .lit _ => 1
  | .nil => 1
  | .ptr d => uptoBulk d + 1
  | .slice elems spare => uptoBulkAll elems + uptoBulkAll spare + 1
  | .agg parts => uptoBulkAll parts + 1
  | .iface _ d => uptoBulk d + 1
  | .map entries => uptoBulkEntries entries + 1
  | .held _ => 1
def uptoBulkAll {H : Type} : List (DataW H) → Nat
  | [] => 0
  | d :: r => uptoBulk d + uptoBulkAll r
def uptoBulkEntries {H : Type} : List (Lit × DataW H) → Nat
  | [] => 0
  | x :: r => uptoBulkEntry x + uptoBulkEntries r
def uptoBulkEntry {H : Type} : Lit × DataW H → Nat
  | (.string bytes, d) => bytes.length + uptoBulk d + 1
  | (_, d) => uptoBulk d + 1
 end
def uptoSmall : (H : Type) → List (DataW H) → Bool := fun _ ds => decide (uptoBulkAll ds ≤ 1048576)
def OpenSpec.upto (s : _root_.Go.ChangeSpec) : _root_.Go.OpenSpec := { _root_.Go.OpenSpec.ofChange s with cond := some uptoSmall }

/-- 'penumbralaw06.DirForms', WHERE WHAT IT READS IS OF BULK AT MOST 1048576: true; the input reads as it did. -/
def dirFormsUptoRow : OpenClaim := { program := "ytkjjhllmedkfhaa", sum := "4e7e38a5df82bd737ee96a3c528f2e1d14a3802f45f26d0ca7c73b4122a92c51", func := "penumbra/penumbralaw06.DirForms", spec := "dirForms", plainKeys := false, apart := false, narrowed := true }
def DirFormsUptoSaid : Prop := dirFormsUptoRow.holds Try.pinned (OpenSpec.upto dirFormsSpec)

/-- 'penumbralaw06.DirAll', WHERE WHAT IT READS IS OF BULK AT MOST 1048576: true; the input reads as it did. -/
def dirAllUptoRow : OpenClaim := { program := "ytkjjhllmedkfhaa", sum := "4e7e38a5df82bd737ee96a3c528f2e1d14a3802f45f26d0ca7c73b4122a92c51", func := "penumbra/penumbralaw06.DirAll", spec := "dirAll", unfollowed := true, recurses := true, plainKeys := false, apart := false, narrowed := true }
def DirAllUptoSaid : Prop := dirAllUptoRow.holds Try.pinned (OpenSpec.upto dirAllSpec)

/-- 'penumbralaw06.DirLines', WHERE WHAT IT READS IS OF BULK AT MOST 1048576: true; the input reads as it did. -/
def dirLinesUptoRow : OpenClaim := { program := "ytkjjhllmedkfhaa", sum := "4e7e38a5df82bd737ee96a3c528f2e1d14a3802f45f26d0ca7c73b4122a92c51", func := "penumbra/penumbralaw06.DirLines", spec := "dirLines", plainKeys := false, apart := false, narrowed := true }
def DirLinesUptoSaid : Prop := dirLinesUptoRow.holds Try.pinned (OpenSpec.upto dirLinesSpec)

/-- 'penumbralaw06.DirKatz', WHERE WHAT IT READS IS OF BULK AT MOST 1048576: true; the input reads as it did. -/
def dirKatzUptoRow : OpenClaim := { program := "ytkjjhllmedkfhaa", sum := "4e7e38a5df82bd737ee96a3c528f2e1d14a3802f45f26d0ca7c73b4122a92c51", func := "penumbra/penumbralaw06.DirKatz", spec := "dirKatz", plainKeys := false, apart := false, narrowed := true }
def DirKatzUptoSaid : Prop := dirKatzUptoRow.holds Try.pinned (OpenSpec.upto dirKatzSpec)

/-- 'penumbralaw06.DirOne', WHERE WHAT IT READS IS OF BULK AT MOST 1048576: true; the input reads as it did. -/
def dirOneUptoRow : OpenClaim := { program := "ytkjjhllmedkfhaa", sum := "4e7e38a5df82bd737ee96a3c528f2e1d14a3802f45f26d0ca7c73b4122a92c51", func := "penumbra/penumbralaw06.DirOne", spec := "dirOne", plainKeys := false, apart := false, narrowed := true }
def DirOneUptoSaid : Prop := dirOneUptoRow.holds Try.pinned (OpenSpec.upto dirOneSpec)

/-- 'penumbralaw06.DirCells', WHERE WHAT IT READS IS OF BULK AT MOST 1048576: true; the input reads as it did. -/
def dirCellsUptoRow : OpenClaim := { program := "ytkjjhllmedkfhaa", sum := "4e7e38a5df82bd737ee96a3c528f2e1d14a3802f45f26d0ca7c73b4122a92c51", func := "penumbra/penumbralaw06.DirCells", spec := "dirCells", plainKeys := false, apart := false, narrowed := true }
def DirCellsUptoSaid : Prop := dirCellsUptoRow.holds Try.pinned (OpenSpec.upto dirCellsSpec)

end Rows
end Go.Proofs.Ytkjjhllmedkfhaa
