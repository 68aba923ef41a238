/-
  DERIVED. GIVEN WITH THE SEED: THE CARDS: each row of YtnmcdlechmaggaaDoorRows.lean that lists a variable, with what it lists TIED to the program's text (the seventh form; the later family's looks); each row that meets fmt, with fmt's text TOLD by the authors' own Lean function (tested against real Go, not proved from fmt's source: count such statements apart). THE CARD IS WHAT COUNTS. Prove the row's statement (the work); the ties are given (YtnmcdlechmaggaaDoorTie.lean); close each card by the builder's one call (the guide's Derived/Test/ToyasCard.lean, 'card_holds'). Laid BY PROGRAM, IN A SANDBOX (cutbox-door.mjs). By AI agents, Wed Nov 11 2026. No macro, syntax, notation, axiom, sorry.
-/
import Derived.Test.YtnmcdlechmaggaaDoorRows
import GoSem.ClaimSeven
namespace Go.Proofs.YtnmcdlechmaggaaDoor
namespace Rows

/-- THE TIED CARD OF 'penumbralaw03.WaveThereBack'. -/
def waveThereBackCard : Claim7 := { stood := { row := waveThereBackRow, standIns := [], harness := (true, "288dacfa67bcf80244f6aad91ce9e53e10cb5a4a04f00f0f39f74728a87550cc"), looks := false }, kinds := [], alts := [], laidByText := true, laidKinds := [.data, .data], laidTests := true, laidLooks := .later }
def WaveThereBackCardSaid : Prop := Claim7.holds Tryd.pinned (.plain (OpenSpec.ofChange waveThereBackSpec)) waveThereBackCard

/-- THE SECOND FORM's CARD OF 'penumbralaw03.WaveThereBack'. -/
def waveThereBackUptoCard : Claim7 := { stood := { row := waveThereBackUptoRow, standIns := [], harness := (true, "288dacfa67bcf80244f6aad91ce9e53e10cb5a4a04f00f0f39f74728a87550cc"), looks := false }, kinds := [], alts := [], laidByText := true, laidKinds := [.data, .data], laidTests := true, laidLooks := .later }
def WaveThereBackUptoCardSaid : Prop := Claim7.holds Tryd.pinned (.plain (OpenSpec.upto waveThereBackSpec)) waveThereBackUptoCard
end Rows
end Go.Proofs.YtnmcdlechmaggaaDoor
