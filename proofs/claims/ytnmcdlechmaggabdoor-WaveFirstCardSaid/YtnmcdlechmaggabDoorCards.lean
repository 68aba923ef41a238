/-
  DERIVED. GIVEN WITH THE SEED: THE CARDS: each row of YtnmcdlechmaggabDoorRows.lean that lists a variable, with what it lists TIED to the program's text (the seventh form; the later family's looks); each row that meets fmt, with fmt's text TOLD by the authors' own Lean function (tested against real Go, not proved from fmt's source: count such statements apart). THE CARD IS WHAT COUNTS. Prove the row's statement (the work); the ties are given (YtnmcdlechmaggabDoorTie.lean); close each card by the builder's one call (the guide's Derived/Test/ToyasCard.lean, 'card_holds'). Laid BY PROGRAM, IN A SANDBOX (cutbox-door.mjs). By AI agents, Wed Nov 11 2026. No macro, syntax, notation, axiom, sorry.
-/
import Derived.Test.YtnmcdlechmaggabDoorRows
import GoSem.ClaimSeven
namespace Go.Proofs.YtnmcdlechmaggabDoor
namespace Rows

/-- THE TIED CARD OF 'penumbralaw03.WaveFirst'. -/
def waveFirstCard : Claim7 := { stood := { row := waveFirstRow, standIns := [], harness := (true, "727e301630fdd23553e356ac61bedaf5544820a64430c60a47197b7e62c80c31"), looks := false }, kinds := [], alts := [], laidByText := true, laidKinds := [.data, .data], laidTests := true, laidLooks := .later }
def WaveFirstCardSaid : Prop := Claim7.holds Tryd.pinned (.plain (OpenSpec.ofChange waveFirstSpec)) waveFirstCard

/-- THE SECOND FORM's CARD OF 'penumbralaw03.WaveFirst'. -/
def waveFirstUptoCard : Claim7 := { stood := { row := waveFirstUptoRow, standIns := [], harness := (true, "727e301630fdd23553e356ac61bedaf5544820a64430c60a47197b7e62c80c31"), looks := false }, kinds := [], alts := [], laidByText := true, laidKinds := [.data, .data], laidTests := true, laidLooks := .later }
def WaveFirstUptoCardSaid : Prop := Claim7.holds Tryd.pinned (.plain (OpenSpec.upto waveFirstSpec)) waveFirstUptoCard
end Rows
end Go.Proofs.YtnmcdlechmaggabDoor
