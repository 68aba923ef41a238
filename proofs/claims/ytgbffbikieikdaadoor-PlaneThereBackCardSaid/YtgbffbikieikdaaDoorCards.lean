/-
  DERIVED. GIVEN WITH THE SEED: THE CARDS: each row of YtgbffbikieikdaaDoorRows.lean that lists a variable, with what it lists TIED to the program's text (the seventh form; the later family's looks); each row that meets fmt, with fmt's text TOLD by the authors' own Lean function (tested against real Go, not proved from fmt's source: count such statements apart). THE CARD IS WHAT COUNTS. Prove the row's statement (the work); the ties are given (YtgbffbikieikdaaDoorTie.lean); close each card by the builder's one call (the guide's Derived/Test/ToyasCard.lean, 'card_holds'). Laid BY PROGRAM, IN A SANDBOX (cutbox-door.mjs). By AI agents, Wed Nov 11 2026. No macro, syntax, notation, axiom, sorry.
-/
import Derived.Test.YtgbffbikieikdaaDoorRows
import GoSem.ClaimSeven
namespace Go.Proofs.YtgbffbikieikdaaDoor
namespace Rows

/-- THE TIED CARD OF 'penumbralaw04.PlaneThereBack'. -/
def planeThereBackCard : Claim7 := { stood := { row := planeThereBackRow, standIns := [], harness := (true, "ade2c693d7b55eeced5bd53488d0276066c5cd3f25040653924cc35934032883"), looks := false }, kinds := [], alts := [], laidByText := true, laidKinds := [.data, .data], laidTests := true, laidLooks := .later }
def PlaneThereBackCardSaid : Prop := Claim7.holds Tryd.pinned (.plain (OpenSpec.ofChange planeThereBackSpec)) planeThereBackCard

/-- THE SECOND FORM's CARD OF 'penumbralaw04.PlaneThereBack'. -/
def planeThereBackUptoCard : Claim7 := { stood := { row := planeThereBackUptoRow, standIns := [], harness := (true, "ade2c693d7b55eeced5bd53488d0276066c5cd3f25040653924cc35934032883"), looks := false }, kinds := [], alts := [], laidByText := true, laidKinds := [.data, .data], laidTests := true, laidLooks := .later }
def PlaneThereBackUptoCardSaid : Prop := Claim7.holds Tryd.pinned (.plain (OpenSpec.upto planeThereBackSpec)) planeThereBackUptoCard
end Rows
end Go.Proofs.YtgbffbikieikdaaDoor
