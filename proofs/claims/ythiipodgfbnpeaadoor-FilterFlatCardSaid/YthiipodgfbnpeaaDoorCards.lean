/-
  DERIVED. GIVEN WITH THE SEED: THE CARDS: each row of YthiipodgfbnpeaaDoorRows.lean that lists a variable, with what it lists TIED to the program's text (the seventh form; the later family's looks); each row that meets fmt, with fmt's text TOLD by the authors' own Lean function (tested against real Go, not proved from fmt's source: count such statements apart). THE CARD IS WHAT COUNTS. Prove the row's statement (the work); the ties are given (YthiipodgfbnpeaaDoorTie.lean); close each card by the builder's one call (the guide's Derived/Test/ToyasCard.lean, 'card_holds'). Laid BY PROGRAM, IN A SANDBOX (cutbox-door.mjs). By AI agents, Wed Nov 11 2026. No macro, syntax, notation, axiom, sorry.
-/
import Derived.Test.YthiipodgfbnpeaaDoorRows
import GoSem.ClaimSeven
namespace Go.Proofs.YthiipodgfbnpeaaDoor
namespace Rows

/-- THE TIED CARD OF 'penumbralaw16.FilterWeights'. -/
def filterWeightsCard : Claim7 := { stood := { row := filterWeightsRow, standIns := [], harness := (true, "bf4bfc1b07142600503217aa46394aac1664531f82e59f1b8d4d864103ef173a"), looks := false }, kinds := [], alts := [], laidByText := true, laidKinds := [.data, .data], laidTests := true, laidLooks := .later }
def FilterWeightsCardSaid : Prop := Claim7.holds Tryd.pinned (.plain (OpenSpec.ofChange filterWeightsSpec)) filterWeightsCard

/-- THE TIED CARD OF 'penumbralaw16.FilterFlat'. -/
def filterFlatCard : Claim7 := { stood := { row := filterFlatRow, standIns := [], harness := (true, "bf4bfc1b07142600503217aa46394aac1664531f82e59f1b8d4d864103ef173a"), looks := false }, kinds := [], alts := [], laidByText := true, laidKinds := [.data, .data], laidTests := true, laidLooks := .later }
def FilterFlatCardSaid : Prop := Claim7.holds Tryd.pinned (.plain (OpenSpec.ofChange filterFlatSpec)) filterFlatCard

/-- THE SECOND FORM's CARD OF 'penumbralaw16.FilterWeights'. -/
def filterWeightsUptoCard : Claim7 := { stood := { row := filterWeightsUptoRow, standIns := [], harness := (true, "bf4bfc1b07142600503217aa46394aac1664531f82e59f1b8d4d864103ef173a"), looks := false }, kinds := [], alts := [], laidByText := true, laidKinds := [.data, .data], laidTests := true, laidLooks := .later }
def FilterWeightsUptoCardSaid : Prop := Claim7.holds Tryd.pinned (.plain (OpenSpec.upto filterWeightsSpec)) filterWeightsUptoCard

/-- THE SECOND FORM's CARD OF 'penumbralaw16.FilterFlat'. -/
def filterFlatUptoCard : Claim7 := { stood := { row := filterFlatUptoRow, standIns := [], harness := (true, "bf4bfc1b07142600503217aa46394aac1664531f82e59f1b8d4d864103ef173a"), looks := false }, kinds := [], alts := [], laidByText := true, laidKinds := [.data, .data], laidTests := true, laidLooks := .later }
def FilterFlatUptoCardSaid : Prop := Claim7.holds Tryd.pinned (.plain (OpenSpec.upto filterFlatSpec)) filterFlatUptoCard
end Rows
end Go.Proofs.YthiipodgfbnpeaaDoor
