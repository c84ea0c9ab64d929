/-
  DERIVED. GIVEN WITH THE SEED: THE CARDS: each row of YtclplbnildnifaaGreatDoorRows.lean that lists a variable, with what it lists TIED to the program's text (the seventh form; the later family's looks); each row that meets fmt, with fmt's text TOLD by the authors' own Lean function (tested against real Go, not proved from fmt's source: count such statements apart). THE CARD IS WHAT COUNTS. Prove the row's statement (the work); the ties are given (YtclplbnildnifaaGreatDoorTie.lean); close each card by the builder's one call (the guide's Derived/Test/ToyasCard.lean, 'card_holds'). Laid BY PROGRAM, IN A SANDBOX (cutbox-door.mjs). By AI agents, Wed Nov 11 2026. No macro, syntax, notation, axiom, sorry.
-/
import Derived.Test.YtclplbnildnifaaGreatDoorRows
import GoSem.ClaimSeven
namespace Go.Proofs.YtclplbnildnifaaGreatDoor
namespace Rows

/-- THE TIED CARD OF 'stratalaw04.TapeBits'. -/
def tapeBitsCard : Claim7 := { stood := { row := tapeBitsRow, standIns := [], harness := (true, "a368f610f8b75c40e9c5fb321b10acfddd2c9535cea5280a1f618ef30aa6c2c9"), looks := true }, kinds := [], alts := [], laidByText := true, laidKinds := [.sentinel, .sentinel, .sentinel, .sentinel, .sentinel, .sentinel, .sentinel, .sentinel, .sentinel, .sentinel, .sentinel], laidTests := true, laidLooks := .later }
def TapeBitsCardSaid : Prop := Claim7.holds Tryz.pinned (.plain (OpenSpec.ofChange tapeBitsSpec)) tapeBitsCard

/-- THE TIED CARD OF 'stratalaw04.TapeRound'. -/
def tapeRoundCard : Claim7 := { stood := { row := tapeRoundRow, standIns := [], harness := (true, "a368f610f8b75c40e9c5fb321b10acfddd2c9535cea5280a1f618ef30aa6c2c9"), looks := true }, kinds := [], alts := [], laidByText := true, laidKinds := [.sentinel, .sentinel, .sentinel, .sentinel, .sentinel, .sentinel, .sentinel, .sentinel, .sentinel, .sentinel, .sentinel], laidTests := true, laidLooks := .later }
def TapeRoundCardSaid : Prop := Claim7.holds Tryz.pinned (.plain (OpenSpec.ofChange tapeRoundSpec)) tapeRoundCard

/-- THE TIED CARD OF 'stratalaw04.TapePlays'. -/
def tapePlaysCard : Claim7 := { stood := { row := tapePlaysRow, standIns := [], harness := (true, "a368f610f8b75c40e9c5fb321b10acfddd2c9535cea5280a1f618ef30aa6c2c9"), looks := true }, kinds := [], alts := [], laidByText := true, laidKinds := [.data, .data, .data, .sentinel, .sentinel, .sentinel, .sentinel, .sentinel, .sentinel, .sentinel, .sentinel, .sentinel, .sentinel, .sentinel], laidTests := true, laidLooks := .later }
def TapePlaysCardSaid : Prop := Claim7.holds Tryz.pinned (.plain (OpenSpec.ofChange tapePlaysSpec)) tapePlaysCard

/-- THE SECOND FORM's CARD OF 'stratalaw04.TapeBits'. -/
def tapeBitsUptoCard : Claim7 := { stood := { row := tapeBitsUptoRow, standIns := [], harness := (true, "a368f610f8b75c40e9c5fb321b10acfddd2c9535cea5280a1f618ef30aa6c2c9"), looks := true }, kinds := [], alts := [], laidByText := true, laidKinds := [.sentinel, .sentinel, .sentinel, .sentinel, .sentinel, .sentinel, .sentinel, .sentinel, .sentinel, .sentinel, .sentinel], laidTests := true, laidLooks := .later }
def TapeBitsUptoCardSaid : Prop := Claim7.holds Tryz.pinned (.plain (OpenSpec.upto tapeBitsSpec)) tapeBitsUptoCard

/-- THE SECOND FORM's CARD OF 'stratalaw04.TapeRound'. -/
def tapeRoundUptoCard : Claim7 := { stood := { row := tapeRoundUptoRow, standIns := [], harness := (true, "a368f610f8b75c40e9c5fb321b10acfddd2c9535cea5280a1f618ef30aa6c2c9"), looks := true }, kinds := [], alts := [], laidByText := true, laidKinds := [.sentinel, .sentinel, .sentinel, .sentinel, .sentinel, .sentinel, .sentinel, .sentinel, .sentinel, .sentinel, .sentinel], laidTests := true, laidLooks := .later }
def TapeRoundUptoCardSaid : Prop := Claim7.holds Tryz.pinned (.plain (OpenSpec.upto tapeRoundSpec)) tapeRoundUptoCard

/-- THE SECOND FORM's CARD OF 'stratalaw04.TapePlays'. -/
def tapePlaysUptoCard : Claim7 := { stood := { row := tapePlaysUptoRow, standIns := [], harness := (true, "a368f610f8b75c40e9c5fb321b10acfddd2c9535cea5280a1f618ef30aa6c2c9"), looks := true }, kinds := [], alts := [], laidByText := true, laidKinds := [.data, .data, .data, .sentinel, .sentinel, .sentinel, .sentinel, .sentinel, .sentinel, .sentinel, .sentinel, .sentinel, .sentinel, .sentinel], laidTests := true, laidLooks := .later }
def TapePlaysUptoCardSaid : Prop := Claim7.holds Tryz.pinned (.plain (OpenSpec.upto tapePlaysSpec)) tapePlaysUptoCard
end Rows
end Go.Proofs.YtclplbnildnifaaGreatDoor
