/-
  DERIVED. GIVEN WITH THE SEED: THE CARDS: each row of YtfmmmhcpdinhgabDoorRows.lean that lists a variable, with what it lists TIED to the program's text (the seventh form; the later family's looks); each row that meets fmt, with fmt's text TOLD by the authors' own Lean function (tested against real Go, not proved from fmt's source: count such statements apart). THE CARD IS WHAT COUNTS. Prove the row's statement (the work); the ties are given (YtfmmmhcpdinhgabDoorTie.lean); close each card by the builder's one call (the guide's Derived/Test/ToyasCard.lean, 'card_holds'). Laid BY PROGRAM, IN A SANDBOX (cutbox-door.mjs). By AI agents, Wed Nov 11 2026. No macro, syntax, notation, axiom, sorry.
-/
import Derived.Test.YtfmmmhcpdinhgabDoorRows
import GoSem.ClaimSeven
namespace Go.Proofs.YtfmmmhcpdinhgabDoor
namespace Rows

/-- THE TIED CARD OF 'stratalaw14.CircuitParses'. -/
def circuitParsesCard : Claim7 := { stood := { row := circuitParsesRow, standIns := [], harness := (true, "f3ec99e4a950f86cedbcb479879c55d3b69b90ddccadf4b4a30d16e84fe137ad"), looks := false }, kinds := [], alts := [], laidByText := true, laidKinds := [.data, .data, .data, .data, .pinned], laidTests := true, laidLooks := .later }
def CircuitParsesCardSaid : Prop := Claim7.holds Tryd.pinned (.plain (OpenSpec.ofChange circuitParsesSpec)) circuitParsesCard

/-- THE SECOND FORM's CARD OF 'stratalaw14.CircuitParses'. -/
def circuitParsesUptoCard : Claim7 := { stood := { row := circuitParsesUptoRow, standIns := [], harness := (true, "f3ec99e4a950f86cedbcb479879c55d3b69b90ddccadf4b4a30d16e84fe137ad"), looks := false }, kinds := [], alts := [], laidByText := true, laidKinds := [.data, .data, .data, .data, .pinned], laidTests := true, laidLooks := .later }
def CircuitParsesUptoCardSaid : Prop := Claim7.holds Tryd.pinned (.plain (OpenSpec.upto circuitParsesSpec)) circuitParsesUptoCard
end Rows
end Go.Proofs.YtfmmmhcpdinhgabDoor
