/-
  DERIVED. GIVEN WITH THE SEED: THE CARDS: each row of YtfmmmhcpdinhgabGreatDoorRows.lean that lists a variable, with what it lists TIED to the program's text (the seventh form; the later family's looks); each row that meets fmt, with fmt's text TOLD by the authors' own Lean function (tested against real Go, not proved from fmt's source: count such statements apart). THE CARD IS WHAT COUNTS. Prove the row's statement (the work); the ties are given (YtfmmmhcpdinhgabGreatDoorTie.lean); close each card by the builder's one call (the guide's Derived/Test/ToyasCard.lean, 'card_holds'). Laid BY PROGRAM, IN A SANDBOX (cutbox-door.mjs). By AI agents, Wed Nov 11 2026. No macro, syntax, notation, axiom, sorry.
-/
import Derived.Test.YtfmmmhcpdinhgabGreatDoorRows
import GoSem.ClaimSeven
namespace Go.Proofs.YtfmmmhcpdinhgabGreatDoor
namespace Rows

/-- THE TIED CARD OF 'stratalaw14.CircuitBack'. -/
def circuitBackCard : Claim7 := { stood := { row := circuitBackRow, standIns := [], harness := (true, "21e4029e6d34ae611fa7a9db0fccbc50056318d04724560c6d83683dd133bb36"), looks := false }, kinds := [], alts := [], laidByText := true, laidKinds := [.data, .data, .data, .data, .data, .data, .pinned], laidTests := true, laidLooks := .later }
def CircuitBackCardSaid : Prop := Claim7.holds Tryz.pinned (.plain (OpenSpec.ofChange circuitBackSpec)) circuitBackCard

/-- THE TIED CARD OF 'stratalaw14.CircuitCircles'. -/
def circuitCirclesCard : Claim7 := { stood := { row := circuitCirclesRow, standIns := [], harness := (true, "21e4029e6d34ae611fa7a9db0fccbc50056318d04724560c6d83683dd133bb36"), looks := false }, kinds := [], alts := [], laidByText := true, laidKinds := [.data, .data, .data, .data, .data, .data, .data, .pinned], laidTests := true, laidLooks := .later }
def CircuitCirclesCardSaid : Prop := Claim7.holds Tryz.pinned (.plain (OpenSpec.ofChange circuitCirclesSpec)) circuitCirclesCard

/-- THE SECOND FORM's CARD OF 'stratalaw14.CircuitBack'. -/
def circuitBackUptoCard : Claim7 := { stood := { row := circuitBackUptoRow, standIns := [], harness := (true, "21e4029e6d34ae611fa7a9db0fccbc50056318d04724560c6d83683dd133bb36"), looks := false }, kinds := [], alts := [], laidByText := true, laidKinds := [.data, .data, .data, .data, .data, .data, .pinned], laidTests := true, laidLooks := .later }
def CircuitBackUptoCardSaid : Prop := Claim7.holds Tryz.pinned (.plain (OpenSpec.upto circuitBackSpec)) circuitBackUptoCard

/-- THE SECOND FORM's CARD OF 'stratalaw14.CircuitCircles'. -/
def circuitCirclesUptoCard : Claim7 := { stood := { row := circuitCirclesUptoRow, standIns := [], harness := (true, "21e4029e6d34ae611fa7a9db0fccbc50056318d04724560c6d83683dd133bb36"), looks := false }, kinds := [], alts := [], laidByText := true, laidKinds := [.data, .data, .data, .data, .data, .data, .data, .pinned], laidTests := true, laidLooks := .later }
def CircuitCirclesUptoCardSaid : Prop := Claim7.holds Tryz.pinned (.plain (OpenSpec.upto circuitCirclesSpec)) circuitCirclesUptoCard
end Rows
end Go.Proofs.YtfmmmhcpdinhgabGreatDoor
