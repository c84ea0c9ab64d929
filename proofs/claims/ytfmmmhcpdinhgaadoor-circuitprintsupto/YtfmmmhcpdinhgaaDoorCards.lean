/-
  DERIVED. GIVEN WITH THE SEED: THE CARDS: each row of YtfmmmhcpdinhgaaDoorRows.lean that lists a variable, with what it lists TIED to the program's text (the seventh form; the later family's looks); each row that meets fmt, with fmt's text TOLD by the authors' own Lean function (tested against real Go, not proved from fmt's source: count such statements apart). THE CARD IS WHAT COUNTS. Prove the row's statement (the work); the ties are given (YtfmmmhcpdinhgaaDoorTie.lean); close each card by the builder's one call (the guide's Derived/Test/ToyasCard.lean, 'card_holds'). Laid BY PROGRAM, IN A SANDBOX (cutbox-door.mjs). By AI agents, Wed Nov 11 2026. No macro, syntax, notation, axiom, sorry.
-/
import Derived.Test.YtfmmmhcpdinhgaaDoorRows
import GoSem.ClaimSeven
namespace Go.Proofs.YtfmmmhcpdinhgaaDoor
namespace Rows

/-- THE TIED CARD OF 'stratalaw14.CircuitMeans'. -/
def circuitMeansCard : Claim7 := { stood := { row := circuitMeansRow, standIns := [], harness := (true, "1cf3677b637d64675871d44f2746ec5b617b8ef2136746d27d4904676876e054"), looks := false }, kinds := [], alts := [], laidByText := true, laidKinds := [.data], laidTests := true, laidLooks := .later }
def CircuitMeansCardSaid : Prop := Claim7.holds Tryd.pinned (.plain (OpenSpec.ofChange circuitMeansSpec)) circuitMeansCard

/-- THE TIED CARD OF 'stratalaw14.CircuitBlind'. -/
def circuitBlindCard : Claim7 := { stood := { row := circuitBlindRow, standIns := [], harness := (true, "1cf3677b637d64675871d44f2746ec5b617b8ef2136746d27d4904676876e054"), looks := false }, kinds := [], alts := [], laidByText := true, laidKinds := [.data], laidTests := true, laidLooks := .later }
def CircuitBlindCardSaid : Prop := Claim7.holds Tryd.pinned (.plain (OpenSpec.ofChange circuitBlindSpec)) circuitBlindCard

/-- THE TIED CARD OF 'stratalaw14.CircuitCones'. -/
def circuitConesCard : Claim7 := { stood := { row := circuitConesRow, standIns := [], harness := (true, "1cf3677b637d64675871d44f2746ec5b617b8ef2136746d27d4904676876e054"), looks := false }, kinds := [], alts := [], laidByText := true, laidKinds := [.data], laidTests := true, laidLooks := .later }
def CircuitConesCardSaid : Prop := Claim7.holds Tryd.pinned (.plain (OpenSpec.ofChange circuitConesSpec)) circuitConesCard

/-- THE TIED CARD OF 'stratalaw14.CircuitPrints'. -/
def circuitPrintsCard : Claim7 := { stood := { row := circuitPrintsRow, standIns := [], harness := (true, "1cf3677b637d64675871d44f2746ec5b617b8ef2136746d27d4904676876e054"), looks := false }, kinds := [], alts := [], laidByText := true, laidKinds := [.data, .data, .data, .data, .data, .data], laidTests := true, laidLooks := .later }
def CircuitPrintsCardSaid : Prop := Claim7.holds Tryd.pinned (.plain (OpenSpec.ofChange circuitPrintsSpec)) circuitPrintsCard

/-- THE TIED CARD OF 'stratalaw14.CircuitSteps'. -/
def circuitStepsCard : Claim7 := { stood := { row := circuitStepsRow, standIns := [], harness := (true, "1cf3677b637d64675871d44f2746ec5b617b8ef2136746d27d4904676876e054"), looks := false }, kinds := [], alts := [], laidByText := true, laidKinds := [.data], laidTests := true, laidLooks := .later }
def CircuitStepsCardSaid : Prop := Claim7.holds Tryd.pinned (.plain (OpenSpec.ofChange circuitStepsSpec)) circuitStepsCard

/-- THE TIED CARD OF 'stratalaw14.CircuitRuns'. -/
def circuitRunsCard : Claim7 := { stood := { row := circuitRunsRow, standIns := [], harness := (true, "1cf3677b637d64675871d44f2746ec5b617b8ef2136746d27d4904676876e054"), looks := false }, kinds := [], alts := [], laidByText := true, laidKinds := [.data], laidTests := true, laidLooks := .later }
def CircuitRunsCardSaid : Prop := Claim7.holds Tryd.pinned (.plain (OpenSpec.ofChange circuitRunsSpec)) circuitRunsCard

/-- THE SECOND FORM's CARD OF 'stratalaw14.CircuitMeans'. -/
def circuitMeansUptoCard : Claim7 := { stood := { row := circuitMeansUptoRow, standIns := [], harness := (true, "1cf3677b637d64675871d44f2746ec5b617b8ef2136746d27d4904676876e054"), looks := false }, kinds := [], alts := [], laidByText := true, laidKinds := [.data], laidTests := true, laidLooks := .later }
def CircuitMeansUptoCardSaid : Prop := Claim7.holds Tryd.pinned (.plain (OpenSpec.upto circuitMeansSpec)) circuitMeansUptoCard

/-- THE SECOND FORM's CARD OF 'stratalaw14.CircuitBlind'. -/
def circuitBlindUptoCard : Claim7 := { stood := { row := circuitBlindUptoRow, standIns := [], harness := (true, "1cf3677b637d64675871d44f2746ec5b617b8ef2136746d27d4904676876e054"), looks := false }, kinds := [], alts := [], laidByText := true, laidKinds := [.data], laidTests := true, laidLooks := .later }
def CircuitBlindUptoCardSaid : Prop := Claim7.holds Tryd.pinned (.plain (OpenSpec.upto circuitBlindSpec)) circuitBlindUptoCard

/-- THE SECOND FORM's CARD OF 'stratalaw14.CircuitCones'. -/
def circuitConesUptoCard : Claim7 := { stood := { row := circuitConesUptoRow, standIns := [], harness := (true, "1cf3677b637d64675871d44f2746ec5b617b8ef2136746d27d4904676876e054"), looks := false }, kinds := [], alts := [], laidByText := true, laidKinds := [.data], laidTests := true, laidLooks := .later }
def CircuitConesUptoCardSaid : Prop := Claim7.holds Tryd.pinned (.plain (OpenSpec.upto circuitConesSpec)) circuitConesUptoCard

/-- THE SECOND FORM's CARD OF 'stratalaw14.CircuitPrints'. -/
def circuitPrintsUptoCard : Claim7 := { stood := { row := circuitPrintsUptoRow, standIns := [], harness := (true, "1cf3677b637d64675871d44f2746ec5b617b8ef2136746d27d4904676876e054"), looks := false }, kinds := [], alts := [], laidByText := true, laidKinds := [.data, .data, .data, .data, .data, .data], laidTests := true, laidLooks := .later }
def CircuitPrintsUptoCardSaid : Prop := Claim7.holds Tryd.pinned (.plain (OpenSpec.upto circuitPrintsSpec)) circuitPrintsUptoCard

/-- THE SECOND FORM's CARD OF 'stratalaw14.CircuitSteps'. -/
def circuitStepsUptoCard : Claim7 := { stood := { row := circuitStepsUptoRow, standIns := [], harness := (true, "1cf3677b637d64675871d44f2746ec5b617b8ef2136746d27d4904676876e054"), looks := false }, kinds := [], alts := [], laidByText := true, laidKinds := [.data], laidTests := true, laidLooks := .later }
def CircuitStepsUptoCardSaid : Prop := Claim7.holds Tryd.pinned (.plain (OpenSpec.upto circuitStepsSpec)) circuitStepsUptoCard

/-- THE SECOND FORM's CARD OF 'stratalaw14.CircuitRuns'. -/
def circuitRunsUptoCard : Claim7 := { stood := { row := circuitRunsUptoRow, standIns := [], harness := (true, "1cf3677b637d64675871d44f2746ec5b617b8ef2136746d27d4904676876e054"), looks := false }, kinds := [], alts := [], laidByText := true, laidKinds := [.data], laidTests := true, laidLooks := .later }
def CircuitRunsUptoCardSaid : Prop := Claim7.holds Tryd.pinned (.plain (OpenSpec.upto circuitRunsSpec)) circuitRunsUptoCard
end Rows
end Go.Proofs.YtfmmmhcpdinhgaaDoor
