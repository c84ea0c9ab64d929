/-
  DERIVED. GIVEN WITH THE SEED: THE CARDS: each row of YthehcjjckabljaaGreatDoorRows.lean that lists a variable, with what it lists TIED to the program's text (the seventh form; the later family's looks); each row that meets fmt, with fmt's text TOLD by the authors' own Lean function (tested against real Go, not proved from fmt's source: count such statements apart). THE CARD IS WHAT COUNTS. Prove the row's statement (the work); the ties are given (YthehcjjckabljaaGreatDoorTie.lean); close each card by the builder's one call (the guide's Derived/Test/ToyasCard.lean, 'card_holds'). Laid BY PROGRAM, IN A SANDBOX (cutbox-door.mjs). By AI agents, Wed Nov 11 2026. No macro, syntax, notation, axiom, sorry.
-/
import Derived.Test.YthehcjjckabljaaGreatDoorRows
import GoSem.ClaimSeven
namespace Go.Proofs.YthehcjjckabljaaGreatDoor
namespace Rows

/-- THE TIED CARD OF 'stratalaw17.CatalogForms'. -/
def catalogFormsCard : Claim7 := { stood := { row := catalogFormsRow, standIns := [], harness := (true, "b1492c234ec0fb2ee498b3c349ae793e396d3735b3e818cbdbf87fafeffcb814"), looks := true }, kinds := [], alts := [], laidByText := true, laidKinds := [.data, .data, .data, .sentinel, .sentinel, .sentinel, .sentinel, .sentinel, .sentinel, .sentinel, .sentinel, .sentinel, .sentinel, .sentinel, .sentinel, .sentinel], laidTests := true, laidLooks := .later }
def CatalogFormsCardSaid : Prop := Claim7.holds Tryz.pinned (.plain (OpenSpec.ofChange catalogFormsSpec)) catalogFormsCard

/-- THE TIED CARD OF 'stratalaw17.CatalogTurns'. -/
def catalogTurnsCard : Claim7 := { stood := { row := catalogTurnsRow, standIns := [], harness := (true, "b1492c234ec0fb2ee498b3c349ae793e396d3735b3e818cbdbf87fafeffcb814"), looks := true }, kinds := [], alts := [], laidByText := true, laidKinds := [.data, .data, .data, .sentinel, .sentinel, .sentinel, .sentinel, .sentinel, .sentinel, .sentinel, .sentinel, .sentinel, .sentinel, .sentinel, .sentinel, .sentinel], laidTests := true, laidLooks := .later }
def CatalogTurnsCardSaid : Prop := Claim7.holds Tryz.pinned (.plain (OpenSpec.ofChange catalogTurnsSpec)) catalogTurnsCard

/-- THE TIED CARD OF 'stratalaw17.CatalogFresh'. -/
def catalogFreshCard : Claim7 := { stood := { row := catalogFreshRow, standIns := [], harness := (true, "b1492c234ec0fb2ee498b3c349ae793e396d3735b3e818cbdbf87fafeffcb814"), looks := true }, kinds := [], alts := [], laidByText := true, laidKinds := [.data, .data, .data, .sentinel, .sentinel, .sentinel, .sentinel, .sentinel, .sentinel, .sentinel, .sentinel, .sentinel, .sentinel, .sentinel, .sentinel, .sentinel], laidTests := true, laidLooks := .later }
def CatalogFreshCardSaid : Prop := Claim7.holds Tryz.pinned (.plain (OpenSpec.ofChange catalogFreshSpec)) catalogFreshCard

/-- THE TIED CARD OF 'stratalaw17.CatalogBudget'. -/
def catalogBudgetCard : Claim7 := { stood := { row := catalogBudgetRow, standIns := [], harness := (true, "b1492c234ec0fb2ee498b3c349ae793e396d3735b3e818cbdbf87fafeffcb814"), looks := true }, kinds := [], alts := [], laidByText := true, laidKinds := [.data, .data, .data, .sentinel, .sentinel, .sentinel, .sentinel, .sentinel, .sentinel, .sentinel, .sentinel, .sentinel, .sentinel, .sentinel, .sentinel, .sentinel], laidTests := true, laidLooks := .later }
def CatalogBudgetCardSaid : Prop := Claim7.holds Tryz.pinned (.plain (OpenSpec.ofChange catalogBudgetSpec)) catalogBudgetCard

/-- THE TIED CARD OF 'stratalaw17.CatalogCommits'. -/
def catalogCommitsCard : Claim7 := { stood := { row := catalogCommitsRow, standIns := [], harness := (true, "b1492c234ec0fb2ee498b3c349ae793e396d3735b3e818cbdbf87fafeffcb814"), looks := true }, kinds := [], alts := [], laidByText := true, laidKinds := [.data, .data, .data, .sentinel, .sentinel, .sentinel, .sentinel, .sentinel, .sentinel, .sentinel, .sentinel, .sentinel, .sentinel, .sentinel, .sentinel, .sentinel], laidTests := true, laidLooks := .later }
def CatalogCommitsCardSaid : Prop := Claim7.holds Tryz.pinned (.plain (OpenSpec.ofChange catalogCommitsSpec)) catalogCommitsCard

/-- THE TIED CARD OF 'stratalaw17.CatalogReads'. -/
def catalogReadsCard : Claim7 := { stood := { row := catalogReadsRow, standIns := [], harness := (true, "b1492c234ec0fb2ee498b3c349ae793e396d3735b3e818cbdbf87fafeffcb814"), looks := true }, kinds := [], alts := [], laidByText := true, laidKinds := [.data, .data, .data, .sentinel, .sentinel, .sentinel, .sentinel, .sentinel, .sentinel, .sentinel, .sentinel, .sentinel, .sentinel, .sentinel, .sentinel, .sentinel], laidTests := true, laidLooks := .later }
def CatalogReadsCardSaid : Prop := Claim7.holds Tryz.pinned (.plain (OpenSpec.ofChange catalogReadsSpec)) catalogReadsCard

/-- THE SECOND FORM's CARD OF 'stratalaw17.CatalogForms'. -/
def catalogFormsUptoCard : Claim7 := { stood := { row := catalogFormsUptoRow, standIns := [], harness := (true, "b1492c234ec0fb2ee498b3c349ae793e396d3735b3e818cbdbf87fafeffcb814"), looks := true }, kinds := [], alts := [], laidByText := true, laidKinds := [.data, .data, .data, .sentinel, .sentinel, .sentinel, .sentinel, .sentinel, .sentinel, .sentinel, .sentinel, .sentinel, .sentinel, .sentinel, .sentinel, .sentinel], laidTests := true, laidLooks := .later }
def CatalogFormsUptoCardSaid : Prop := Claim7.holds Tryz.pinned (.plain (OpenSpec.upto catalogFormsSpec)) catalogFormsUptoCard

/-- THE SECOND FORM's CARD OF 'stratalaw17.CatalogTurns'. -/
def catalogTurnsUptoCard : Claim7 := { stood := { row := catalogTurnsUptoRow, standIns := [], harness := (true, "b1492c234ec0fb2ee498b3c349ae793e396d3735b3e818cbdbf87fafeffcb814"), looks := true }, kinds := [], alts := [], laidByText := true, laidKinds := [.data, .data, .data, .sentinel, .sentinel, .sentinel, .sentinel, .sentinel, .sentinel, .sentinel, .sentinel, .sentinel, .sentinel, .sentinel, .sentinel, .sentinel], laidTests := true, laidLooks := .later }
def CatalogTurnsUptoCardSaid : Prop := Claim7.holds Tryz.pinned (.plain (OpenSpec.upto catalogTurnsSpec)) catalogTurnsUptoCard

/-- THE SECOND FORM's CARD OF 'stratalaw17.CatalogFresh'. -/
def catalogFreshUptoCard : Claim7 := { stood := { row := catalogFreshUptoRow, standIns := [], harness := (true, "b1492c234ec0fb2ee498b3c349ae793e396d3735b3e818cbdbf87fafeffcb814"), looks := true }, kinds := [], alts := [], laidByText := true, laidKinds := [.data, .data, .data, .sentinel, .sentinel, .sentinel, .sentinel, .sentinel, .sentinel, .sentinel, .sentinel, .sentinel, .sentinel, .sentinel, .sentinel, .sentinel], laidTests := true, laidLooks := .later }
def CatalogFreshUptoCardSaid : Prop := Claim7.holds Tryz.pinned (.plain (OpenSpec.upto catalogFreshSpec)) catalogFreshUptoCard

/-- THE SECOND FORM's CARD OF 'stratalaw17.CatalogBudget'. -/
def catalogBudgetUptoCard : Claim7 := { stood := { row := catalogBudgetUptoRow, standIns := [], harness := (true, "b1492c234ec0fb2ee498b3c349ae793e396d3735b3e818cbdbf87fafeffcb814"), looks := true }, kinds := [], alts := [], laidByText := true, laidKinds := [.data, .data, .data, .sentinel, .sentinel, .sentinel, .sentinel, .sentinel, .sentinel, .sentinel, .sentinel, .sentinel, .sentinel, .sentinel, .sentinel, .sentinel], laidTests := true, laidLooks := .later }
def CatalogBudgetUptoCardSaid : Prop := Claim7.holds Tryz.pinned (.plain (OpenSpec.upto catalogBudgetSpec)) catalogBudgetUptoCard

/-- THE SECOND FORM's CARD OF 'stratalaw17.CatalogCommits'. -/
def catalogCommitsUptoCard : Claim7 := { stood := { row := catalogCommitsUptoRow, standIns := [], harness := (true, "b1492c234ec0fb2ee498b3c349ae793e396d3735b3e818cbdbf87fafeffcb814"), looks := true }, kinds := [], alts := [], laidByText := true, laidKinds := [.data, .data, .data, .sentinel, .sentinel, .sentinel, .sentinel, .sentinel, .sentinel, .sentinel, .sentinel, .sentinel, .sentinel, .sentinel, .sentinel, .sentinel], laidTests := true, laidLooks := .later }
def CatalogCommitsUptoCardSaid : Prop := Claim7.holds Tryz.pinned (.plain (OpenSpec.upto catalogCommitsSpec)) catalogCommitsUptoCard

/-- THE SECOND FORM's CARD OF 'stratalaw17.CatalogReads'. -/
def catalogReadsUptoCard : Claim7 := { stood := { row := catalogReadsUptoRow, standIns := [], harness := (true, "b1492c234ec0fb2ee498b3c349ae793e396d3735b3e818cbdbf87fafeffcb814"), looks := true }, kinds := [], alts := [], laidByText := true, laidKinds := [.data, .data, .data, .sentinel, .sentinel, .sentinel, .sentinel, .sentinel, .sentinel, .sentinel, .sentinel, .sentinel, .sentinel, .sentinel, .sentinel, .sentinel], laidTests := true, laidLooks := .later }
def CatalogReadsUptoCardSaid : Prop := Claim7.holds Tryz.pinned (.plain (OpenSpec.upto catalogReadsSpec)) catalogReadsUptoCard
end Rows
end Go.Proofs.YthehcjjckabljaaGreatDoor
