/-
  DERIVED. GIVEN WITH THE SEED: THE CARDS: each row of YtcpncfngadablaaGreatDoorRows.lean that lists a variable, with what it lists TIED to the program's text (the seventh form; the later family's looks); each row that meets fmt, with fmt's text TOLD by the authors' own Lean function (tested against real Go, not proved from fmt's source: count such statements apart). THE CARD IS WHAT COUNTS. Prove the row's statement (the work); the ties are given (YtcpncfngadablaaGreatDoorTie.lean); close each card by the builder's one call (the guide's Derived/Test/ToyasCard.lean, 'card_holds'). Laid BY PROGRAM, IN A SANDBOX (cutbox-door.mjs). By AI agents, Wed Nov 11 2026. No macro, syntax, notation, axiom, sorry.
-/
import Derived.Test.YtcpncfngadablaaGreatDoorRows
import GoSem.ClaimSeven
namespace Go.Proofs.YtcpncfngadablaaGreatDoor
namespace Rows

/-- THE TIED CARD OF 'stratalaw01.DiskFresh'. -/
def diskFreshCard : Claim7 := { stood := { row := diskFreshRow, standIns := [], harness := (true, "af1ab8efd1cf6f52bc4bf15105a07105ce8d17d6e11ce7db5a766aef1adae08d"), looks := true }, kinds := [], alts := [], laidByText := true, laidKinds := [.sentinel, .sentinel, .sentinel, .sentinel, .sentinel, .sentinel, .sentinel, .sentinel, .sentinel, .sentinel, .sentinel], laidTests := true, laidLooks := .later }
def DiskFreshCardSaid : Prop := Claim7.holds Tryz.pinned (.plain (OpenSpec.ofChange diskFreshSpec)) diskFreshCard

/-- THE TIED CARD OF 'stratalaw01.DiskPlays'. -/
def diskPlaysCard : Claim7 := { stood := { row := diskPlaysRow, standIns := [], harness := (true, "af1ab8efd1cf6f52bc4bf15105a07105ce8d17d6e11ce7db5a766aef1adae08d"), looks := true }, kinds := [], alts := [], laidByText := true, laidKinds := [.sentinel, .sentinel, .sentinel, .sentinel, .sentinel, .sentinel, .sentinel, .sentinel, .sentinel, .sentinel, .sentinel], laidTests := true, laidLooks := .later }
def DiskPlaysCardSaid : Prop := Claim7.holds Tryz.pinned (.plain (OpenSpec.ofChange diskPlaysSpec)) diskPlaysCard

/-- THE TIED CARD OF 'stratalaw01.DiskMounts'. -/
def diskMountsCard : Claim7 := { stood := { row := diskMountsRow, standIns := [], harness := (true, "af1ab8efd1cf6f52bc4bf15105a07105ce8d17d6e11ce7db5a766aef1adae08d"), looks := true }, kinds := [], alts := [], laidByText := true, laidKinds := [.sentinel, .sentinel, .sentinel, .sentinel, .sentinel, .sentinel, .sentinel, .sentinel, .sentinel, .sentinel, .sentinel], laidTests := true, laidLooks := .later }
def DiskMountsCardSaid : Prop := Claim7.holds Tryz.pinned (.plain (OpenSpec.ofChange diskMountsSpec)) diskMountsCard

/-- THE SECOND FORM's CARD OF 'stratalaw01.DiskFresh'. -/
def diskFreshUptoCard : Claim7 := { stood := { row := diskFreshUptoRow, standIns := [], harness := (true, "af1ab8efd1cf6f52bc4bf15105a07105ce8d17d6e11ce7db5a766aef1adae08d"), looks := true }, kinds := [], alts := [], laidByText := true, laidKinds := [.sentinel, .sentinel, .sentinel, .sentinel, .sentinel, .sentinel, .sentinel, .sentinel, .sentinel, .sentinel, .sentinel], laidTests := true, laidLooks := .later }
def DiskFreshUptoCardSaid : Prop := Claim7.holds Tryz.pinned (.plain (OpenSpec.upto diskFreshSpec)) diskFreshUptoCard

/-- THE SECOND FORM's CARD OF 'stratalaw01.DiskPlays'. -/
def diskPlaysUptoCard : Claim7 := { stood := { row := diskPlaysUptoRow, standIns := [], harness := (true, "af1ab8efd1cf6f52bc4bf15105a07105ce8d17d6e11ce7db5a766aef1adae08d"), looks := true }, kinds := [], alts := [], laidByText := true, laidKinds := [.sentinel, .sentinel, .sentinel, .sentinel, .sentinel, .sentinel, .sentinel, .sentinel, .sentinel, .sentinel, .sentinel], laidTests := true, laidLooks := .later }
def DiskPlaysUptoCardSaid : Prop := Claim7.holds Tryz.pinned (.plain (OpenSpec.upto diskPlaysSpec)) diskPlaysUptoCard

/-- THE SECOND FORM's CARD OF 'stratalaw01.DiskMounts'. -/
def diskMountsUptoCard : Claim7 := { stood := { row := diskMountsUptoRow, standIns := [], harness := (true, "af1ab8efd1cf6f52bc4bf15105a07105ce8d17d6e11ce7db5a766aef1adae08d"), looks := true }, kinds := [], alts := [], laidByText := true, laidKinds := [.sentinel, .sentinel, .sentinel, .sentinel, .sentinel, .sentinel, .sentinel, .sentinel, .sentinel, .sentinel, .sentinel], laidTests := true, laidLooks := .later }
def DiskMountsUptoCardSaid : Prop := Claim7.holds Tryz.pinned (.plain (OpenSpec.upto diskMountsSpec)) diskMountsUptoCard
end Rows
end Go.Proofs.YtcpncfngadablaaGreatDoor
