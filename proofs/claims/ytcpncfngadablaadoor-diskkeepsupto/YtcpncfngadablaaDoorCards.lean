/-
  DERIVED. GIVEN WITH THE SEED: THE CARDS: each row of YtcpncfngadablaaDoorRows.lean that lists a variable, with what it lists TIED to the program's text (the seventh form; the later family's looks); each row that meets fmt, with fmt's text TOLD by the authors' own Lean function (tested against real Go, not proved from fmt's source: count such statements apart). THE CARD IS WHAT COUNTS. Prove the row's statement (the work); the ties are given (YtcpncfngadablaaDoorTie.lean); close each card by the builder's one call (the guide's Derived/Test/ToyasCard.lean, 'card_holds'). Laid BY PROGRAM, IN A SANDBOX (cutbox-door.mjs). By AI agents, Wed Nov 11 2026. No macro, syntax, notation, axiom, sorry.
-/
import Derived.Test.YtcpncfngadablaaDoorRows
import GoSem.ClaimSeven
namespace Go.Proofs.YtcpncfngadablaaDoor
namespace Rows

/-- THE TIED CARD OF 'stratalaw01.DiskGoesOn'. -/
def diskGoesOnCard : Claim7 := { stood := { row := diskGoesOnRow, standIns := [], harness := (true, "b0baf0a0a3456b761b96e3580f494865fbc824105d69439720b730c87420d6ca"), looks := true }, kinds := [], alts := [], laidByText := true, laidKinds := [.sentinel, .sentinel, .sentinel, .sentinel, .sentinel, .sentinel, .sentinel, .sentinel, .sentinel, .sentinel, .sentinel], laidTests := true, laidLooks := .later }
def DiskGoesOnCardSaid : Prop := Claim7.holds Tryd.pinned (.plain (OpenSpec.ofChange diskGoesOnSpec)) diskGoesOnCard

/-- THE TIED CARD OF 'stratalaw01.DiskKeeps'. -/
def diskKeepsCard : Claim7 := { stood := { row := diskKeepsRow, standIns := [], harness := (true, "b0baf0a0a3456b761b96e3580f494865fbc824105d69439720b730c87420d6ca"), looks := true }, kinds := [], alts := [], laidByText := true, laidKinds := [.sentinel, .sentinel, .sentinel, .sentinel, .sentinel, .sentinel, .sentinel, .sentinel, .sentinel, .sentinel, .sentinel], laidTests := true, laidLooks := .later }
def DiskKeepsCardSaid : Prop := Claim7.holds Tryd.pinned (.plain (OpenSpec.ofChange diskKeepsSpec)) diskKeepsCard

/-- THE SECOND FORM's CARD OF 'stratalaw01.DiskGoesOn'. -/
def diskGoesOnUptoCard : Claim7 := { stood := { row := diskGoesOnUptoRow, standIns := [], harness := (true, "b0baf0a0a3456b761b96e3580f494865fbc824105d69439720b730c87420d6ca"), looks := true }, kinds := [], alts := [], laidByText := true, laidKinds := [.sentinel, .sentinel, .sentinel, .sentinel, .sentinel, .sentinel, .sentinel, .sentinel, .sentinel, .sentinel, .sentinel], laidTests := true, laidLooks := .later }
def DiskGoesOnUptoCardSaid : Prop := Claim7.holds Tryd.pinned (.plain (OpenSpec.upto diskGoesOnSpec)) diskGoesOnUptoCard

/-- THE SECOND FORM's CARD OF 'stratalaw01.DiskKeeps'. -/
def diskKeepsUptoCard : Claim7 := { stood := { row := diskKeepsUptoRow, standIns := [], harness := (true, "b0baf0a0a3456b761b96e3580f494865fbc824105d69439720b730c87420d6ca"), looks := true }, kinds := [], alts := [], laidByText := true, laidKinds := [.sentinel, .sentinel, .sentinel, .sentinel, .sentinel, .sentinel, .sentinel, .sentinel, .sentinel, .sentinel, .sentinel], laidTests := true, laidLooks := .later }
def DiskKeepsUptoCardSaid : Prop := Claim7.holds Tryd.pinned (.plain (OpenSpec.upto diskKeepsSpec)) diskKeepsUptoCard
end Rows
end Go.Proofs.YtcpncfngadablaaDoor
