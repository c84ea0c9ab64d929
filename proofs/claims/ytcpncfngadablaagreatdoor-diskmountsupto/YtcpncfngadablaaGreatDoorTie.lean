/-
  DERIVED. GIVEN WITH THE SEED: THE PROGRAM's TIES (one call each: nine closed facts by the kernel) AND EACH ROW's TIE, after the 31st guide's Derived/Test/Toyas{Tie, Card}.lean. No idea stands in it: it is a product of the set-up. Laid BY PROGRAM, IN A SANDBOX (cutbox-door.mjs). By AI agents, Wed Nov 11 2026. No macro, syntax, notation, axiom, sorry.
-/
import Derived.Test.YtcpncfngadablaaGreatDoorRows
import Derived.LaidByTextLater
import Derived.SevenTiedAt
import Derived.LaidSub
import Derived.LaidOnce
namespace Go.Proofs.YtcpncfngadablaaGreatDoor
open Go
set_option maxRecDepth 100000
theorem seatTie1 : Tryz.prog.laidByTextLater [("strata/disk.errArg", Rows.laid_strata_disk_errArg), ("strata/disk.errFault", Rows.laid_strata_disk_errFault), ("strata/disk.errOff", Rows.laid_strata_disk_errOff), ("strata/disk.errName", Rows.laid_strata_disk_errName), ("strata/disk.errNoFile", Rows.laid_strata_disk_errNoFile), ("strata/disk.errExists", Rows.laid_strata_disk_errExists), ("strata/disk.errSealed", Rows.laid_strata_disk_errSealed), ("strata/disk.errOpen", Rows.laid_strata_disk_errOpen), ("strata/disk.errBlock", Rows.laid_strata_disk_errBlock), ("strata/disk.errFull", Rows.laid_strata_disk_errFull), ("strata/disk.errState", Rows.laid_strata_disk_errState)] [.sentinel, .sentinel, .sentinel, .sentinel, .sentinel, .sentinel, .sentinel, .sentinel, .sentinel, .sentinel, .sentinel] true :=
  Program.laidByTextLater_by_one 218 8 2 (by kernel_rfl) (by kernel_rfl) (by kernel_rfl) (by kernel_rfl) (by kernel_rfl) (by kernel_rfl) (fun _ _ => by kernel_rfl)
theorem noOwnUnsafe : Tryz.pinned.checked.prog.headLifts.contains "ownunsafe" = false := by kernel_rfl
theorem tie : Tryz.prog.laidByTextLater [("strata/disk.errArg", Rows.laid_strata_disk_errArg), ("strata/disk.errFault", Rows.laid_strata_disk_errFault), ("strata/disk.errOff", Rows.laid_strata_disk_errOff), ("strata/disk.errName", Rows.laid_strata_disk_errName), ("strata/disk.errNoFile", Rows.laid_strata_disk_errNoFile), ("strata/disk.errExists", Rows.laid_strata_disk_errExists), ("strata/disk.errSealed", Rows.laid_strata_disk_errSealed), ("strata/disk.errOpen", Rows.laid_strata_disk_errOpen), ("strata/disk.errBlock", Rows.laid_strata_disk_errBlock), ("strata/disk.errFull", Rows.laid_strata_disk_errFull), ("strata/disk.errState", Rows.laid_strata_disk_errState)] [.sentinel, .sentinel, .sentinel, .sentinel, .sentinel, .sentinel, .sentinel, .sentinel, .sentinel, .sentinel, .sentinel] true :=
  Program.laidByTextLater.sub seatTie1 ["strata/disk.errArg", "strata/disk.errFault", "strata/disk.errOff", "strata/disk.errName", "strata/disk.errNoFile", "strata/disk.errExists", "strata/disk.errSealed", "strata/disk.errOpen", "strata/disk.errBlock", "strata/disk.errFull", "strata/disk.errState"] (by kernel_rfl) (by kernel_rfl)
theorem diskFresh_row_tie : Rows.diskFreshRow.laidByTextAt .later Tryz.pinned [.sentinel, .sentinel, .sentinel, .sentinel, .sentinel, .sentinel, .sentinel, .sentinel, .sentinel, .sentinel, .sentinel] true :=
  OpenClaim.laidByTextAt_later rfl rfl tie noOwnUnsafe
theorem diskPlays_row_tie : Rows.diskPlaysRow.laidByTextAt .later Tryz.pinned [.sentinel, .sentinel, .sentinel, .sentinel, .sentinel, .sentinel, .sentinel, .sentinel, .sentinel, .sentinel, .sentinel] true :=
  OpenClaim.laidByTextAt_later rfl rfl tie noOwnUnsafe
theorem diskMounts_row_tie : Rows.diskMountsRow.laidByTextAt .later Tryz.pinned [.sentinel, .sentinel, .sentinel, .sentinel, .sentinel, .sentinel, .sentinel, .sentinel, .sentinel, .sentinel, .sentinel] true :=
  OpenClaim.laidByTextAt_later rfl rfl tie noOwnUnsafe
theorem diskFreshUpto_row_tie : Rows.diskFreshUptoRow.laidByTextAt .later Tryz.pinned [.sentinel, .sentinel, .sentinel, .sentinel, .sentinel, .sentinel, .sentinel, .sentinel, .sentinel, .sentinel, .sentinel] true :=
  OpenClaim.laidByTextAt_later rfl rfl tie noOwnUnsafe
theorem diskPlaysUpto_row_tie : Rows.diskPlaysUptoRow.laidByTextAt .later Tryz.pinned [.sentinel, .sentinel, .sentinel, .sentinel, .sentinel, .sentinel, .sentinel, .sentinel, .sentinel, .sentinel, .sentinel] true :=
  OpenClaim.laidByTextAt_later rfl rfl tie noOwnUnsafe
theorem diskMountsUpto_row_tie : Rows.diskMountsUptoRow.laidByTextAt .later Tryz.pinned [.sentinel, .sentinel, .sentinel, .sentinel, .sentinel, .sentinel, .sentinel, .sentinel, .sentinel, .sentinel, .sentinel] true :=
  OpenClaim.laidByTextAt_later rfl rfl tie noOwnUnsafe
end Go.Proofs.YtcpncfngadablaaGreatDoor
