/-
  DERIVED. GIVEN WITH THE SEED: THE PROGRAM's TIES (one call each: nine closed facts by the kernel) AND EACH ROW's TIE, after the 31st guide's Derived/Test/Toyas{Tie, Card}.lean. No idea stands in it: it is a product of the set-up. Laid BY PROGRAM, IN A SANDBOX (cutbox-door.mjs). By AI agents, Wed Nov 11 2026. No macro, syntax, notation, axiom, sorry.
-/
import Derived.Test.YtclplbnildnifaaGreatDoorRows
import Derived.LaidByTextLater
import Derived.SevenTiedAt
import Derived.LaidSub
import Derived.LaidOnce
namespace Go.Proofs.YtclplbnildnifaaGreatDoor
open Go
set_option maxRecDepth 100000
theorem seatTie1 : Tryz.prog.laidByTextLater [("math/bits.deBruijn32tab", Rows.laid_math_bits_deBruijn32tab), ("math/bits.deBruijn64tab", Rows.laid_math_bits_deBruijn64tab), ("internal/strconv.uint64pow10", Rows.laid_internal_strconv_uint64pow10), ("strata/disk.errArg", Rows.laid_strata_disk_errArg), ("strata/disk.errFault", Rows.laid_strata_disk_errFault), ("strata/disk.errOff", Rows.laid_strata_disk_errOff), ("strata/disk.errName", Rows.laid_strata_disk_errName), ("strata/disk.errNoFile", Rows.laid_strata_disk_errNoFile), ("strata/disk.errExists", Rows.laid_strata_disk_errExists), ("strata/disk.errSealed", Rows.laid_strata_disk_errSealed), ("strata/disk.errOpen", Rows.laid_strata_disk_errOpen), ("strata/disk.errBlock", Rows.laid_strata_disk_errBlock), ("strata/disk.errFull", Rows.laid_strata_disk_errFull), ("strata/disk.errState", Rows.laid_strata_disk_errState)] [.data, .data, .data, .sentinel, .sentinel, .sentinel, .sentinel, .sentinel, .sentinel, .sentinel, .sentinel, .sentinel, .sentinel, .sentinel] true :=
  Program.laidByTextLater_by_one 233 8 65 (by kernel_rfl) (by kernel_rfl) (by kernel_rfl) (by kernel_rfl) (by kernel_rfl) (by kernel_rfl) (fun _ _ => by kernel_rfl)
theorem noOwnUnsafe : Tryz.pinned.checked.prog.headLifts.contains "ownunsafe" = false := by kernel_rfl
theorem tie : Tryz.prog.laidByTextLater [("strata/disk.errArg", Rows.laid_strata_disk_errArg), ("strata/disk.errFault", Rows.laid_strata_disk_errFault), ("strata/disk.errOff", Rows.laid_strata_disk_errOff), ("strata/disk.errName", Rows.laid_strata_disk_errName), ("strata/disk.errNoFile", Rows.laid_strata_disk_errNoFile), ("strata/disk.errExists", Rows.laid_strata_disk_errExists), ("strata/disk.errSealed", Rows.laid_strata_disk_errSealed), ("strata/disk.errOpen", Rows.laid_strata_disk_errOpen), ("strata/disk.errBlock", Rows.laid_strata_disk_errBlock), ("strata/disk.errFull", Rows.laid_strata_disk_errFull), ("strata/disk.errState", Rows.laid_strata_disk_errState)] [.sentinel, .sentinel, .sentinel, .sentinel, .sentinel, .sentinel, .sentinel, .sentinel, .sentinel, .sentinel, .sentinel] true :=
  Program.laidByTextLater.sub seatTie1 ["strata/disk.errArg", "strata/disk.errFault", "strata/disk.errOff", "strata/disk.errName", "strata/disk.errNoFile", "strata/disk.errExists", "strata/disk.errSealed", "strata/disk.errOpen", "strata/disk.errBlock", "strata/disk.errFull", "strata/disk.errState"] (by kernel_rfl) (by kernel_rfl)
theorem tapeBits_row_tie : Rows.tapeBitsRow.laidByTextAt .later Tryz.pinned [.sentinel, .sentinel, .sentinel, .sentinel, .sentinel, .sentinel, .sentinel, .sentinel, .sentinel, .sentinel, .sentinel] true :=
  OpenClaim.laidByTextAt_later rfl rfl tie noOwnUnsafe
theorem tapeRound_row_tie : Rows.tapeRoundRow.laidByTextAt .later Tryz.pinned [.sentinel, .sentinel, .sentinel, .sentinel, .sentinel, .sentinel, .sentinel, .sentinel, .sentinel, .sentinel, .sentinel] true :=
  OpenClaim.laidByTextAt_later rfl rfl tie noOwnUnsafe
theorem tie2 : Tryz.prog.laidByTextLater [("math/bits.deBruijn32tab", Rows.laid_math_bits_deBruijn32tab), ("math/bits.deBruijn64tab", Rows.laid_math_bits_deBruijn64tab), ("internal/strconv.uint64pow10", Rows.laid_internal_strconv_uint64pow10), ("strata/disk.errArg", Rows.laid_strata_disk_errArg), ("strata/disk.errFault", Rows.laid_strata_disk_errFault), ("strata/disk.errOff", Rows.laid_strata_disk_errOff), ("strata/disk.errName", Rows.laid_strata_disk_errName), ("strata/disk.errNoFile", Rows.laid_strata_disk_errNoFile), ("strata/disk.errExists", Rows.laid_strata_disk_errExists), ("strata/disk.errSealed", Rows.laid_strata_disk_errSealed), ("strata/disk.errOpen", Rows.laid_strata_disk_errOpen), ("strata/disk.errBlock", Rows.laid_strata_disk_errBlock), ("strata/disk.errFull", Rows.laid_strata_disk_errFull), ("strata/disk.errState", Rows.laid_strata_disk_errState)] [.data, .data, .data, .sentinel, .sentinel, .sentinel, .sentinel, .sentinel, .sentinel, .sentinel, .sentinel, .sentinel, .sentinel, .sentinel] true :=
  Program.laidByTextLater.sub seatTie1 ["math/bits.deBruijn32tab", "math/bits.deBruijn64tab", "internal/strconv.uint64pow10", "strata/disk.errArg", "strata/disk.errFault", "strata/disk.errOff", "strata/disk.errName", "strata/disk.errNoFile", "strata/disk.errExists", "strata/disk.errSealed", "strata/disk.errOpen", "strata/disk.errBlock", "strata/disk.errFull", "strata/disk.errState"] (by kernel_rfl) (by kernel_rfl)
theorem tapePlays_row_tie : Rows.tapePlaysRow.laidByTextAt .later Tryz.pinned [.data, .data, .data, .sentinel, .sentinel, .sentinel, .sentinel, .sentinel, .sentinel, .sentinel, .sentinel, .sentinel, .sentinel, .sentinel] true :=
  OpenClaim.laidByTextAt_later rfl rfl tie2 noOwnUnsafe
theorem tapeBitsUpto_row_tie : Rows.tapeBitsUptoRow.laidByTextAt .later Tryz.pinned [.sentinel, .sentinel, .sentinel, .sentinel, .sentinel, .sentinel, .sentinel, .sentinel, .sentinel, .sentinel, .sentinel] true :=
  OpenClaim.laidByTextAt_later rfl rfl tie noOwnUnsafe
theorem tapeRoundUpto_row_tie : Rows.tapeRoundUptoRow.laidByTextAt .later Tryz.pinned [.sentinel, .sentinel, .sentinel, .sentinel, .sentinel, .sentinel, .sentinel, .sentinel, .sentinel, .sentinel, .sentinel] true :=
  OpenClaim.laidByTextAt_later rfl rfl tie noOwnUnsafe
theorem tapePlaysUpto_row_tie : Rows.tapePlaysUptoRow.laidByTextAt .later Tryz.pinned [.data, .data, .data, .sentinel, .sentinel, .sentinel, .sentinel, .sentinel, .sentinel, .sentinel, .sentinel, .sentinel, .sentinel, .sentinel] true :=
  OpenClaim.laidByTextAt_later rfl rfl tie2 noOwnUnsafe
end Go.Proofs.YtclplbnildnifaaGreatDoor
