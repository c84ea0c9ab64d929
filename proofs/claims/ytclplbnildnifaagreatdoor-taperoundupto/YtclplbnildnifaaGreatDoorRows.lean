/-
  NARROWER THAN 'FOR EVERY INPUT', by the rows' own cells (each row's printed sentence says how): TapeBits: laid · TapeRound: laid · TapePlays: laid.
  DERIVED. THE GIVEN ROWS OF THIS SEAT. 3 by the template 'for every input the law returns true; each argument reads behind the call as it read before'; 0 by the template 'total and deterministic' (their statements: YtclplbnildnifaaGreatDoorTotals.lean).
  GIVEN WITH THE SEED: the statements are not yours to turn. If you find one false, say at which input.
  Laid BY PROGRAM, IN A SANDBOX (cutbox-rows.mjs): the forced cells as the released guide's own fill.sh prints them over the translation 7adef850bd7a4f43… (all of the seat's roots in one cut). By AI agents, Wed Nov 11 2026. No macro, syntax, notation, axiom, sorry.
-/
import Derived.Test.YtclplbnildnifaaGreatDoorChecked
import GoSem.Claim
import GoSem.ClaimJoined
import GoSem.ClaimMapViews
import Derived.JoinedTies
import Derived.KernelRfl
namespace Go.Proofs.YtclplbnildnifaaGreatDoor
/- THE CELL 'sum', in the pinned program and in every row, IS THE sha256 OF THE DUMP (.gsa) THAT YtclplbnildnifaaGreatDoorProg.lean LOADS. Nothing in Lean hashes anything: it is a label: what it is worth is what the hold of that sum in a sandbox is worth. -/
noncomputable def Tryz.pinned : Pinned := { name := "ytclplbnildnifaagreatdoor", sum := "7adef850bd7a4f430746111b227ddabaf0764a86789adb8377e3dd23a4d87cc8", checked := Tryz.checked }
namespace Rows
def none {H : Type} : Left H := { results := [], args := [] }

/- WHAT THE LISTED PACKAGE-LEVEL VARIABLES READ AS WHEN THE CALL BEGINS. Each datum BY PROGRAM (the guide's laid-datum.mjs) off the statement by which the dump's own 'gosem.cut.vars' lays the variable. In a bare row this is a premise. The card (YtclplbnildnifaaGreatDoorCards.lean) ties it to the program's text. -/
def laid_strata_disk_errArg {H : Type} : DataW H := .iface "*errors.errorString" (.ptr (.agg [.lit (.string [97, 32, 115, 101, 116, 117, 112, 32, 116, 104, 97, 116, 32, 109, 97, 121, 32, 110, 111, 116, 32, 98, 101])]))
def laid_strata_disk_errFault {H : Type} : DataW H := .iface "*errors.errorString" (.ptr (.agg [.lit (.string [97, 32, 102, 97, 117, 108, 116, 32, 98, 101, 102, 97, 108, 108, 115, 32, 116, 104, 101, 32, 99, 97, 108, 108])]))
def laid_strata_disk_errOff {H : Type} : DataW H := .iface "*errors.errorString" (.ptr (.agg [.lit (.string [116, 104, 101, 32, 112, 111, 119, 101, 114, 32, 105, 115, 32, 111, 102, 102])]))
def laid_strata_disk_errName {H : Type} : DataW H := .iface "*errors.errorString" (.ptr (.agg [.lit (.string [110, 111, 32, 110, 97, 109, 101])]))
def laid_strata_disk_errNoFile {H : Type} : DataW H := .iface "*errors.errorString" (.ptr (.agg [.lit (.string [110, 111, 32, 102, 105, 108, 101, 32, 111, 102, 32, 116, 104, 97, 116, 32, 110, 97, 109, 101])]))
def laid_strata_disk_errExists {H : Type} : DataW H := .iface "*errors.errorString" (.ptr (.agg [.lit (.string [97, 32, 102, 105, 108, 101, 32, 111, 102, 32, 116, 104, 97, 116, 32, 110, 97, 109, 101, 32, 97, 108, 114, 101, 97, 100, 121])]))
def laid_strata_disk_errSealed {H : Type} : DataW H := .iface "*errors.errorString" (.ptr (.agg [.lit (.string [116, 104, 101, 32, 102, 105, 108, 101, 32, 105, 115, 32, 115, 101, 97, 108, 101, 100])]))
def laid_strata_disk_errOpen {H : Type} : DataW H := .iface "*errors.errorString" (.ptr (.agg [.lit (.string [116, 104, 101, 32, 102, 105, 108, 101, 32, 105, 115, 32, 110, 111, 116, 32, 115, 101, 97, 108, 101, 100])]))
def laid_strata_disk_errBlock {H : Type} : DataW H := .iface "*errors.errorString" (.ptr (.agg [.lit (.string [110, 111, 32, 115, 117, 99, 104, 32, 98, 108, 111, 99, 107])]))
def laid_strata_disk_errFull {H : Type} : DataW H := .iface "*errors.errorString" (.ptr (.agg [.lit (.string [110, 111, 32, 98, 108, 111, 99, 107, 32, 105, 115, 32, 102, 114, 101, 101])]))
def laid_strata_disk_errState {H : Type} : DataW H := .iface "*errors.errorString" (.ptr (.agg [.lit (.string [110, 111, 32, 115, 116, 97, 116, 101, 32, 111, 102, 32, 97, 32, 100, 105, 115, 107])]))
def laid_math_bits_deBruijn32tab {H : Type} : DataW H := .agg [.lit (.int .u8 0), .lit (.int .u8 1), .lit (.int .u8 28), .lit (.int .u8 2), .lit (.int .u8 29), .lit (.int .u8 14), .lit (.int .u8 24), .lit (.int .u8 3), .lit (.int .u8 30), .lit (.int .u8 22), .lit (.int .u8 20), .lit (.int .u8 15), .lit (.int .u8 25), .lit (.int .u8 17), .lit (.int .u8 4), .lit (.int .u8 8), .lit (.int .u8 31), .lit (.int .u8 27), .lit (.int .u8 13), .lit (.int .u8 23), .lit (.int .u8 21), .lit (.int .u8 19), .lit (.int .u8 16), .lit (.int .u8 7), .lit (.int .u8 26), .lit (.int .u8 12), .lit (.int .u8 18), .lit (.int .u8 6), .lit (.int .u8 11), .lit (.int .u8 5), .lit (.int .u8 10), .lit (.int .u8 9)]
def laid_math_bits_deBruijn64tab {H : Type} : DataW H := .agg [.lit (.int .u8 0), .lit (.int .u8 1), .lit (.int .u8 56), .lit (.int .u8 2), .lit (.int .u8 57), .lit (.int .u8 49), .lit (.int .u8 28), .lit (.int .u8 3), .lit (.int .u8 61), .lit (.int .u8 58), .lit (.int .u8 42), .lit (.int .u8 50), .lit (.int .u8 38), .lit (.int .u8 29), .lit (.int .u8 17), .lit (.int .u8 4), .lit (.int .u8 62), .lit (.int .u8 47), .lit (.int .u8 59), .lit (.int .u8 36), .lit (.int .u8 45), .lit (.int .u8 43), .lit (.int .u8 51), .lit (.int .u8 22), .lit (.int .u8 53), .lit (.int .u8 39), .lit (.int .u8 33), .lit (.int .u8 30), .lit (.int .u8 24), .lit (.int .u8 18), .lit (.int .u8 12), .lit (.int .u8 5), .lit (.int .u8 63), .lit (.int .u8 55), .lit (.int .u8 48), .lit (.int .u8 27), .lit (.int .u8 60), .lit (.int .u8 41), .lit (.int .u8 37), .lit (.int .u8 16), .lit (.int .u8 46), .lit (.int .u8 35), .lit (.int .u8 44), .lit (.int .u8 21), .lit (.int .u8 52), .lit (.int .u8 32), .lit (.int .u8 23), .lit (.int .u8 11), .lit (.int .u8 54), .lit (.int .u8 26), .lit (.int .u8 40), .lit (.int .u8 15), .lit (.int .u8 34), .lit (.int .u8 20), .lit (.int .u8 31), .lit (.int .u8 10), .lit (.int .u8 25), .lit (.int .u8 14), .lit (.int .u8 19), .lit (.int .u8 9), .lit (.int .u8 13), .lit (.int .u8 8), .lit (.int .u8 7), .lit (.int .u8 6)]
def laid_internal_strconv_uint64pow10 {H : Type} : DataW H := .agg [.lit (.int .u64 1), .lit (.int .u64 10), .lit (.int .u64 100), .lit (.int .u64 1000), .lit (.int .u64 10000), .lit (.int .u64 100000), .lit (.int .u64 1000000), .lit (.int .u64 10000000), .lit (.int .u64 100000000), .lit (.int .u64 1000000000), .lit (.int .u64 10000000000), .lit (.int .u64 100000000000), .lit (.int .u64 1000000000000), .lit (.int .u64 10000000000000), .lit (.int .u64 100000000000000), .lit (.int .u64 1000000000000000), .lit (.int .u64 10000000000000000), .lit (.int .u64 100000000000000000), .lit (.int .u64 1000000000000000000), .lit (.int .u64 10000000000000000000)]

/-- 'stratalaw04.TapeBits': WHATEVER THE INPUT: true; the input reads as it did. -/
def tapeBitsSpec : ChangeSpec := { name := "tapeBits", fn := fun _ => fun
  | [d1, d2, d3] => { results := [.lit (.bool true)], args := [d1, d2, d3] }
  | _ => none }
def tapeBitsRow : OpenClaim := { program := "ytclplbnildnifaagreatdoor", sum := "7adef850bd7a4f430746111b227ddabaf0764a86789adb8377e3dd23a4d87cc8", func := "strata/stratalaw04.TapeBits", spec := "tapeBits", inPlace := ["internal/reflectlite.TypeOf", "(*internal/sync.Mutex).Lock", "internal/race.Disable", "sync/atomic.CompareAndSwapInt32", "internal/race.Enable", "internal/race.Acquire", "(*internal/sync.Mutex).lockSlow", "internal/sync.runtime_canSpin", "internal/sync.runtime_doSpin", "internal/sync.throw", "internal/sync.runtime_nanotime", "internal/sync.runtime_SemacquireMutex", "sync/atomic.AddInt32", "(*internal/sync.Mutex).Unlock", "internal/race.ReleaseMerge", "(*internal/sync.Mutex).unlockSlow", "internal/sync.fatal", "internal/sync.runtime_Semrelease", "sync/atomic.LoadInt64", "sync/atomic.StoreInt64", "sync/atomic.LoadUint32", "sync/atomic.StoreUint32"], unfollowed := true, recurses := true, named := ["strata/disk.errArg", "strata/disk.errFault", "strata/disk.errOff", "strata/disk.errName", "strata/disk.errNoFile", "strata/disk.errExists", "strata/disk.errSealed", "strata/disk.errOpen", "strata/disk.errBlock", "strata/disk.errFull", "strata/disk.errState"], apart := false, laid := [("strata/disk.errArg", laid_strata_disk_errArg), ("strata/disk.errFault", laid_strata_disk_errFault), ("strata/disk.errOff", laid_strata_disk_errOff), ("strata/disk.errName", laid_strata_disk_errName), ("strata/disk.errNoFile", laid_strata_disk_errNoFile), ("strata/disk.errExists", laid_strata_disk_errExists), ("strata/disk.errSealed", laid_strata_disk_errSealed), ("strata/disk.errOpen", laid_strata_disk_errOpen), ("strata/disk.errBlock", laid_strata_disk_errBlock), ("strata/disk.errFull", laid_strata_disk_errFull), ("strata/disk.errState", laid_strata_disk_errState)] }
def TapeBitsSaid : Prop := tapeBitsRow.holds Tryz.pinned (OpenSpec.ofChange tapeBitsSpec)

/-- ITS FALSE NEIGHBOUR: 'it returns false'. Refute it at one input. -/
def tapeBitsWrong : ChangeSpec := { name := "tapeBits", fn := fun _ => fun
  | [d1, d2, d3] => { results := [.lit (.bool false)], args := [d1, d2, d3] }
  | _ => none }
def TapeBitsWrongFalsely : Prop := tapeBitsRow.holds Tryz.pinned (OpenSpec.ofChange tapeBitsWrong)

/-- 'stratalaw04.TapeRound': WHATEVER THE INPUT: true; the input reads as it did. -/
def tapeRoundSpec : ChangeSpec := { name := "tapeRound", fn := fun _ => fun
  | [d1, d2, d3] => { results := [.lit (.bool true)], args := [d1, d2, d3] }
  | _ => none }
def tapeRoundRow : OpenClaim := { program := "ytclplbnildnifaagreatdoor", sum := "7adef850bd7a4f430746111b227ddabaf0764a86789adb8377e3dd23a4d87cc8", func := "strata/stratalaw04.TapeRound", spec := "tapeRound", inPlace := ["internal/reflectlite.TypeOf", "(*internal/sync.Mutex).Lock", "internal/race.Disable", "sync/atomic.CompareAndSwapInt32", "internal/race.Enable", "internal/race.Acquire", "(*internal/sync.Mutex).lockSlow", "internal/sync.runtime_canSpin", "internal/sync.runtime_doSpin", "internal/sync.throw", "internal/sync.runtime_nanotime", "internal/sync.runtime_SemacquireMutex", "sync/atomic.AddInt32", "(*internal/sync.Mutex).Unlock", "internal/race.ReleaseMerge", "(*internal/sync.Mutex).unlockSlow", "internal/sync.fatal", "internal/sync.runtime_Semrelease", "sync/atomic.LoadInt64", "sync/atomic.StoreInt64", "sync/atomic.LoadUint32", "sync/atomic.StoreUint32"], unfollowed := true, recurses := true, named := ["strata/disk.errArg", "strata/disk.errFault", "strata/disk.errOff", "strata/disk.errName", "strata/disk.errNoFile", "strata/disk.errExists", "strata/disk.errSealed", "strata/disk.errOpen", "strata/disk.errBlock", "strata/disk.errFull", "strata/disk.errState"], apart := false, laid := [("strata/disk.errArg", laid_strata_disk_errArg), ("strata/disk.errFault", laid_strata_disk_errFault), ("strata/disk.errOff", laid_strata_disk_errOff), ("strata/disk.errName", laid_strata_disk_errName), ("strata/disk.errNoFile", laid_strata_disk_errNoFile), ("strata/disk.errExists", laid_strata_disk_errExists), ("strata/disk.errSealed", laid_strata_disk_errSealed), ("strata/disk.errOpen", laid_strata_disk_errOpen), ("strata/disk.errBlock", laid_strata_disk_errBlock), ("strata/disk.errFull", laid_strata_disk_errFull), ("strata/disk.errState", laid_strata_disk_errState)] }
def TapeRoundSaid : Prop := tapeRoundRow.holds Tryz.pinned (OpenSpec.ofChange tapeRoundSpec)

/-- ITS FALSE NEIGHBOUR: 'it returns false'. Refute it at one input. -/
def tapeRoundWrong : ChangeSpec := { name := "tapeRound", fn := fun _ => fun
  | [d1, d2, d3] => { results := [.lit (.bool false)], args := [d1, d2, d3] }
  | _ => none }
def TapeRoundWrongFalsely : Prop := tapeRoundRow.holds Tryz.pinned (OpenSpec.ofChange tapeRoundWrong)

/-- 'stratalaw04.TapePlays': WHATEVER THE INPUT: true; the input reads as it did. -/
def tapePlaysSpec : ChangeSpec := { name := "tapePlays", fn := fun _ => fun
  | [d1, d2] => { results := [.lit (.bool true)], args := [d1, d2] }
  | _ => none }
def tapePlaysRow : OpenClaim := { program := "ytclplbnildnifaagreatdoor", sum := "7adef850bd7a4f430746111b227ddabaf0764a86789adb8377e3dd23a4d87cc8", func := "strata/stratalaw04.TapePlays", spec := "tapePlays", inPlace := ["internal/reflectlite.TypeOf", "(*internal/sync.Mutex).Lock", "internal/race.Disable", "sync/atomic.CompareAndSwapInt32", "internal/race.Enable", "internal/race.Acquire", "(*internal/sync.Mutex).lockSlow", "internal/sync.runtime_canSpin", "internal/sync.runtime_doSpin", "internal/sync.throw", "internal/sync.runtime_nanotime", "internal/sync.runtime_SemacquireMutex", "sync/atomic.AddInt32", "(*internal/sync.Mutex).Unlock", "internal/race.ReleaseMerge", "(*internal/sync.Mutex).unlockSlow", "internal/sync.fatal", "internal/sync.runtime_Semrelease", "sync/atomic.LoadInt64", "sync/atomic.StoreInt64", "sync/atomic.LoadUint32", "sync/atomic.StoreUint32"], unfollowed := true, recurses := true, named := ["strata/disk.errState", "strata/disk.errFull", "strata/disk.errArg", "strata/disk.errFault", "strata/disk.errOff", "strata/disk.errName", "strata/disk.errNoFile", "strata/disk.errExists", "strata/disk.errSealed", "strata/disk.errOpen", "strata/disk.errBlock", "internal/strconv.uint64pow10", "math/bits.deBruijn32tab", "math/bits.deBruijn64tab"], apart := false, laid := [("math/bits.deBruijn32tab", laid_math_bits_deBruijn32tab), ("math/bits.deBruijn64tab", laid_math_bits_deBruijn64tab), ("internal/strconv.uint64pow10", laid_internal_strconv_uint64pow10), ("strata/disk.errArg", laid_strata_disk_errArg), ("strata/disk.errFault", laid_strata_disk_errFault), ("strata/disk.errOff", laid_strata_disk_errOff), ("strata/disk.errName", laid_strata_disk_errName), ("strata/disk.errNoFile", laid_strata_disk_errNoFile), ("strata/disk.errExists", laid_strata_disk_errExists), ("strata/disk.errSealed", laid_strata_disk_errSealed), ("strata/disk.errOpen", laid_strata_disk_errOpen), ("strata/disk.errBlock", laid_strata_disk_errBlock), ("strata/disk.errFull", laid_strata_disk_errFull), ("strata/disk.errState", laid_strata_disk_errState)] }
def TapePlaysSaid : Prop := tapePlaysRow.holds Tryz.pinned (OpenSpec.ofChange tapePlaysSpec)

/-- ITS FALSE NEIGHBOUR: 'it returns false'. Refute it at one input. -/
def tapePlaysWrong : ChangeSpec := { name := "tapePlays", fn := fun _ => fun
  | [d1, d2] => { results := [.lit (.bool false)], args := [d1, d2] }
  | _ => none }
def TapePlaysWrongFalsely : Prop := tapePlaysRow.holds Tryz.pinned (OpenSpec.ofChange tapePlaysWrong)

/- THE SECOND FORM. 'bulk': how many values and letters a reading holds, each counted each time it is reached (what is shared counts as often as it is met; a slice's spare places count too). A statement '..UptoSaid' is the law's where the arguments, and the package variables that the reading takes, are together of bulk at most 1048576: NARROWER than '..Said'. Prove '..Said' where nothing that the law and all that it calls make is longer than what came in: it says more and counts as full. Else prove '..UptoSaid'. A law counts once. -/
mutual
def uptoBulk {H : Type} : DataW H → Nat
  | .lit (.string bytes) => bytes.length + 1
  | .lit _ => 1
  | .nil => 1
  | .ptr d => uptoBulk d + 1
  | .slice elems spare => uptoBulkAll elems + uptoBulkAll spare + 1
  | .agg parts => uptoBulkAll parts + 1
  | .iface _ d => uptoBulk d + 1
  | .map entries => uptoBulkEntries entries + 1
  | .held _ => 1
def uptoBulkAll {H : Type} : List (DataW H) → Nat
  | [] => 0
  | d :: r => uptoBulk d + uptoBulkAll r
def uptoBulkEntries {H : Type} : List (Lit × DataW H) → Nat
  | [] => 0
  | x :: r => uptoBulkEntry x + uptoBulkEntries r
def uptoBulkEntry {H : Type} : Lit × DataW H → Nat
  | (.string bytes, d) => bytes.length + uptoBulk d + 1
  | (_, d) => uptoBulk d + 1
 end
def uptoSmall : (H : Type) → List (DataW H) → Bool := fun _ ds => decide (uptoBulkAll ds ≤ 1048576)
def OpenSpec.upto (s : _root_.Go.ChangeSpec) : _root_.Go.OpenSpec := { _root_.Go.OpenSpec.ofChange s with cond := some uptoSmall }

/-- 'stratalaw04.TapeBits', WHERE WHAT IT READS IS OF BULK AT MOST 1048576: true; the input reads as it did. -/
def tapeBitsUptoRow : OpenClaim := { program := "ytclplbnildnifaagreatdoor", sum := "7adef850bd7a4f430746111b227ddabaf0764a86789adb8377e3dd23a4d87cc8", func := "strata/stratalaw04.TapeBits", spec := "tapeBits", inPlace := ["internal/reflectlite.TypeOf", "(*internal/sync.Mutex).Lock", "internal/race.Disable", "sync/atomic.CompareAndSwapInt32", "internal/race.Enable", "internal/race.Acquire", "(*internal/sync.Mutex).lockSlow", "internal/sync.runtime_canSpin", "internal/sync.runtime_doSpin", "internal/sync.throw", "internal/sync.runtime_nanotime", "internal/sync.runtime_SemacquireMutex", "sync/atomic.AddInt32", "(*internal/sync.Mutex).Unlock", "internal/race.ReleaseMerge", "(*internal/sync.Mutex).unlockSlow", "internal/sync.fatal", "internal/sync.runtime_Semrelease", "sync/atomic.LoadInt64", "sync/atomic.StoreInt64", "sync/atomic.LoadUint32", "sync/atomic.StoreUint32"], unfollowed := true, recurses := true, named := ["strata/disk.errArg", "strata/disk.errFault", "strata/disk.errOff", "strata/disk.errName", "strata/disk.errNoFile", "strata/disk.errExists", "strata/disk.errSealed", "strata/disk.errOpen", "strata/disk.errBlock", "strata/disk.errFull", "strata/disk.errState"], apart := false, laid := [("strata/disk.errArg", laid_strata_disk_errArg), ("strata/disk.errFault", laid_strata_disk_errFault), ("strata/disk.errOff", laid_strata_disk_errOff), ("strata/disk.errName", laid_strata_disk_errName), ("strata/disk.errNoFile", laid_strata_disk_errNoFile), ("strata/disk.errExists", laid_strata_disk_errExists), ("strata/disk.errSealed", laid_strata_disk_errSealed), ("strata/disk.errOpen", laid_strata_disk_errOpen), ("strata/disk.errBlock", laid_strata_disk_errBlock), ("strata/disk.errFull", laid_strata_disk_errFull), ("strata/disk.errState", laid_strata_disk_errState)], narrowed := true }
def TapeBitsUptoSaid : Prop := tapeBitsUptoRow.holds Tryz.pinned (OpenSpec.upto tapeBitsSpec)

/-- 'stratalaw04.TapeRound', WHERE WHAT IT READS IS OF BULK AT MOST 1048576: true; the input reads as it did. -/
def tapeRoundUptoRow : OpenClaim := { program := "ytclplbnildnifaagreatdoor", sum := "7adef850bd7a4f430746111b227ddabaf0764a86789adb8377e3dd23a4d87cc8", func := "strata/stratalaw04.TapeRound", spec := "tapeRound", inPlace := ["internal/reflectlite.TypeOf", "(*internal/sync.Mutex).Lock", "internal/race.Disable", "sync/atomic.CompareAndSwapInt32", "internal/race.Enable", "internal/race.Acquire", "(*internal/sync.Mutex).lockSlow", "internal/sync.runtime_canSpin", "internal/sync.runtime_doSpin", "internal/sync.throw", "internal/sync.runtime_nanotime", "internal/sync.runtime_SemacquireMutex", "sync/atomic.AddInt32", "(*internal/sync.Mutex).Unlock", "internal/race.ReleaseMerge", "(*internal/sync.Mutex).unlockSlow", "internal/sync.fatal", "internal/sync.runtime_Semrelease", "sync/atomic.LoadInt64", "sync/atomic.StoreInt64", "sync/atomic.LoadUint32", "sync/atomic.StoreUint32"], unfollowed := true, recurses := true, named := ["strata/disk.errArg", "strata/disk.errFault", "strata/disk.errOff", "strata/disk.errName", "strata/disk.errNoFile", "strata/disk.errExists", "strata/disk.errSealed", "strata/disk.errOpen", "strata/disk.errBlock", "strata/disk.errFull", "strata/disk.errState"], apart := false, laid := [("strata/disk.errArg", laid_strata_disk_errArg), ("strata/disk.errFault", laid_strata_disk_errFault), ("strata/disk.errOff", laid_strata_disk_errOff), ("strata/disk.errName", laid_strata_disk_errName), ("strata/disk.errNoFile", laid_strata_disk_errNoFile), ("strata/disk.errExists", laid_strata_disk_errExists), ("strata/disk.errSealed", laid_strata_disk_errSealed), ("strata/disk.errOpen", laid_strata_disk_errOpen), ("strata/disk.errBlock", laid_strata_disk_errBlock), ("strata/disk.errFull", laid_strata_disk_errFull), ("strata/disk.errState", laid_strata_disk_errState)], narrowed := true }
def TapeRoundUptoSaid : Prop := tapeRoundUptoRow.holds Tryz.pinned (OpenSpec.upto tapeRoundSpec)

/-- 'stratalaw04.TapePlays', WHERE WHAT IT READS IS OF BULK AT MOST 1048576: true; the input reads as it did. -/
def tapePlaysUptoRow : OpenClaim := { program := "ytclplbnildnifaagreatdoor", sum := "7adef850bd7a4f430746111b227ddabaf0764a86789adb8377e3dd23a4d87cc8", func := "strata/stratalaw04.TapePlays", spec := "tapePlays", inPlace := ["internal/reflectlite.TypeOf", "(*internal/sync.Mutex).Lock", "internal/race.Disable", "sync/atomic.CompareAndSwapInt32", "internal/race.Enable", "internal/race.Acquire", "(*internal/sync.Mutex).lockSlow", "internal/sync.runtime_canSpin", "internal/sync.runtime_doSpin", "internal/sync.throw", "internal/sync.runtime_nanotime", "internal/sync.runtime_SemacquireMutex", "sync/atomic.AddInt32", "(*internal/sync.Mutex).Unlock", "internal/race.ReleaseMerge", "(*internal/sync.Mutex).unlockSlow", "internal/sync.fatal", "internal/sync.runtime_Semrelease", "sync/atomic.LoadInt64", "sync/atomic.StoreInt64", "sync/atomic.LoadUint32", "sync/atomic.StoreUint32"], unfollowed := true, recurses := true, named := ["strata/disk.errState", "strata/disk.errFull", "strata/disk.errArg", "strata/disk.errFault", "strata/disk.errOff", "strata/disk.errName", "strata/disk.errNoFile", "strata/disk.errExists", "strata/disk.errSealed", "strata/disk.errOpen", "strata/disk.errBlock", "internal/strconv.uint64pow10", "math/bits.deBruijn32tab", "math/bits.deBruijn64tab"], apart := false, laid := [("math/bits.deBruijn32tab", laid_math_bits_deBruijn32tab), ("math/bits.deBruijn64tab", laid_math_bits_deBruijn64tab), ("internal/strconv.uint64pow10", laid_internal_strconv_uint64pow10), ("strata/disk.errArg", laid_strata_disk_errArg), ("strata/disk.errFault", laid_strata_disk_errFault), ("strata/disk.errOff", laid_strata_disk_errOff), ("strata/disk.errName", laid_strata_disk_errName), ("strata/disk.errNoFile", laid_strata_disk_errNoFile), ("strata/disk.errExists", laid_strata_disk_errExists), ("strata/disk.errSealed", laid_strata_disk_errSealed), ("strata/disk.errOpen", laid_strata_disk_errOpen), ("strata/disk.errBlock", laid_strata_disk_errBlock), ("strata/disk.errFull", laid_strata_disk_errFull), ("strata/disk.errState", laid_strata_disk_errState)], narrowed := true }
def TapePlaysUptoSaid : Prop := tapePlaysUptoRow.holds Tryz.pinned (OpenSpec.upto tapePlaysSpec)

end Rows
end Go.Proofs.YtclplbnildnifaaGreatDoor
