/-
  NARROWER THAN 'FOR EVERY INPUT', by the rows' own cells (each row's printed sentence says how): DiskFresh: laid · DiskPlays: laid · DiskMounts: laid.
  DERIVED. THE GIVEN ROWS OF THIS SEAT. 3 by the template 'for every input the law returns true; each argument reads behind the call as it read before'; 0 by the template 'total and deterministic' (their statements: YtcpncfngadablaaGreatDoorTotals.lean).
  GIVEN WITH THE SEED: the statements are not yours to turn. If you find one false, say at which input.
  Laid BY PROGRAM, IN A SANDBOX (cutbox-rows.mjs): the forced cells as the released guide's own fill.sh prints them over the translation c3312dd587b3ad80… (all of the seat's roots in one cut). By AI agents, Wed Nov 11 2026. No macro, syntax, notation, axiom, sorry.
-/
import Derived.Test.YtcpncfngadablaaGreatDoorChecked
import GoSem.Claim
import GoSem.ClaimJoined
import GoSem.ClaimMapViews
import Derived.JoinedTies
import Derived.KernelRfl
namespace Go.Proofs.YtcpncfngadablaaGreatDoor
/- THE CELL 'sum', in the pinned program and in every row, IS THE sha256 OF THE DUMP (.gsa) THAT YtcpncfngadablaaGreatDoorProg.lean LOADS. Nothing in Lean hashes anything: it is a label: what it is worth is what the hold of that sum in a sandbox is worth. -/
noncomputable def Tryz.pinned : Pinned := { name := "ytcpncfngadablaagreatdoor", sum := "c3312dd587b3ad809ba1803ceae60f9771c7cf99525a4c4e0ab02fc5de1534b3", checked := Tryz.checked }
namespace Rows
def none {H : Type} : Left H := { results := [], args := [] }

/- WHAT THE LISTED PACKAGE-LEVEL VARIABLES READ AS WHEN THE CALL BEGINS. Each datum BY PROGRAM (the guide's laid-datum.mjs) off the statement by which the dump's own 'gosem.cut.vars' lays the variable. In a bare row this is a premise. The card (YtcpncfngadablaaGreatDoorCards.lean) ties it to the program's text. -/
def laid_strata_disk_errArg {H : Type} : DataW H := .iface "*errors.errorString" (.ptr (.agg [.lit (.string [97, 32, 115, 101, 116, 117, 112, 32, 116, 104, 97, 116, 32, 109, 97, 121, 32, 110, 111, 116, 32, 98, 101])]))
def laid_strata_disk_errFault {H : Type} : DataW H := .iface "*errors.errorString" (.ptr (.agg [.lit (.string [97, 32, 102, 97, 117, 108, 116, 32, 98, 101, 102, 97, 108, 108, 115, 32, 116, 104, 101, 32, 99, 97, 108, 108])]))
def laid_strata_disk_errOff {H : Type} : DataW H := .iface "*errors.errorString" (.ptr (.agg [.lit (.string [116, 104, 101, 32, 112, 111, 119, 101, 114, 32, 105, 115, 32, 111, 102, 102])]))
def laid_strata_disk_errName {H : Type} : DataW H := .iface "*errors.errorString" (.ptr (.agg [.lit (.string [110, 111, 32, 110, 97, 109, 101])]))
def laid_strata_disk_errNoFile {H : Type} : DataW H := .iface "*errors.errorString" (.ptr (.agg [.lit (.string [110, 111, 32, 102, 105, 108, 101, 32, 111, 102, 32, 116, 104, 97, 116, 32, 110, 97, 109, 101])]))
def laid_strata_disk_errExists {H : Type} : DataW H := .iface "*errors.errorString" (.ptr (.agg [.lit (.string [97, 32, 102, 105, 108, 101, 32, 111, 102, 32, 116, 104, 97, 116, 32, 110, 97, 109, 101, 32, 97, 108, 114, 101, 97, 100, 121])]))
def laid_strata_disk_errSealed {H : Type} : DataW H := .iface "*errors.errorString" (.ptr (.agg [.lit (.string [116, 104, 101, 32, 102, 105, 108, 101, 32, 105, 115, 32, 115, 101, 97, 108, 101, 100])]))
def laid_strata_disk_errOpen {H : Type} : DataW H := .iface "*errors.errorString" (.ptr (.agg [.lit (.string [116, 104, 101, 32, 102, 105, 108, 101, 32, 105, 115, 32, 110, 111, 116, 32, 115, 101, 97, 108, 101, 100])]))
def laid_strata_disk_errBlock {H : Type} : DataW H := .iface "*errors.errorString" (.ptr (.agg [.lit (.string [110, 111, 32, 115, 117, 99, 104, 32, 98, 108, 111, 99, 107])]))
def laid_strata_disk_errFull {H : Type} : DataW H := .iface "*errors.errorString" (.ptr (.agg [.lit (.string [110, 111, 32, 98, 108, 111, 99, 107, 32, 105, 115, 32, 102, 114, 101, 101])]))
def laid_strata_disk_errState {H : Type} : DataW H := .iface "*errors.errorString" (.ptr (.agg [.lit (.string [110, 111, 32, 115, 116, 97, 116, 101, 32, 111, 102, 32, 97, 32, 100, 105, 115, 107])]))

/-- 'stratalaw01.DiskFresh': WHATEVER THE INPUT: true; the input reads as it did. -/
def diskFreshSpec : ChangeSpec := { name := "diskFresh", fn := fun _ => fun
  | [d1, d2] => { results := [.lit (.bool true)], args := [d1, d2] }
  | _ => none }
def diskFreshRow : OpenClaim := { program := "ytcpncfngadablaagreatdoor", sum := "c3312dd587b3ad809ba1803ceae60f9771c7cf99525a4c4e0ab02fc5de1534b3", func := "strata/stratalaw01.DiskFresh", spec := "diskFresh", inPlace := ["internal/reflectlite.TypeOf"], unfollowed := true, recurses := true, named := ["strata/disk.errArg", "strata/disk.errFault", "strata/disk.errOff", "strata/disk.errName", "strata/disk.errNoFile", "strata/disk.errExists", "strata/disk.errSealed", "strata/disk.errOpen", "strata/disk.errBlock", "strata/disk.errFull", "strata/disk.errState"], apart := false, laid := [("strata/disk.errArg", laid_strata_disk_errArg), ("strata/disk.errFault", laid_strata_disk_errFault), ("strata/disk.errOff", laid_strata_disk_errOff), ("strata/disk.errName", laid_strata_disk_errName), ("strata/disk.errNoFile", laid_strata_disk_errNoFile), ("strata/disk.errExists", laid_strata_disk_errExists), ("strata/disk.errSealed", laid_strata_disk_errSealed), ("strata/disk.errOpen", laid_strata_disk_errOpen), ("strata/disk.errBlock", laid_strata_disk_errBlock), ("strata/disk.errFull", laid_strata_disk_errFull), ("strata/disk.errState", laid_strata_disk_errState)] }
def DiskFreshSaid : Prop := diskFreshRow.holds Tryz.pinned (OpenSpec.ofChange diskFreshSpec)

/-- ITS FALSE NEIGHBOUR: 'it returns false'. Refute it at one input. -/
def diskFreshWrong : ChangeSpec := { name := "diskFresh", fn := fun _ => fun
  | [d1, d2] => { results := [.lit (.bool false)], args := [d1, d2] }
  | _ => none }
def DiskFreshWrongFalsely : Prop := diskFreshRow.holds Tryz.pinned (OpenSpec.ofChange diskFreshWrong)

/-- 'stratalaw01.DiskPlays': WHATEVER THE INPUT: true; the input reads as it did. -/
def diskPlaysSpec : ChangeSpec := { name := "diskPlays", fn := fun _ => fun
  | [d1, d2] => { results := [.lit (.bool true)], args := [d1, d2] }
  | _ => none }
def diskPlaysRow : OpenClaim := { program := "ytcpncfngadablaagreatdoor", sum := "c3312dd587b3ad809ba1803ceae60f9771c7cf99525a4c4e0ab02fc5de1534b3", func := "strata/stratalaw01.DiskPlays", spec := "diskPlays", inPlace := ["internal/reflectlite.TypeOf"], unfollowed := true, recurses := true, named := ["strata/disk.errArg", "strata/disk.errFault", "strata/disk.errOff", "strata/disk.errName", "strata/disk.errNoFile", "strata/disk.errExists", "strata/disk.errSealed", "strata/disk.errOpen", "strata/disk.errBlock", "strata/disk.errFull", "strata/disk.errState"], apart := false, laid := [("strata/disk.errArg", laid_strata_disk_errArg), ("strata/disk.errFault", laid_strata_disk_errFault), ("strata/disk.errOff", laid_strata_disk_errOff), ("strata/disk.errName", laid_strata_disk_errName), ("strata/disk.errNoFile", laid_strata_disk_errNoFile), ("strata/disk.errExists", laid_strata_disk_errExists), ("strata/disk.errSealed", laid_strata_disk_errSealed), ("strata/disk.errOpen", laid_strata_disk_errOpen), ("strata/disk.errBlock", laid_strata_disk_errBlock), ("strata/disk.errFull", laid_strata_disk_errFull), ("strata/disk.errState", laid_strata_disk_errState)] }
def DiskPlaysSaid : Prop := diskPlaysRow.holds Tryz.pinned (OpenSpec.ofChange diskPlaysSpec)

/-- ITS FALSE NEIGHBOUR: 'it returns false'. Refute it at one input. -/
def diskPlaysWrong : ChangeSpec := { name := "diskPlays", fn := fun _ => fun
  | [d1, d2] => { results := [.lit (.bool false)], args := [d1, d2] }
  | _ => none }
def DiskPlaysWrongFalsely : Prop := diskPlaysRow.holds Tryz.pinned (OpenSpec.ofChange diskPlaysWrong)

/-- 'stratalaw01.DiskMounts': WHATEVER THE INPUT: true; the input reads as it did. -/
def diskMountsSpec : ChangeSpec := { name := "diskMounts", fn := fun _ => fun
  | [d1, d2, d3] => { results := [.lit (.bool true)], args := [d1, d2, d3] }
  | _ => none }
def diskMountsRow : OpenClaim := { program := "ytcpncfngadablaagreatdoor", sum := "c3312dd587b3ad809ba1803ceae60f9771c7cf99525a4c4e0ab02fc5de1534b3", func := "strata/stratalaw01.DiskMounts", spec := "diskMounts", inPlace := ["internal/reflectlite.TypeOf"], unfollowed := true, recurses := true, named := ["strata/disk.errState", "strata/disk.errFull", "strata/disk.errArg", "strata/disk.errFault", "strata/disk.errOff", "strata/disk.errName", "strata/disk.errNoFile", "strata/disk.errExists", "strata/disk.errSealed", "strata/disk.errOpen", "strata/disk.errBlock"], apart := false, laid := [("strata/disk.errArg", laid_strata_disk_errArg), ("strata/disk.errFault", laid_strata_disk_errFault), ("strata/disk.errOff", laid_strata_disk_errOff), ("strata/disk.errName", laid_strata_disk_errName), ("strata/disk.errNoFile", laid_strata_disk_errNoFile), ("strata/disk.errExists", laid_strata_disk_errExists), ("strata/disk.errSealed", laid_strata_disk_errSealed), ("strata/disk.errOpen", laid_strata_disk_errOpen), ("strata/disk.errBlock", laid_strata_disk_errBlock), ("strata/disk.errFull", laid_strata_disk_errFull), ("strata/disk.errState", laid_strata_disk_errState)] }
def DiskMountsSaid : Prop := diskMountsRow.holds Tryz.pinned (OpenSpec.ofChange diskMountsSpec)

/-- ITS FALSE NEIGHBOUR: 'it returns false'. Refute it at one input. -/
def diskMountsWrong : ChangeSpec := { name := "diskMounts", fn := fun _ => fun
  | [d1, d2, d3] => { results := [.lit (.bool false)], args := [d1, d2, d3] }
  | _ => none }
def DiskMountsWrongFalsely : Prop := diskMountsRow.holds Tryz.pinned (OpenSpec.ofChange diskMountsWrong)

/- THE SECOND FORM. 'bulk': how many values and letters a reading holds, each counted each time it is reached (what is shared counts as often as it is met; a slice's spare places count too). A statement '..UptoSaid' is the law's where the arguments, and the package variables that the reading takes, are together of bulk at most 1048576: NARROWER than '..Said'. Prove '..Said' where nothing that the law and all that it calls make is longer than what came in: it says more and counts as full. Else prove '..UptoSaid'. A law counts once. -/
mutual
def uptoBulk {H : Type} : DataW H → Nat
  | .lit (.string bytes) => bytes.length + 1
  | .lit _ => 1
  | .nil => 1
  | .ptr d => uptoBulk d + 1
  | .slice elems spare => uptoBulkAll elems + uptoBulkAll spare + 1
  | .agg parts => uptoBulkAll parts + 1
  | .iface _ d => uptoBulk d + 1
  | .map entries => uptoBulkEntries entries + 1
  | .held _ => 1
def uptoBulkAll {H : Type} : List (DataW H) → Nat
  | [] => 0
  | d :: r => uptoBulk d + uptoBulkAll r
def uptoBulkEntries {H : Type} : List (Lit × DataW H) → Nat
  | [] => 0
  | x :: r => uptoBulkEntry x + uptoBulkEntries r
def uptoBulkEntry {H : Type} : Lit × DataW H → Nat
  | (.string bytes, d) => bytes.length + uptoBulk d + 1
  | (_, d) => uptoBulk d + 1
 end
def uptoSmall : (H : Type) → List (DataW H) → Bool := fun _ ds => decide (uptoBulkAll ds ≤ 1048576)
def OpenSpec.upto (s : _root_.Go.ChangeSpec) : _root_.Go.OpenSpec := { _root_.Go.OpenSpec.ofChange s with cond := some uptoSmall }

/-- 'stratalaw01.DiskFresh', WHERE WHAT IT READS IS OF BULK AT MOST 1048576: true; the input reads as it did. -/
def diskFreshUptoRow : OpenClaim := { program := "ytcpncfngadablaagreatdoor", sum := "c3312dd587b3ad809ba1803ceae60f9771c7cf99525a4c4e0ab02fc5de1534b3", func := "strata/stratalaw01.DiskFresh", spec := "diskFresh", inPlace := ["internal/reflectlite.TypeOf"], unfollowed := true, recurses := true, named := ["strata/disk.errArg", "strata/disk.errFault", "strata/disk.errOff", "strata/disk.errName", "strata/disk.errNoFile", "strata/disk.errExists", "strata/disk.errSealed", "strata/disk.errOpen", "strata/disk.errBlock", "strata/disk.errFull", "strata/disk.errState"], apart := false, laid := [("strata/disk.errArg", laid_strata_disk_errArg), ("strata/disk.errFault", laid_strata_disk_errFault), ("strata/disk.errOff", laid_strata_disk_errOff), ("strata/disk.errName", laid_strata_disk_errName), ("strata/disk.errNoFile", laid_strata_disk_errNoFile), ("strata/disk.errExists", laid_strata_disk_errExists), ("strata/disk.errSealed", laid_strata_disk_errSealed), ("strata/disk.errOpen", laid_strata_disk_errOpen), ("strata/disk.errBlock", laid_strata_disk_errBlock), ("strata/disk.errFull", laid_strata_disk_errFull), ("strata/disk.errState", laid_strata_disk_errState)], narrowed := true }
def DiskFreshUptoSaid : Prop := diskFreshUptoRow.holds Tryz.pinned (OpenSpec.upto diskFreshSpec)

/-- 'stratalaw01.DiskPlays', WHERE WHAT IT READS IS OF BULK AT MOST 1048576: true; the input reads as it did. -/
def diskPlaysUptoRow : OpenClaim := { program := "ytcpncfngadablaagreatdoor", sum := "c3312dd587b3ad809ba1803ceae60f9771c7cf99525a4c4e0ab02fc5de1534b3", func := "strata/stratalaw01.DiskPlays", spec := "diskPlays", inPlace := ["internal/reflectlite.TypeOf"], unfollowed := true, recurses := true, named := ["strata/disk.errArg", "strata/disk.errFault", "strata/disk.errOff", "strata/disk.errName", "strata/disk.errNoFile", "strata/disk.errExists", "strata/disk.errSealed", "strata/disk.errOpen", "strata/disk.errBlock", "strata/disk.errFull", "strata/disk.errState"], apart := false, laid := [("strata/disk.errArg", laid_strata_disk_errArg), ("strata/disk.errFault", laid_strata_disk_errFault), ("strata/disk.errOff", laid_strata_disk_errOff), ("strata/disk.errName", laid_strata_disk_errName), ("strata/disk.errNoFile", laid_strata_disk_errNoFile), ("strata/disk.errExists", laid_strata_disk_errExists), ("strata/disk.errSealed", laid_strata_disk_errSealed), ("strata/disk.errOpen", laid_strata_disk_errOpen), ("strata/disk.errBlock", laid_strata_disk_errBlock), ("strata/disk.errFull", laid_strata_disk_errFull), ("strata/disk.errState", laid_strata_disk_errState)], narrowed := true }
def DiskPlaysUptoSaid : Prop := diskPlaysUptoRow.holds Tryz.pinned (OpenSpec.upto diskPlaysSpec)

/-- 'stratalaw01.DiskMounts', WHERE WHAT IT READS IS OF BULK AT MOST 1048576: true; the input reads as it did. -/
def diskMountsUptoRow : OpenClaim := { program := "ytcpncfngadablaagreatdoor", sum := "c3312dd587b3ad809ba1803ceae60f9771c7cf99525a4c4e0ab02fc5de1534b3", func := "strata/stratalaw01.DiskMounts", spec := "diskMounts", inPlace := ["internal/reflectlite.TypeOf"], unfollowed := true, recurses := true, named := ["strata/disk.errState", "strata/disk.errFull", "strata/disk.errArg", "strata/disk.errFault", "strata/disk.errOff", "strata/disk.errName", "strata/disk.errNoFile", "strata/disk.errExists", "strata/disk.errSealed", "strata/disk.errOpen", "strata/disk.errBlock"], apart := false, laid := [("strata/disk.errArg", laid_strata_disk_errArg), ("strata/disk.errFault", laid_strata_disk_errFault), ("strata/disk.errOff", laid_strata_disk_errOff), ("strata/disk.errName", laid_strata_disk_errName), ("strata/disk.errNoFile", laid_strata_disk_errNoFile), ("strata/disk.errExists", laid_strata_disk_errExists), ("strata/disk.errSealed", laid_strata_disk_errSealed), ("strata/disk.errOpen", laid_strata_disk_errOpen), ("strata/disk.errBlock", laid_strata_disk_errBlock), ("strata/disk.errFull", laid_strata_disk_errFull), ("strata/disk.errState", laid_strata_disk_errState)], narrowed := true }
def DiskMountsUptoSaid : Prop := diskMountsUptoRow.holds Tryz.pinned (OpenSpec.upto diskMountsSpec)

end Rows
end Go.Proofs.YtcpncfngadablaaGreatDoor
