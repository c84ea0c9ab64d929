/-
  NARROWER THAN 'FOR EVERY INPUT', by the rows' own cells (each row's printed sentence says how): CircuitParses: laid.
  DERIVED. THE GIVEN ROWS OF THIS SEAT. 1 by the template 'for every input the law returns true; each argument reads behind the call as it read before'; 0 by the template 'total and deterministic' (their statements: YtfmmmhcpdinhgabDoorTotals.lean).
  GIVEN WITH THE SEED: the statements are not yours to turn. If you find one false, say at which input.
  Laid BY PROGRAM, IN A SANDBOX (cutbox-rows.mjs): the forced cells as the released guide's own fill.sh prints them over the translation 891efa7422d5e639… (all of the seat's roots in one cut). By AI agents, Wed Nov 11 2026. No macro, syntax, notation, axiom, sorry.
-/
import Derived.Test.YtfmmmhcpdinhgabDoorChecked
import GoSem.PinnedTables
import GoSem.Claim
import GoSem.ClaimJoined
import GoSem.ClaimMapViews
import Derived.JoinedTies
import Derived.KernelRfl
namespace Go.Proofs.YtfmmmhcpdinhgabDoor
/- THE CELL 'sum', in the pinned program and in every row, IS THE sha256 OF THE DUMP (.gsa) THAT YtfmmmhcpdinhgabDoorProg.lean LOADS. Nothing in Lean hashes anything: it is a label: what it is worth is what the hold of that sum in a sandbox is worth. -/
noncomputable def Tryd.pinned : Pinned := { name := "ytfmmmhcpdinhgabdoor", sum := "891efa7422d5e6392beb6e62a01d474a80a1b0f1b6203fbd620d626ff4c2d122", checked := Tryd.checked }
namespace Rows
def none {H : Type} : Left H := { results := [], args := [] }

/- WHAT THE LISTED PACKAGE-LEVEL VARIABLES READ AS WHEN THE CALL BEGINS. Each datum BY PROGRAM (the guide's laid-datum.mjs) off the statement by which the dump's own 'gosem.cut.vars' lays the variable. In a bare row this is a premise. The card (YtfmmmhcpdinhgabDoorCards.lean) ties it to the program's text. -/
def laid_strata_strataref14_words {H : Type} : DataW H := .agg [.lit (.string [122, 101, 114, 111]), .lit (.string [110, 111, 114]), .lit (.string [108, 101, 115, 115]), .lit (.string [110, 111, 116, 97]), .lit (.string [100, 105, 102, 102]), .lit (.string [110, 111, 116, 98]), .lit (.string [120, 111, 114]), .lit (.string [110, 97, 110, 100]), .lit (.string [97, 110, 100]), .lit (.string [105, 102, 102]), .lit (.string [98]), .lit (.string [105, 109, 112]), .lit (.string [97]), .lit (.string [114, 101, 118]), .lit (.string [111, 114]), .lit (.string [111, 110, 101])]
def laid_unicode_utf8_acceptRanges {H : Type} : DataW H := .agg [.agg [.lit (.int .u8 128), .lit (.int .u8 191)], .agg [.lit (.int .u8 160), .lit (.int .u8 191)], .agg [.lit (.int .u8 128), .lit (.int .u8 159)], .agg [.lit (.int .u8 144), .lit (.int .u8 191)], .agg [.lit (.int .u8 128), .lit (.int .u8 143)], .agg [.lit (.int .u8 0), .lit (.int .u8 0)], .agg [.lit (.int .u8 0), .lit (.int .u8 0)], .agg [.lit (.int .u8 0), .lit (.int .u8 0)], .agg [.lit (.int .u8 0), .lit (.int .u8 0)], .agg [.lit (.int .u8 0), .lit (.int .u8 0)], .agg [.lit (.int .u8 0), .lit (.int .u8 0)], .agg [.lit (.int .u8 0), .lit (.int .u8 0)], .agg [.lit (.int .u8 0), .lit (.int .u8 0)], .agg [.lit (.int .u8 0), .lit (.int .u8 0)], .agg [.lit (.int .u8 0), .lit (.int .u8 0)], .agg [.lit (.int .u8 0), .lit (.int .u8 0)]]
def laid_strata_circuit_kinds {H : Type} : DataW H := .agg [.agg [.lit (.string []), .lit (.int .i64 0), .lit (.int .i64 0)], .agg [.lit (.string [105, 110, 112, 117, 116]), .lit (.int .i64 0), .lit (.int .i64 0)], .agg [.lit (.string [103, 97, 116, 101]), .lit (.int .i64 15), .lit (.int .i64 2)], .agg [.lit (.string [108, 97, 116, 99, 104]), .lit (.int .i64 1), .lit (.int .i64 1)], .agg [.lit (.string [109, 117, 120]), .lit (.int .i64 0), .lit (.int .i64 3)]]
def laid_strata_circuit_operators {H : Type} : DataW H := .agg [.lit (.string [122, 101, 114, 111]), .lit (.string [110, 111, 114]), .lit (.string [108, 101, 115, 115]), .lit (.string [110, 111, 116, 97]), .lit (.string [100, 105, 102, 102]), .lit (.string [110, 111, 116, 98]), .lit (.string [120, 111, 114]), .lit (.string [110, 97, 110, 100]), .lit (.string [97, 110, 100]), .lit (.string [105, 102, 102]), .lit (.string [98]), .lit (.string [105, 109, 112]), .lit (.string [97]), .lit (.string [114, 101, 118]), .lit (.string [111, 114]), .lit (.string [111, 110, 101])]
/-- One of Go's own tables, pinned by name: the form's constant. -/
def laid_unicode_utf8_first : DataW Unit := Go.Pinned.utf8First

/-- 'stratalaw14.CircuitParses': WHATEVER THE INPUT: true; the input reads as it did. -/
def circuitParsesSpec : ChangeSpec := { name := "circuitParses", fn := fun _ => fun
  | [d] => { results := [.lit (.bool true)], args := [d] }
  | _ => none }
def circuitParsesRow : OpenClaim := { program := "ytfmmmhcpdinhgabdoor", sum := "891efa7422d5e6392beb6e62a01d474a80a1b0f1b6203fbd620d626ff4c2d122", func := "strata/stratalaw14.CircuitParses", spec := "circuitParses", inPlace := ["internal/bytealg.CountString", "internal/bytealg.IndexByteString", "internal/bytealg.IndexString"], unfollowed := true, recurses := true, named := ["internal/bytealg.MaxLen", "strata/circuit.operators", "unicode/utf8.first", "unicode/utf8.acceptRanges", "strata/circuit.kinds", "strata/strataref14.words"], apart := false, laid := [("strata/strataref14.words", laid_strata_strataref14_words), ("unicode/utf8.acceptRanges", laid_unicode_utf8_acceptRanges), ("strata/circuit.kinds", laid_strata_circuit_kinds), ("strata/circuit.operators", laid_strata_circuit_operators), ("unicode/utf8.first", laid_unicode_utf8_first)] }
def CircuitParsesSaid : Prop := circuitParsesRow.holds Tryd.pinned (OpenSpec.ofChange circuitParsesSpec)

/-- ITS FALSE NEIGHBOUR: 'it returns false'. Refute it at one input. -/
def circuitParsesWrong : ChangeSpec := { name := "circuitParses", fn := fun _ => fun
  | [d] => { results := [.lit (.bool false)], args := [d] }
  | _ => none }
def CircuitParsesWrongFalsely : Prop := circuitParsesRow.holds Tryd.pinned (OpenSpec.ofChange circuitParsesWrong)

/- THE SECOND FORM. 'bulk': how many values and letters a reading holds, each counted each time it is reached (what is shared counts as often as it is met; a slice's spare places count too). A statement '..UptoSaid' is the law's where the arguments, and the package variables that the reading takes, are together of bulk at most 1048576: NARROWER than '..Said'. Prove '..Said' where nothing that the law and all that it calls make is longer than what came in: it says more and counts as full. Else prove '..UptoSaid'. A law counts once. -/
mutual
def uptoBulk {H : Type} : DataW H → Nat
  | .lit (.string bytes) => bytes.length + 1
  | .lit _ => 1
  | .nil => 1
  | .ptr d => uptoBulk d + 1
  | .slice elems spare => uptoBulkAll elems + uptoBulkAll spare + 1
  | .agg parts => uptoBulkAll parts + 1
  | .iface _ d => uptoBulk d + 1
  | .map entries => uptoBulkEntries entries + 1
  | .held _ => 1
def uptoBulkAll {H : Type} : List (DataW H) → Nat
  | [] => 0
  | d :: r => uptoBulk d + uptoBulkAll r
def uptoBulkEntries {H : Type} : List (Lit × DataW H) → Nat
  | [] => 0
  | x :: r => uptoBulkEntry x + uptoBulkEntries r
def uptoBulkEntry {H : Type} : Lit × DataW H → Nat
  | (.string bytes, d) => bytes.length + uptoBulk d + 1
  | (_, d) => uptoBulk d + 1
 end
def uptoSmall : (H : Type) → List (DataW H) → Bool := fun _ ds => decide (uptoBulkAll ds ≤ 1048576)
def OpenSpec.upto (s : _root_.Go.ChangeSpec) : _root_.Go.OpenSpec := { _root_.Go.OpenSpec.ofChange s with cond := some uptoSmall }

/-- 'stratalaw14.CircuitParses', WHERE WHAT IT READS IS OF BULK AT MOST 1048576: true; the input reads as it did. -/
def circuitParsesUptoRow : OpenClaim := { program := "ytfmmmhcpdinhgabdoor", sum := "891efa7422d5e6392beb6e62a01d474a80a1b0f1b6203fbd620d626ff4c2d122", func := "strata/stratalaw14.CircuitParses", spec := "circuitParses", inPlace := ["internal/bytealg.CountString", "internal/bytealg.IndexByteString", "internal/bytealg.IndexString"], unfollowed := true, recurses := true, named := ["internal/bytealg.MaxLen", "strata/circuit.operators", "unicode/utf8.first", "unicode/utf8.acceptRanges", "strata/circuit.kinds", "strata/strataref14.words"], apart := false, laid := [("strata/strataref14.words", laid_strata_strataref14_words), ("unicode/utf8.acceptRanges", laid_unicode_utf8_acceptRanges), ("strata/circuit.kinds", laid_strata_circuit_kinds), ("strata/circuit.operators", laid_strata_circuit_operators), ("unicode/utf8.first", laid_unicode_utf8_first)], narrowed := true }
def CircuitParsesUptoSaid : Prop := circuitParsesUptoRow.holds Tryd.pinned (OpenSpec.upto circuitParsesSpec)

end Rows
end Go.Proofs.YtfmmmhcpdinhgabDoor
