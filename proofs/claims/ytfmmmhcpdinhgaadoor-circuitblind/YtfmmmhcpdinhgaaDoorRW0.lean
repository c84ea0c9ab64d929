/-
  The table of kinds off what a row lists.
-/
import Derived.Test.YtfmmmhcpdinhgaaDoorR1
import Derived.Test.YtfmmmhcpdinhgaaDoorKin
import Derived.Test.YtfmmmhcpdinhgaaDoorCards
import Derived.Test.YtfmmmhcpdinhgaaDoorTie
import Derived.Deep.DeepHandedRow
import Derived.Deep.DeepWitnessRowRef
import Derived.SevenTiedAt
namespace Go.Proofs.YtfmmmhcpdinhgaaDoor
open Go.ChangeShapes Go.WideShapes Go.ChangeAt Go.RowKit Go.Deep PureNet
set_option maxRecDepth 100000

theorem cells137 : Tryd.prog.cellsOf 137 = 3 := by kernel_rfl
theorem cells138 : Tryd.prog.cellsOf 138 = 15 := by kernel_rfl
theorem cells9 : Tryd.prog.cellsOf 9 = 1 := by kernel_rfl
/-- a number of a line of the table. -/
theorem kind_cells {W : World} {fuel : Nat} {cs : List Value} {s : List UInt8} {a b : Int} {y : DataW Unit × List MemPlace} (h : DataW.trod (fun _ => ()) Tryd.prog W 0 (fun _ => true) false fuel 137 cs = some y) (hy : y.1 = .agg [.lit (.string s), .lit (.int .i64 a), .lit (.int .i64 b)]) :
    cs[1]? = some (.int .i64 a) ∧ cs[2]? = some (.int .i64 b) := by
  obtain ⟨xs, m, e1, e2, hl, hxs, hall⟩ := DataW.trod_struct Tryd.underlying137 h
  have hl3 : cs.length = 3 := by rw [hl]; exact cells137
  match cs, hl3 with
  | [v0, v1, v2], _ =>
  have f1 := hall 1 _ rfl
  have f2 := hall 2 _ rfl
  simp [cells3] at f1 f2
  have hx3 : xs.length = 3 := by simpa using hxs
  rw [List.getElem?_eq_getElem (by omega)] at f1 f2
  obtain ⟨n1, g1, d1, _⟩ := DataW.trod_int Tryd.underlying3 f1
  obtain ⟨n2, g2, d2, _⟩ := DataW.trod_int Tryd.underlying3 f2
  rw [e2] at hy
  simp only [DataW.agg.injEq] at hy
  match xs, hx3 with
  | [x0, x1, x2], _ =>
  simp at hy d1 d2 g1 g2
  obtain ⟨_, hy1, hy2⟩ := hy
  rw [d1] at hy1
  rw [d2] at hy2
  simp at hy1 hy2
  subst hy1 hy2
  simp [g1, g2]
theorem kinds_of_laid {W : World} (h0 : laidMetH Tryd.prog [("strata/circuit.kinds", Rows.laid_strata_circuit_kinds)] W) : KindsAt W := by
  have h : laidMet Tryd.prog [("strata/circuit.kinds", Rows.laid_strata_circuit_kinds)] W := h0
  obtain ⟨ps, hl, _⟩ := h
  obtain ⟨g, t, cs, f, p, q, hg0, ht0, hv0, hd0, _, _⟩ := hl
  have hg : Tryd.prog.globalNamed "strata/circuit.kinds" = some 0 := by kernel_rfl
  obtain rfl := Option.some.inj (hg.symm.trans hg0)
  have ht : (Tryd.prog.globals[0]?).map (·.type) = some 138 := by kernel_rfl
  obtain rfl := Option.some.inj (ht.symm.trans ht0)
  obtain ⟨xs, m, e1, e2, hcl, hxs, hall⟩ := DataW.trod_array Tryd.underlying138 hd0
  have hc : ∀ j, W.cell? ⟨0, j, none⟩ = cs.toList[j]? := fun j => by simpa using World.var?_cell hg0 hv0 j
  have hd := congrArg Prod.fst e2
  simp only [Rows.laid_strata_circuit_kinds, DataW.agg.injEq] at hd
  have hlen : cs.toList.length = 15 := by rw [hcl]; exact cells138
  match xs, hxs with
  | [x0, x1, x2, x3, x4], _ =>
  simp at hd
  obtain ⟨_, y1, y2, y3, y4⟩ := hd
  have t1 := hall 1 (by omega)
  have t2 := hall 2 (by omega)
  have t3 := hall 3 (by omega)
  have t4 := hall 4 (by omega)
  rw [cells137] at t1 t2 t3 t4
  obtain ⟨a1, b1⟩ := kind_cells t1 y1.symm
  obtain ⟨a2, b2⟩ := kind_cells t2 y2.symm
  obtain ⟨a3, b3⟩ := kind_cells t3 y3.symm
  obtain ⟨a4, b4⟩ := kind_cells t4 y4.symm
  simp only [List.getElem?_take, List.getElem?_drop] at a1 a2 a3 a4 b1 b2 b3 b4
  simp at a1 a2 a3 a4 b1 b2 b3 b4
  refine ⟨?_, fun k h1 h4 => ?_, fun k h1 h4 => ?_⟩
  · have h5 : W.cell? ⟨0, 0, none⟩ = some (cs.toList[0]'(by omega)) := by rw [hc]; exact List.getElem?_eq_getElem _
    exact World.block_lt_of_cell? W _ h5
  · rw [hc]
    have : k = 1 ∨ k = 2 ∨ k = 3 ∨ k = 4 := by omega
    rcases this with rfl | rfl | rfl | rfl <;> simpa [mostN]
  · rw [hc]
    have : k = 1 ∨ k = 2 ∨ k = 3 ∨ k = 4 := by omega
    rcases this with rfl | rfl | rfl | rfl <;> simpa [usesN]
end Go.Proofs.YtfmmmhcpdinhgaaDoor
