/-
  CircuitMeans: the contracts asked of the program, lists of lists in the making.
-/
import Derived.Test.YtfmmmhcpdinhgaaDoorA3
import Derived.Test.YtfmmmhcpdinhgaaDoorA4
import Derived.Test.YtfmmmhcpdinhgaaDoorKin
namespace Go.Proofs.YtfmmmhcpdinhgaaDoor
open Go.RowKit Go.Deep PureNet
set_option maxRecDepth 100000

/-- what First answers of a formed circuit. -/
def FirstOk (f : Nat) : Prop := ∀ (c : Net) (sg so : Option Addr) (cg co : Nat) (w : World), CirAt w c sg so → KindsAt w → Formed c →
  Calls Tryd.prog f #[cirV c sg cg so co] w fun e w' => (∃ s k, e = .returned (.tuple #[.slice s (firstsOf c.gates).length k, .int .i64 0]) ∧ CellsAt w' s (bo (firstsOf c.gates)) ∧ (s = none → k = 0)) ∧ Below w.heap.size w w'
/-- what Step answers of a formed circuit, with as many truths as it asks for. -/
def StepOk (f : Nat) : Prop := ∀ (c : Net) (sg so : Option Addr) (cg co : Nat) (ins las v : List Bool) (si sl : Option Addr) (ci cl : Nat) (w : World), CirAt w c sg so → KindsAt w → Formed c → CellsAt w si (bo ins) → CellsAt w sl (bo las) → ins.length = cnt 1 c.gates → las.length = cnt 3 c.gates → Vals c.gates ins las v →
  Calls Tryd.prog f #[cirV c sg cg so co, .slice si ins.length ci, .slice sl las.length cl] w fun e w' => (∃ s1 k1 s2 k2, e = .returned (.tuple #[.slice s1 (outsOf c v).length k1, .slice s2 (nextOf c v).length k2, .int .i64 0]) ∧ CellsAt w' s1 (bo (outsOf c v)) ∧ CellsAt w' s2 (bo (nextOf c v))) ∧ Below w.heap.size w w'
/-- a list of lists of truths that can be read there, all of it in blocks from B on. -/
structure ListsNew (W : World) (B : Nat) (s : Option Addr) (L : List (List Bool)) : Prop where
  at_ : ∀ (k : Nat) (l : List Bool), L[k]? = some l → ∃ g o sb cb, s = some ⟨g, o, none⟩ ∧ B ≤ g ∧ g < W.heap.size ∧ W.cell? ⟨g, o + k, none⟩ = some (.slice sb l.length cb) ∧ CellsAt W sb (bo l) ∧ (sb = none → cb = 0) ∧ ∀ b o' sp, sb = some ⟨b, o', sp⟩ → B ≤ b
theorem ListsNew.lists {W : World} {B : Nat} {s : Option Addr} {L : List (List Bool)} (h : ListsNew W B s L) : ListsAt W s L := ⟨fun k l hl => by
  obtain ⟨g, o, sb, cb, e, _, hg, c, hc, hn, _⟩ := h.at_ k l hl
  exact ⟨g, o, sb, cb, e, hg, c, hc, hn⟩⟩
/-- what Run answers of a formed circuit, with as many truths at each step as it asks for. -/
def RunOk (f : Nat) : Prop := ∀ (c : Net) (sg so : Option Addr) (cg co : Nat) (is os : List (List Bool)) (si : Option Addr) (ci : Nat) (w : World), CirAt w c sg so → KindsAt w → Formed c → ListsAt w si is → (∀ l ∈ is, l.length = cnt 1 c.gates) → is.length ≤ 5864062014634 → RunP c (firstsOf c.gates) is os →
  Calls Tryd.prog f #[cirV c sg cg so co, .slice si is.length ci] w fun e w' => (∃ s k, e = .returned (.tuple #[.slice s os.length k, .int .i64 0]) ∧ ListsNew w' w.heap.size s os) ∧ Below w.heap.size w w'

theorem firsts_len (l : List Ga) : (firstsOf l).length = cnt 3 l := by simp [firstsOf, cnt]
theorem next_len (c : Net) (v : List Bool) : (nextOf c v).length = cnt 3 c.gates := by simp [nextOf, cnt]

/-- a list of lists of truths in the making since w, each in a block of its own. -/
structure LsMk (w W : World) (v : Value) (xs : List (Nat × List Bool)) : Prop where
  row : Mk w W 29 1 v xs.length (xs.map fun p => .slice (some ⟨p.1, 0, none⟩) p.2.length p.2.length)
  at_ : ∀ p ∈ xs, W.heap[p.1]? = some (.cells (bo p.2).toArray 4 (0, 0))
theorem LsMk.nil (w : World) : LsMk w w (.slice none 0 0) [] := ⟨Mk.nil _ _ _, fun p hp => by cases hp⟩
theorem LsMk.on {w W W' : World} {v : Value} {xs : List (Nat × List Bool)} (h : LsMk w W v xs) (hb : Below W.heap.size W W') : LsMk w W' v xs :=
  ⟨h.row.on hb, fun p hp => (hb.block _ (Array.getElem?_eq_some_iff.1 (h.at_ p hp)).1).trans (h.at_ p hp)⟩
theorem LsMk.grow {w W W' : World} {v v' : Value} {xs : List (Nat × List Bool)} (h : LsMk w W v xs) (b : Nat) (l : List Bool) (hb : W.heap[b]? = some (.cells (bo l).toArray 4 (0, 0))) (hg : W.grownBy W' v.ownBlock)
    (hm : Mk w W' 29 1 v' (xs.length + 1) ((xs.map fun p => .slice (some ⟨p.1, 0, none⟩) p.2.length p.2.length) ++ [.slice (some ⟨b, 0, none⟩) l.length l.length])) : LsMk w W' v' (xs ++ [(b, l)]) := by
  have keep : ∀ (q : Nat) (m : List Bool), W.heap[q]? = some (.cells (bo m).toArray 4 (0, 0)) → W'.heap[q]? = some (.cells (bo m).toArray 4 (0, 0)) := fun q m hq =>
    (hg.block q (Array.getElem?_eq_some_iff.1 hq).1 (Ne.symm (own_ne h.row.own hq (by decide)))).trans hq
  refine ⟨by rw [List.length_append, List.map_append]; exact hm, fun p hp => ?_⟩
  rcases List.mem_append.1 hp with hp | hp
  · exact keep _ _ (h.at_ p hp)
  · obtain rfl : p = (b, l) := by simpa using hp
    exact keep _ _ hb
theorem LsMk.lists {w W : World} {v : Value} {xs : List (Nat × List Bool)} (h : LsMk w W v xs) : ∃ s k, v = .slice s xs.length k ∧ ListsAt W s (xs.map Prod.snd) ∧ (s = none → k = 0) := by
  obtain ⟨sa, c, hv, hc, hn, _⟩ := own_cells h.row.own
  refine ⟨sa, c, hv, ⟨fun k l hl => ?_⟩, hn⟩
  simp only [List.getElem?_map, Option.map_eq_some_iff] at hl
  obtain ⟨p, hp, rfl⟩ := hl
  obtain ⟨g, o, e, hg, hcell⟩ := hc.at_ k (.slice (some ⟨p.1, 0, none⟩) p.2.length p.2.length) (by simp [List.getElem?_map, hp])
  exact ⟨g, o, _, _, e, hg, hcell, row_cells (h.at_ p (List.mem_of_getElem? hp)), fun e => by cases e⟩
end Go.Proofs.YtfmmmhcpdinhgaaDoor
