/-
  CircuitBlind: lines of a row turned; what stays.
-/
import Derived.Test.YtfmmmhcpdinhgaaDoorB1
import Derived.Test.YtfmmmhcpdinhgaaDoorB2
import Derived.Test.YtfmmmhcpdinhgaaDoorLiv
namespace Go.Proofs.YtfmmmhcpdinhgaaDoor
open Go.RowKit Go.Deep PureNet
set_option maxRecDepth 100000

theorem gas_op (D : List Ga) (k : Nat) (g : Ga) (u : Int) (hg : D[k]? = some g) : (gas D).set (k * 6 + 2) (.int .i64 u) = gas (D.set k { g with op := u }) := by
  have hk := (List.getElem?_eq_some_iff.1 hg).1
  apply List.ext_getElem?
  intro i
  by_cases hi : i < D.length * 6
  · have h := gas_at (D.set k { g with op := u }) (i / 6) (i % 6) (by simp; omega) (by omega)
    have h0 := gas_at D (i / 6) (i % 6) (by omega) (by omega)
    rw [show i / 6 * 6 + i % 6 = i by omega] at h h0
    rw [h]
    by_cases e : i / 6 = k
    · have e3 : (D.set k { g with op := u })[i / 6]'(by simp; omega) = { g with op := u } := by simp [e]
      have e4 : D[i / 6]'(by omega) = g := by
        have := (List.getElem?_eq_some_iff.1 hg).2
        simpa [e] using this
      rw [e3]
      rw [e4] at h0
      by_cases e2 : i % 6 = 2
      · rw [show i = k * 6 + 2 by omega, List.getElem?_set_self (by rw [gas_length]; omega), show (k * 6 + 2) % 6 = 2 by omega]
        rfl
      · rw [List.getElem?_set_ne (by omega), h0]
        have h6 : i % 6 = 0 ∨ i % 6 = 1 ∨ i % 6 = 3 ∨ i % 6 = 4 ∨ i % 6 = 5 := by omega
        rcases h6 with h6 | h6 | h6 | h6 | h6 <;> rw [h6] <;> rfl
    · have e3 : (D.set k { g with op := u })[i / 6]'(by simp; omega) = D[i / 6]'(by omega) := by rw [List.getElem_set_ne (fun x => e x.symm)]
      rw [e3, ← h0, List.getElem?_set_ne (by omega)]
  · rw [List.getElem?_eq_none (by rw [List.length_set, gas_length]; omega), List.getElem?_eq_none (by rw [gas_length, List.length_set]; omega)]
/-- a line's operator written over in a row that is owned. -/
theorem own_op {W : World} {B gb n cap : Nat} {D : List Ga} (h : W.ownsRow B 38 6 (.slice (some ⟨gb, 0, none⟩) n cap) D.length (gas D)) (k : Nat) (g : Ga) (u : Int) (hg : D[k]? = some g) :
    (W.setCell ⟨gb, k * 6 + 2, none⟩ (.int .i64 u)).ownsRow B 38 6 (.slice (some ⟨gb, 0, none⟩) n cap) D.length (gas (D.set k { g with op := u })) := by
  have hl := h.1
  rcases h.2 with ⟨h1, _⟩ | ⟨g', cap', cur, hv, hB, hrow, hn, hc, hs, ht⟩
  · simp at h1
  · simp only [Value.slice.injEq, Option.some.injEq, Addr.mk.injEq, and_true] at hv
    obtain ⟨rfl, rfl, rfl⟩ := hv
    refine ⟨by rw [← gas_op D k g u hg, List.length_set]; exact hl, .inr ⟨gb, cap, cur.setIfInBounds (k * 6 + 2) (.int .i64 u), rfl, hB, row_set hrow, hn, hc, by simpa using hs, ?_⟩⟩
    have e1 := congrArg (fun l => l.set (k * 6 + 2) (Value.int .i64 u)) ht
    simp only [List.take_set, Array.toList_setIfInBounds] at e1 ⊢
    rw [e1]
    exact gas_op D k g u hg
/-- its block. -/
theorem own_block {W : World} {B gb n cap : Nat} {D : List Ga} (h : W.ownsRow B 38 6 (.slice (some ⟨gb, 0, none⟩) n cap) D.length (gas D)) : (∃ cur, W.heap[gb]? = some (.cells cur 38 (0, 0))) ∧ B ≤ gb := by
  rcases h.2 with ⟨h1, _⟩ | ⟨g', cap', cur, hv, hB, hrow, _⟩
  · simp at h1
  · simp only [Value.slice.injEq, Option.some.injEq, Addr.mk.injEq, and_true] at hv
    obtain ⟨rfl, rfl, rfl⟩ := hv
    exact ⟨⟨cur, hrow⟩, hB⟩
theorem LsMk.keep {w W W' : World} {v : Value} {xs : List (Nat × List Bool)} (h : LsMk w W v xs) {gb : Nat} {cur : Array Value} (hr : W.heap[gb]? = some (.cells cur 38 (0, 0))) (hg : W.grownBy W' (some gb)) : ∃ s k, v = .slice s xs.length k ∧ ListsAt W' s (xs.map Prod.snd) := by
  have hne : v.ownBlock ≠ some gb := own_ne h.row.own hr (by decide)
  have ho : W'.ownsRow w.heap.size 29 1 v xs.length (xs.map fun p => .slice (some ⟨p.1, 0, none⟩) p.2.length p.2.length) := h.row.own.kept hg (by
    cases hv : v.ownBlock with
    | none => exact .inl rfl
    | some g => right; intro e; exact hne (by rw [hv, e]))
  obtain ⟨sa, c, hv, hc, hn, _⟩ := own_cells ho
  refine ⟨sa, c, hv, ⟨fun k l hl => ?_⟩⟩
  simp only [List.getElem?_map, Option.map_eq_some_iff] at hl
  obtain ⟨p, hp, rfl⟩ := hl
  obtain ⟨g, o, e, hgs, hcell⟩ := hc.at_ k (.slice (some ⟨p.1, 0, none⟩) p.2.length p.2.length) (by simp [List.getElem?_map, hp])
  have hrow := h.at_ p (List.mem_of_getElem? hp)
  have hpg : p.1 ≠ gb := fun e => by
    rw [e, hr] at hrow
    simp at hrow
  have hrow' := (hg.block p.1 (Array.getElem?_eq_some_iff.1 hrow).1 (fun e => hpg (by simpa using e))).trans hrow
  exact ⟨g, o, _, _, e, hgs, hcell, row_cells hrow', fun e => by cases e⟩
theorem CellsAt.grown {W W' : World} {s : Option Addr} {xs : List Value} {gb : Nat} (h : CellsAt W s xs) (hg : W.grownBy W' (some gb)) (hne : ∀ b o sp, s = some ⟨b, o, sp⟩ → b ≠ gb) : CellsAt W' s xs := ⟨fun k x hx => by
  obtain ⟨b, o, e, hb, c⟩ := h.at_ k x hx
  refine ⟨b, o, e, Nat.lt_of_lt_of_le hb hg.size, ?_⟩
  rw [← c]
  exact World.cell?_of_block (hg.block b hb (fun e2 => hne b o none e (by simpa using e2)))⟩
theorem ListsNew.grown {W W' : World} {B : Nat} {s : Option Addr} {L : List (List Bool)} {gb : Nat} (h : ListsNew W B s L) (hg : W.grownBy W' (some gb)) (hB : gb < B) : ListsAt W' s L := ⟨fun k l hl => by
  obtain ⟨g, o, sb, cb, e, hBg, hgs, c, hc, hn, hb⟩ := h.at_ k l hl
  refine ⟨g, o, sb, cb, e, Nat.lt_of_lt_of_le hgs hg.size, ?_, hc.grown hg (fun b o' sp e2 => by have := hb b o' sp e2; omega), hn⟩
  rw [← c]
  exact World.cell?_of_block (hg.block g hgs (fun e2 => by
    have e3 : g = gb := by simpa using e2
    omega))⟩
theorem ListsNew.below {w W : World} {B : Nat} {s : Option Addr} {L : List (List Bool)} (h : ListsNew w B s L) (hb : Below w.heap.size w W) : ListsNew W B s L := ⟨fun k l hl => by
  obtain ⟨g, o, sb, cb, e, hBg, hgs, c, hc, hn, h2⟩ := h.at_ k l hl
  exact ⟨g, o, sb, cb, e, hBg, Nat.lt_of_lt_of_le hgs hb.size, below_cell hb hgs c, hc.below hb, hn, h2⟩⟩
end Go.Proofs.YtfmmmhcpdinhgaaDoor
