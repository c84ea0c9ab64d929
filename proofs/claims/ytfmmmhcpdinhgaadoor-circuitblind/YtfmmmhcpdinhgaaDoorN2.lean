/-
  The program's within, named.
-/
import Derived.Test.YtfmmmhcpdinhgaaDoorN1
import Derived.Test.YtfmmmhcpdinhgaaDoorKin
import Derived.Maps.OwnSet
import Derived.Maps.Views
import Derived.Maps.OwnOps
import Derived.StringKeys
namespace Go.Proofs.YtfmmmhcpdinhgaaDoor
open Go.RowKit Go.Deep PureNet Go.Maps Go.WideShapes
set_option maxRecDepth 100000

set_option maxHeartbeats 1000000 in
theorem within_ok (c : Net) (sg so : Option Addr) (cg co : Nat) (w : World) (hl : c.gates.length ≤ 65536) (ho : c.outs.length ≤ 65536) :
    Calls Tryd.prog 50 #[cirV c sg cg so co] w fun e w' => e = .returned (.bool true) ∧ Below w.heap.size w w' := by
  have h1 : (c.gates.length : Int) ≤ 65536 := by omega
  have h2 : (c.outs.length : Int) ≤ 65536 := by omega
  go_enter Tryd.func50, Tryd.ntmps50
  go_wp2
  go_ret
  exact ⟨rfl, (Below.refl _ _).alloc (Nat.le_refl _) _⟩

/-- the names of the first lines, in a map. -/
structure Nam (x W : World) (l : List Ga) (i : Nat) (D : DataW Unit) : Prop where
  own : W.ownsMap Tryd.prog 9 (plainElem Tryd.prog 3) x.heap.size i D
  size : Maps.size D = i
  tidy : Tidy D
  only : ∀ s : List UInt8, has D (.string s) = true → ∃ j g, j < i ∧ l[j]? = some g ∧ s = g.name.data.toList
  below : Below x.heap.size x W
theorem Nam.start (x : World) (l : List Ga) : Nam x (x.alloc (.map #[] 0)) l 0 (.map []) :=
  ⟨World.ownsMap_made x _ _ _, rfl, tidy_empty, fun s h => by simp [has] at h, (Below.refl _ _).alloc (Nat.le_refl _) _⟩

set_option maxHeartbeats 2000000 in
theorem named_ok (c : Net) (sg so : Option Addr) (cg co : Nat) (w : World) (hc : CellsAt w sg (gas c.gates)) (hf : PureNet.Formed c) :
    Calls Tryd.prog 51 #[cirV c sg cg so co] w fun e w' => e = .returned (.bool true) ∧ Below w.heap.size w w' := by
  have short : ∀ s : ByteArray, nameB s = true → s.size ≤ 32 := fun s h => by
    apply Classical.byContradiction
    intro hn
    rw [nameB_long s (by omega)] at h
    cases h
  have HC := hid hc
  have HF := hid hf
  have hfew := hf.few
  have NC : Hid (∀ W, Calls Tryd.prog 78 #[.string c.name] W fun e w' => e = .returned (.bool true) ∧ w' = W) := fun W => by
    have := isName_any c.name W (by have := short _ hf.name; omega)
    rw [hf.name] at this
    exact this
  have NG : Hid (∀ (i : Nat) (g : Ga), c.gates[i]? = some g → g.name.size ≤ 32 ∧ ∀ W, Calls Tryd.prog 78 #[.string g.name] W fun e w' => e = .returned (.bool true) ∧ w' = W) := fun i g hg => ⟨short _ (hf.lines i g hg).1, fun W => by
    have := isName_any g.name W (by have := short _ (hf.lines i g hg).1; omega)
    rw [(hf.lines i g hg).1] at this
    exact this⟩
  clear hc hf short
  obtain ⟨x, hx⟩ : ∃ x, x = w.alloc (Obj.cells #[Value.string c.name, Value.slice sg c.gates.length cg, Value.slice so c.outs.length co] 26) := ⟨_, rfl⟩
  have RX : Hid (x.heap[w.heap.size]? = some (.cells #[Value.string c.name, Value.slice sg c.gates.length cg, Value.slice so c.outs.length co] 26 (0, 0))) := by rw [hx]; exact heap_alloc_new w _
  have BX : Hid (Below w.heap.size w x) := by rw [hx]; exact (Below.refl _ _).alloc (Nat.le_refl _) _
  have HX := hid hx
  clear hx
  have hmm := @run_makeMap Tryd.prog
  have cx := fun j => cell_row RX.out j
  have hbx := (Array.getElem?_eq_some_iff.1 RX.out).1
  go_enter Tryd.func51, Tryd.ntmps51
  go_wp2_with (rw [← HX.out])
  obtain ⟨y, hy⟩ : ∃ y, y = x.alloc (.map #[] 0) := ⟨_, rfl⟩
  have N0 : Hid (Nam x y c.gates 0 (.map [])) := by rw [hy]; exact Nam.start x _
  try rw [← hy]
  clear hy hmm cx hbx
  go_loopw [10] (fun iv W => ∃ i : Nat, i ≤ c.gates.length ∧ iv = .int .i64 (i : Int) ∧ Hid (∃ D, Nam x W c.gates i D)) (fun iv _ => c.gates.length - (intOf iv).toNat)
  case atStart => exact ⟨0, Nat.zero_le _, rfl, _, N0.out⟩
  case round =>
    clear N0
    obtain ⟨i, hi, rfl, HR⟩ := hrel
    obtain ⟨D, hN⟩ := HR.out
    clear HR
    have hwr : Below w.heap.size w wr := BX.out.trans (hN.below.mono BX.out.size)
    have hrow := (hN.below.block _ (Array.getElem?_eq_some_iff.1 RX.out).1).trans RX.out
    have c0 := fun j => cell_row hrow j
    have hb0 := (Array.getElem?_eq_some_iff.1 hrow).1
    have NM := hid hN
    have BW := hid hwr
    by_cases hlt : i < c.gates.length
    · obtain ⟨g, hg⟩ : ∃ g, c.gates[i]? = some g := ⟨_, List.getElem?_eq_getElem hlt⟩
      obtain ⟨b, o, rfl, hb, d0, d1, d2, d3, d4, d5⟩ := gate_at (HC.out.below hwr) i g hg
      have NI := hid ((NG.out i g hg).2)
      have hsz : g.name.size ≤ maxLen := by have := (NG.out i g hg).1; unfold maxLen; omega
      have HK := hid (WideMaps.keyOf_string_mk (P := Tryd.prog) Tryd.underlying9 hsz)
      have HV : Hid (plainElem (H := Unit) Tryd.prog 3 (.int .i64 (i : Int)) = some (.lit (.int .i64 (i : Int)), [])) := plainElem_int Tryd.underlying3 (by
        have e1 : IntKind.i64.min = -9223372036854775808 := rfl
        have e2 : IntKind.i64.max = 9223372036854775807 := rfl
        simp [Lit.wf, e1, e2]
        omega)
      have HH : Hid (has D (.string g.name.data.toList) = false) := by
        show _ = _
        cases h : has D (.string g.name.data.toList) with
        | false => rfl
        | true =>
          obtain ⟨j, g2, hj, hg2, e⟩ := hN.only _ h
          have e2 : g.name = g2.name := by
            have h1 : g.name.data = g2.name.data := by
              apply Array.ext'
              exact e
            cases hgn : g.name
            cases hgn2 : g2.name
            rw [hgn, hgn2] at h1
            exact congrArg _ h1
          have := HF.out.apart i j g g2 hg hg2 e2
          omega
      have HG := hid hg
      clear hN hwr hrow hg
      go_wp2_with (first | (go_at_call 78; refine Calls.mono (NI.out _) ?_; rintro e w2 ⟨rfl, rfl⟩) | (at_mapUpdate; refine wpList_mapUpdate_own _ rfl _ _ _ 110 rfl 9 3 (string_keyed Tryd.underlying9) Tryd.underlying110 _ x.heap.size i D rfl (NM.out.own.alloc _) (by unfold maxLen; omega) _ _ (.string g.name.data.toList) rfl rfl HK.out (.lit (.int .i64 (i : Int))) [] HV.out ?_; intro w2 hown2 hg2; have OW := hid hown2; have GR := hid hg2; clear hown2 hg2))
      refine ⟨⟨i + 1, hlt, by go_num, _, OW.out, ?_, OW.out.tidy (string_keyed Tryd.underlying9), fun s hs => ?_, ?_⟩, by simp [intOf]; omega⟩
      · rw [size_put NM.out.tidy, HH.out, NM.out.size]
        rfl
      · by_cases e : (Lit.string s) = .string g.name.data.toList
        · exact ⟨i, g, by omega, HG.out, by simpa using e⟩
        · rw [has_put_other e] at hs
          obtain ⟨j, g2, hj, hg2, e2⟩ := NM.out.only s hs
          exact ⟨j, g2, by omega, hg2, e2⟩
      · exact (NM.out.below.alloc NM.out.below.size _).grown GR.out (by have := NM.out.below.size; simp; omega) (fun j hj => by cases hj; exact Nat.le_refl _)
    · have hin : i = c.gates.length := by omega
      have hlen := fun ty => hN.own.len Tryd.underlying110 ty
      rw [hN.size, hin] at hlen
      clear hN hwr hrow
      go_wp2_with (first | (go_at_call 78; refine Calls.mono (NC.out _) ?_; rintro e w2 ⟨rfl, rfl⟩))

      go_ret
      exact ⟨rfl, BW.out⟩
end Go.Proofs.YtfmmmhcpdinhgaaDoor
