/-
  The program's Step.
-/
import Derived.Test.YtfmmmhcpdinhgaaDoorQ3
namespace Go.Proofs.YtfmmmhcpdinhgaaDoor
open Go.RowKit Go.Deep PureNet ShfKit
set_option maxRecDepth 100000

/-- what a step of a player comes to, told by values. -/
theorem play_step (c : Net) (d : Pn) (v0 ins las v : List Bool) (si sl : Option Addr) (ci cl : Nat) (W : World) (hf : PureNet.Formed c) (hG : Good d) (hdc : d.c = c) (hdi : d.ins = kpTo 1 c.gates c.gates.length) (hdl : d.las = kpTo 3 c.gates c.gates.length) (hds : d.srcs = srcsTo c.gates c.gates.length) (hnd : d.ord.Nodup) (hall : ∀ x, x < c.gates.length → x ∈ d.ord) (hord : ∀ (i x y : Nat), d.ord[i]? = some x → Leans c.gates x y → ∃ j, j < i ∧ d.ord[j]? = some y)
    (hP : Pl W d v0) (hI : CellsAt W si (bo ins)) (hL : CellsAt W sl (bo las)) (hil : ins.length = cnt 1 c.gates) (hll : las.length = cnt 3 c.gates) (hfI : Off (bo ins) si d.vb) (hfL : Off (bo las) sl d.vb) (hv : Vals c.gates ins las v) :
    Calls Tryd.prog 43 #[.pointer (some ⟨d.p, 0, none⟩), .slice si ins.length ci, .slice sl las.length cl] W fun e w' => ∃ b1 b2, e = .returned (.tuple #[.slice (some ⟨b1, 0, none⟩) (outsOf c v).length (outsOf c v).length, .slice (some ⟨b2, 0, none⟩) (nextOf c v).length (nextOf c v).length]) ∧ W.heap.size ≤ b1 ∧ W.heap.size ≤ b2 ∧
      w'.heap[b1]? = some (.cells (bo (outsOf c v)).toArray 4 (0, 0)) ∧ w'.heap[b2]? = some (.cells (bo (nextOf c v)).toArray 4 (0, 0)) ∧ Pl w' d v ∧ W.grownBy w' (some d.vb) := by
  have h1 : d.ins.length = ins.length := by rw [hdi, kpTo_len 1 c.gates _ (Nat.le_refl _), List.take_length, hil]
  have h3 : d.las.length = las.length := by rw [hdl, kpTo_len 3 c.gates _ (Nat.le_refl _), List.take_length, hll]
  have hs := step_ok d v0 ins las si sl ci cl W hP hI hL h1.symm h3.symm hfI hfL hG
  have hvl : v0.length = c.gates.length := by rw [← hdc]; exact hP.len
  have hpv := play_vals (v0 := v0) (fun i g hg => (hf.lines i g hg).2) hall hnd hord hil hll hvl
  have hu := hf.unique hpv hv
  rw [hdc, hdi, hdl, hu] at hs
  rw [← hdi, ← hdl, h1, h3] at hs
  refine hs.mono ?_
  rintro e w' ⟨b1, b2, rfl, hb1, hb2, hr1, hr2, hp, hg⟩
  have e1 : c.outs.map (valAt v) = outsOf c v := rfl
  have e2 : d.srcs.map (valAt v) = nextOf c v := by
    rw [hds, srcsTo_eq c.gates _ (Nat.le_refl _), List.take_length, nextOf, List.map_map]
    rfl
  rw [e1] at hr1
  rw [e2] at hr2
  have l1 : (outsOf c v).length = c.outs.length := by simp [outsOf]
  have l2 : (nextOf c v).length = d.srcs.length := by rw [← e2, List.length_map]
  exact ⟨b1, b2, by rw [l1, l2], hb1, hb2, hr1, hr2, hp, hg⟩

set_option maxHeartbeats 2000000 in
theorem step_landed : StepOk 15 := by
  intro c sg so cg co ins las v si sl ci cl w hc hkd hf hI hL hil hll hv
  obtain ⟨x, hx⟩ : ∃ x, x = w.alloc (Obj.cells #[Value.string c.name, Value.slice sg c.gates.length cg, Value.slice so c.outs.length co] 26) := ⟨_, rfl⟩
  have RX : Hid (x.heap[w.heap.size]? = some (.cells #[Value.string c.name, Value.slice sg c.gates.length cg, Value.slice so c.outs.length co] 26 (0, 0))) := by rw [hx]; exact heap_alloc_new w _
  have BX : Hid (Below w.heap.size w x) := by rw [hx]; exact (Below.refl _ _).alloc (Nat.le_refl _) _
  have CE : Hid (∀ W, Below x.heap.size x W → (∀ j, W.cell? ⟨w.heap.size, j, none⟩ = (#[Value.string c.name, Value.slice sg c.gates.length cg, Value.slice so c.outs.length co] : Array Value)[j]?) ∧ w.heap.size < W.heap.size) := fun W hW => by
    have h2 := (hW.block _ (Array.getElem?_eq_some_iff.1 RX.out).1).trans RX.out
    exact ⟨fun j => cell_row h2 j, (Array.getElem?_eq_some_iff.1 h2).1⟩
  have C1 := hid (formed_ok c sg so cg co x (hc.below BX.out) (hkd.on BX.out) hf)
  have C2 : Hid (∀ W, Below x.heap.size x W → _) := fun W hW => newPlayer_ok c sg so cg co W ((hc.below BX.out).below hW) ((hkd.on BX.out).on hW) hf
  have HF := hid hf
  have HI := hid hI
  have HL := hid hL
  have HV := hid hv
  have HIL := hid hil
  have HLL := hid hll
  obtain ⟨d0, hb0⟩ := CE.out x (Below.refl _ _)
  have HX := hid hx
  clear hx hc hkd hf hI hL hv hil hll
  go_enter Tryd.func15, Tryd.ntmps15
  go_wp2_with (first
    | (rw [← HX.out])
    | (have q := B2; clear q; go_at_call 43; refine Calls.mono ST.out ?_; rintro e w3 ⟨b1, b2, rfl, hb1, hb2, hr1, hr2, hpl3, hg3⟩; have E3 := hid (And.intro hb1 (And.intro hb2 (And.intro hr1 (And.intro hr2 hg3)))); clear hb1 hb2 hr1 hr2 hpl3 hg3)
    | (go_at_call 40; refine Calls.mono (C2.out w1 B1.out) ?_; rintro e w2 ⟨d, rfl, hpl, hgd, b2, hvb, hdc, hdi, hdl, hds, hnd, hall, hord⟩; have hB2 : Below w.heap.size w w2 := BX.out.trans ((B1.out.trans (b2.mono B1.out.size)).mono BX.out.size); have B2 := hid hB2; have hvbw : w.heap.size ≤ d.vb := Nat.le_trans BX.out.size (Nat.le_trans B1.out.size hvb); have VB := hid hvbw; have h1 : d.ins.length = ins.length := (by rw [hdi, kpTo_len 1 c.gates _ (Nat.le_refl _), List.take_length, HIL.out]); have h3 : d.las.length = las.length := (by rw [hdl, kpTo_len 3 c.gates _ (Nat.le_refl _), List.take_length, HLL.out]); have k2 := hpl.cell 2; have k3 := hpl.cell 3; rw [h1] at k2; rw [h3] at k3; have hp2 := hpl.size; have ST := hid (play_step c d _ ins las v si sl ci cl w2 HF.out hgd hdc hdi hdl hds hnd hall hord hpl (HI.out.below hB2) (HL.out.below hB2) HIL.out HLL.out (off_base HI.out hvbw) (off_base HL.out hvbw) HV.out); clear hpl hgd b2 hvb hdc hdi hdl hds hnd hall hord hB2 hvbw h1 h3)
    | (go_at_call 26; refine Calls.mono C1.out ?_; rintro e w1 ⟨rfl, b1⟩; have B1 : Hid (Below x.heap.size x w1) := b1; obtain ⟨d1, hb1⟩ := CE.out w1 B1.out; clear b1))
  obtain ⟨_, _, hr1, hr2, hg⟩ := E3.out
  have hB := B2.out.grown hg B2.out.size (fun j hj => by cases hj; exact VB.out)
  exact bodyPost_ret (v := .tuple #[.slice (some ⟨b1, 0, none⟩) (outsOf c v).length (outsOf c v).length, .slice (some ⟨b2, 0, none⟩) (nextOf c v).length (nextOf c v).length, .int .i64 0]) (by simp [results, Tryd.results15, go_sem]) rfl ⟨⟨_, _, _, _, rfl, row_cells hr1, row_cells hr2⟩, hB⟩
end Go.Proofs.YtfmmmhcpdinhgaaDoor
