/-
  The program's Formed, First.
-/
import Derived.Test.YtfmmmhcpdinhgaaDoorN2
import Derived.Test.YtfmmmhcpdinhgaaDoorN3
import Derived.Test.YtfmmmhcpdinhgaaDoorS9
import Derived.Test.YtfmmmhcpdinhgaaDoorP1
import Derived.Test.YtfmmmhcpdinhgaaDoorA5
namespace Go.Proofs.YtfmmmhcpdinhgaaDoor
open Go.RowKit Go.Deep PureNet
set_option maxRecDepth 100000

theorem formed_lines {c : Net} (hf : PureNet.Formed c) : ∀ (i : Nat) (g : Ga), c.gates[i]? = some g → (1 ≤ g.kind ∧ g.kind ≤ 4) ∧ ∀ a ∈ leansOn g, 0 ≤ a ∧ a < (c.gates.length : Int) :=
  fun i g hg => ⟨lineB_kind (hf.lines i g hg).2, fun _ ha => lineB_leans (hf.lines i g hg).2 ha⟩

set_option maxHeartbeats 2000000 in
theorem formed_ok (c : Net) (sg so : Option Addr) (cg co : Nat) (w : World) (hc : CirAt w c sg so) (hkd : KindsAt w) (hf : PureNet.Formed c) :
    Calls Tryd.prog 26 #[cirV c sg cg so co] w fun e w' => e = .returned (.bool true) ∧ Below w.heap.size w w' := by
  obtain ⟨x, hx⟩ : ∃ x, x = w.alloc (Obj.cells #[Value.string c.name, Value.slice sg c.gates.length cg, Value.slice so c.outs.length co] 26) := ⟨_, rfl⟩
  have RX : Hid (x.heap[w.heap.size]? = some (.cells #[Value.string c.name, Value.slice sg c.gates.length cg, Value.slice so c.outs.length co] 26 (0, 0))) := by rw [hx]; exact heap_alloc_new w _
  have BX : Hid (Below w.heap.size w x) := by rw [hx]; exact (Below.refl _ _).alloc (Nat.le_refl _) _
  have CE : Hid (∀ W, Below x.heap.size x W → (∀ j, W.cell? ⟨w.heap.size, j, none⟩ = (#[Value.string c.name, Value.slice sg c.gates.length cg, Value.slice so c.outs.length co] : Array Value)[j]?) ∧ w.heap.size < W.heap.size) := fun W hW => by
    have h2 := (hW.block _ (Array.getElem?_eq_some_iff.1 RX.out).1).trans RX.out
    exact ⟨fun j => cell_row h2 j, (Array.getElem?_eq_some_iff.1 h2).1⟩
  have C1 := hid (within_ok c sg so cg co x hf.few hf.fewOuts)
  have C2 : Hid (∀ W, Below x.heap.size x W → _) := fun W hW => named_ok c sg so cg co W ((hc.below BX.out).below hW).gates hf
  have C3 : Hid (∀ W, Below x.heap.size x W → _) := fun W hW => placed_ok c sg so cg co W ((hc.below BX.out).below hW) ((hkd.on BX.out).on hW) hf
  have C4 : Hid (∀ W, Below x.heap.size x W → _) := fun W hW => firstInCircle_any c.gates sg cg c.gates.length W ((hc.below BX.out).below hW).gates ((hkd.on BX.out).on hW) rfl hf.few (formed_lines hf) hf.free
  obtain ⟨d0, hb0⟩ := CE.out x (Below.refl _ _)
  have HX := hid hx
  clear hx hc hkd hf
  go_enter Tryd.func26, Tryd.ntmps26
  go_wp2_with (first
    | (rw [← HX.out])
    | (go_at_call 53; refine Calls.mono (C4.out w3 B3.out) ?_; rintro e w4 ⟨rfl, b4⟩; have B4 : Hid (Below x.heap.size x w4) := B3.out.trans (b4.mono B3.out.size); clear b4)
    | (go_at_call 52; refine Calls.mono (C3.out w2 B2.out) ?_; rintro e w3 ⟨rfl, b3⟩; have B3 : Hid (Below x.heap.size x w3) := B2.out.trans (b3.mono B2.out.size); obtain ⟨d3, hb3⟩ := CE.out w3 B3.out; clear b3)
    | (go_at_call 51; refine Calls.mono (C2.out w1 B1.out) ?_; rintro e w2 ⟨rfl, b2⟩; have B2 : Hid (Below x.heap.size x w2) := B1.out.trans (b2.mono B1.out.size); obtain ⟨d2, hb2⟩ := CE.out w2 B2.out; clear b2)
    | (go_at_call 50; refine Calls.mono C1.out ?_; rintro e w1 ⟨rfl, b1⟩; have B1 : Hid (Below x.heap.size x w1) := b1; obtain ⟨d1, hb1⟩ := CE.out w1 B1.out; clear b1))
  go_ret
  exact ⟨rfl, BX.out.trans (B4.out.mono BX.out.size)⟩

set_option maxHeartbeats 2000000 in
theorem first_ok : FirstOk 11 := by
  intro c sg so cg co w hc hkd hf
  obtain ⟨x, hx⟩ : ∃ x, x = w.alloc (Obj.cells #[Value.string c.name, Value.slice sg c.gates.length cg, Value.slice so c.outs.length co] 26) := ⟨_, rfl⟩
  have RX : Hid (x.heap[w.heap.size]? = some (.cells #[Value.string c.name, Value.slice sg c.gates.length cg, Value.slice so c.outs.length co] 26 (0, 0))) := by rw [hx]; exact heap_alloc_new w _
  have BX : Hid (Below w.heap.size w x) := by rw [hx]; exact (Below.refl _ _).alloc (Nat.le_refl _) _
  have CE : Hid (∀ W, Below x.heap.size x W → (∀ j, W.cell? ⟨w.heap.size, j, none⟩ = (#[Value.string c.name, Value.slice sg c.gates.length cg, Value.slice so c.outs.length co] : Array Value)[j]?) ∧ w.heap.size < W.heap.size) := fun W hW => by
    have h2 := (hW.block _ (Array.getElem?_eq_some_iff.1 RX.out).1).trans RX.out
    exact ⟨fun j => cell_row h2 j, (Array.getElem?_eq_some_iff.1 h2).1⟩
  have C1 := hid (formed_ok c sg so cg co x (hc.below BX.out) (hkd.on BX.out) hf)
  have C2 : Hid (∀ W, Below x.heap.size x W → _) := fun W hW => pfirst_any c sg so cg co W ((hc.below BX.out).below hW).gates (by have := hf.few; omega)
  obtain ⟨d0, hb0⟩ := CE.out x (Below.refl _ _)
  have HX := hid hx
  have HFL := hid (firsts_len c.gates)
  clear hx hc hkd hf
  go_enter Tryd.func11, Tryd.ntmps11
  go_wp2_with (first
    | (rw [← HX.out])
    | (go_at_call 39; refine Calls.mono (C2.out w1 B1.out) ?_; rintro e w2 ⟨v, rfl, hm⟩; have HM := hid hm; clear hm)
    | (go_at_call 26; refine Calls.mono C1.out ?_; rintro e w1 ⟨rfl, b1⟩; have B1 : Hid (Below x.heap.size x w1) := b1; obtain ⟨d1, hb1⟩ := CE.out w1 B1.out; clear b1))
  obtain ⟨sa, k, hv, hcl, hn, _⟩ := own_cells HM.out.own
  have hb : Below w.heap.size w w1 := BX.out.trans (B1.out.mono BX.out.size)
  refine bodyPost_ret (v := .tuple #[v, .int .i64 0]) (by simp [results, Tryd.results11, go_sem]) rfl ⟨⟨sa, k, ?_, hcl, hn⟩, hb.trans (HM.out.below.mono hb.size)⟩
  rw [hv, HFL.out]
end Go.Proofs.YtfmmmhcpdinhgaaDoor
