import Derived.Test.YtfmmmhcpdinhgaaDoorZ20
/-
  The law's same, places.
-/
namespace Go.Proofs.YtfmmmhcpdinhgaaDoor
open Go.RowKit Go.Deep PureNet
set_option maxRecDepth 100000


set_option maxHeartbeats 1000000 in
set_option maxRecDepth 100000 in
theorem same_true (c : Net) (sg so sg2 so2 : Option Addr) (cg co cg2 co2 : Nat) (w : World) (ha : CirAt w c sg so) (hb : CirAt w c sg2 so2) (hl : c.gates.length ≤ 2513169434843) (hlo : c.outs.length ≤ 17592186043904) :
    Calls Tryd.prog 48 #[cirV c sg cg so co, cirV c sg2 cg2 so2 co2] w fun e w' => e = .returned (.bool true) ∧ Below w.heap.size w w' := by
  have HA := hid ha
  have HB := hid hb
  clear ha hb
  go_enter Tryd.func48, Tryd.ntmps48
  go_wp2
  obtain ⟨X, hX⟩ : ∃ X, X = (w.alloc (Obj.cells #[Value.string c.name, Value.slice sg c.gates.length cg, Value.slice so c.outs.length co] 26)).alloc (Obj.cells #[Value.string c.name, Value.slice sg2 c.gates.length cg2, Value.slice so2 c.outs.length co2] 26) := ⟨_, rfl⟩
  have s1 : (w.alloc (Obj.cells #[Value.string c.name, Value.slice sg c.gates.length cg, Value.slice so c.outs.length co] 26)).heap.size = w.heap.size + 1 := by simp
  have r1 : X.heap[w.heap.size]? = some (.cells #[Value.string c.name, Value.slice sg c.gates.length cg, Value.slice so c.outs.length co] 26 (0, 0)) := by rw [hX, Below.heap_alloc _ _ _ (by omega)]; exact heap_alloc_new w _
  have r2 : X.heap[w.heap.size + 1]? = some (.cells #[Value.string c.name, Value.slice sg2 c.gates.length cg2, Value.slice so2 c.outs.length co2] 26 (0, 0)) := by rw [hX, ← s1]; exact heap_alloc_new _ _
  have BX : Hid (Below w.heap.size w X) := by rw [hX]; exact ((Below.refl _ _).alloc (Nat.le_refl _) _).alloc (by omega) _
  have KB : Hid (∀ W, Below X.heap.size X W → (∀ j, W.cell? ⟨w.heap.size, j, none⟩ = (#[Value.string c.name, Value.slice sg c.gates.length cg, Value.slice so c.outs.length co] : Array Value)[j]?) ∧ (∀ j, W.cell? ⟨w.heap.size + 1, j, none⟩ = (#[Value.string c.name, Value.slice sg2 c.gates.length cg2, Value.slice so2 c.outs.length co2] : Array Value)[j]?) ∧ w.heap.size < W.heap.size ∧ w.heap.size + 1 < W.heap.size) := fun W hW => by
    have e1 := (hW.block _ (Array.getElem?_eq_some_iff.1 r1).1).trans r1
    have e2 := (hW.block _ (Array.getElem?_eq_some_iff.1 r2).1).trans r2
    exact ⟨fun j => cell_row e1 j, fun j => cell_row e2 j, (Array.getElem?_eq_some_iff.1 e1).1, (Array.getElem?_eq_some_iff.1 e2).1⟩
  rw [← hX]
  clear hX s1 r1 r2
  go_loopw [5] (fun iv W => ∃ k : Nat, k ≤ c.gates.length ∧ iv = .int .i64 (k : Int) ∧ Hid (Below X.heap.size X W)) (fun iv _ => c.gates.length - (intOf iv).toNat)
  case atStart => exact ⟨0, Nat.zero_le _, rfl, Below.refl _ _⟩
  case round =>
    obtain ⟨k, hk, rfl, HW⟩ := hrel
    have hww : Below w.heap.size w wr := BX.out.trans (HW.out.mono BX.out.size)
    obtain ⟨c1, c2, hb1, hb2⟩ := KB.out _ HW.out
    by_cases hlt : k < c.gates.length
    · obtain ⟨g, hg⟩ : ∃ g, c.gates[k]? = some g := ⟨_, List.getElem?_eq_getElem hlt⟩
      obtain ⟨b, o, rfl, hb, d0, d1, d2, d3, d4, d5⟩ := gate_at (HA.out.below hww).gates k g hg
      obtain ⟨b', o', rfl, hb', e0, e1, e2, e3, e4, e5⟩ := gate_at (HB.out.below hww).gates k g hg
      clear hg hww
      have a1 : wr.cell? ⟨w.heap.size, 1, none⟩ = some (.slice (some ⟨b, o, none⟩) c.gates.length cg) := (c1 1).trans rfl
      have a2 : wr.cell? ⟨w.heap.size + 1, 1, none⟩ = some (.slice (some ⟨b', o', none⟩) c.gates.length cg2) := (c2 1).trans rfl
      go_wp2
      refine wp_region_noPanic ?_
      refine wp_region_held_drew (S := fun W => W.cell? ⟨w.heap.size, 1, none⟩ = some (.slice (some ⟨b, o, none⟩) c.gates.length cg) ∧ W.cell? ⟨w.heap.size + 1, 1, none⟩ = some (.slice (some ⟨b', o', none⟩) c.gates.length cg2) ∧ W.cell? ⟨b, o + k * 6, none⟩ = some (.int .i64 g.kind) ∧ W.cell? ⟨b, o + k * 6 + 1, none⟩ = some (.string g.name) ∧ W.cell? ⟨b, o + k * 6 + 2, none⟩ = some (.int .i64 g.op) ∧ W.cell? ⟨b, o + k * 6 + 3, none⟩ = some (.int .i64 g.a) ∧ W.cell? ⟨b, o + k * 6 + 4, none⟩ = some (.int .i64 g.b) ∧ W.cell? ⟨b, o + k * 6 + 5, none⟩ = some (.int .i64 g.c) ∧ W.cell? ⟨b', o' + k * 6, none⟩ = some (.int .i64 g.kind) ∧ W.cell? ⟨b', o' + k * 6 + 1, none⟩ = some (.string g.name) ∧ W.cell? ⟨b', o' + k * 6 + 2, none⟩ = some (.int .i64 g.op) ∧ W.cell? ⟨b', o' + k * 6 + 3, none⟩ = some (.int .i64 g.a) ∧ W.cell? ⟨b', o' + k * 6 + 4, none⟩ = some (.int .i64 g.b) ∧ W.cell? ⟨b', o' + k * 6 + 5, none⟩ = some (.int .i64 g.c)) (by kernel_rfl) ⟨a1, a2, d0, d1, d2, d3, d4, d5, e0, e1, e2, e3, e4, e5⟩ (fun hHeld => ?_)
      refine wpAnyH_take (i := 0) (v := ?_) (by simp only [List.getElem?_toArray, List.getElem?_cons_zero]; rfl) (by kernel_rfl) (by kernel_rfl) (by kernel_rfl) (fun _ _ _ h => h) (Or.inl ⟨by rfl, ?_⟩) (by assumption) ?_
      rotate_left 1
      · intro w hSw; (try dsimp only at hSw); go_simp; (try with_reducible rfl)
      try simp only [Act.put, List.setIfInBounds_toArray, List.set_cons_zero, List.set_cons_succ]
      refine wpAnyH_take (i := 1) (v := ?_) (by simp only [List.getElem?_toArray, List.getElem?_cons_succ, List.getElem?_cons_zero]; rfl) (by kernel_rfl) (by kernel_rfl) (by kernel_rfl) (fun _ _ _ h => h) (Or.inl ⟨by rfl, ?_⟩) (by assumption) ?_
      rotate_left 1
      · intro w hSw; (try dsimp only at hSw); go_simp; (try with_reducible rfl)
      try simp only [Act.put, List.setIfInBounds_toArray, List.set_cons_zero, List.set_cons_succ]
      refine wpAnyH_take (i := 2) (v := ?_) (by simp only [List.getElem?_toArray, List.getElem?_cons_succ, List.getElem?_cons_zero]; rfl) (by kernel_rfl) (by kernel_rfl) (by kernel_rfl) (fun _ _ _ h => h) (Or.inl ⟨by rfl, ?_⟩) (by assumption) ?_
      rotate_left 1
      · intro w hSw; (try dsimp only at hSw); go_simp; (try with_reducible rfl)
      try simp only [Act.put, List.setIfInBounds_toArray, List.set_cons_zero, List.set_cons_succ]
      refine wpAnyH_take (i := 3) (v := ?_) (by simp only [List.getElem?_toArray, List.getElem?_cons_succ, List.getElem?_cons_zero]; rfl) (by kernel_rfl) (by kernel_rfl) (by kernel_rfl) (fun _ _ _ h => h) (Or.inl ⟨by rfl, ?_⟩) (by assumption) ?_
      rotate_left 1
      · intro w hSw; (try dsimp only at hSw); go_simp; (try with_reducible rfl)
      try simp only [Act.put, List.setIfInBounds_toArray, List.set_cons_zero, List.set_cons_succ]
      refine wpAnyH_take (i := 4) (v := ?_) (by simp only [List.getElem?_toArray, List.getElem?_cons_succ, List.getElem?_cons_zero]; rfl) (by kernel_rfl) (by kernel_rfl) (by kernel_rfl) (fun _ _ _ h => h) (Or.inl ⟨by rfl, ?_⟩) (by assumption) ?_
      rotate_left 1
      · intro w hSw; (try dsimp only at hSw); go_simp; (try with_reducible rfl)
      try simp only [Act.put, List.setIfInBounds_toArray, List.set_cons_zero, List.set_cons_succ]
      refine wpAnyH_take (i := 5) (v := ?_) (by simp only [List.getElem?_toArray, List.getElem?_cons_succ, List.getElem?_cons_zero]; rfl) (by kernel_rfl) (by kernel_rfl) (by kernel_rfl) (fun _ _ _ h => h) (Or.inl ⟨by rfl, ?_⟩) (by assumption) ?_
      rotate_left 1
      · intro w hSw; (try dsimp only at hSw); go_simp; (try with_reducible rfl)
      try simp only [Act.put, List.setIfInBounds_toArray, List.set_cons_zero, List.set_cons_succ]
      refine wpAnyH_take (i := 6) (v := ?_) (by simp only [List.getElem?_toArray, List.getElem?_cons_succ, List.getElem?_cons_zero]; rfl) (by kernel_rfl) (by kernel_rfl) (by kernel_rfl) (fun _ _ _ h => h) (Or.inl ⟨by rfl, ?_⟩) (by assumption) ?_
      rotate_left 1
      · intro w hSw; (try dsimp only at hSw); go_simp; (try with_reducible rfl)
      try simp only [Act.put, List.setIfInBounds_toArray, List.set_cons_zero, List.set_cons_succ]
      refine wpAnyH_take (i := 7) (v := ?_) (by simp only [List.getElem?_toArray, List.getElem?_cons_succ, List.getElem?_cons_zero]; rfl) (by kernel_rfl) (by kernel_rfl) (by kernel_rfl) (fun _ _ _ h => h) (Or.inl ⟨by rfl, ?_⟩) (by assumption) ?_
      rotate_left 1
      · intro w hSw; (try dsimp only at hSw); go_simp; (try with_reducible rfl)
      try simp only [Act.put, List.setIfInBounds_toArray, List.set_cons_zero, List.set_cons_succ]
      refine wpAnyH_take (i := 8) (v := ?_) (by simp only [List.getElem?_toArray, List.getElem?_cons_succ, List.getElem?_cons_zero]; rfl) (by kernel_rfl) (by kernel_rfl) (by kernel_rfl) (fun _ _ _ h => h) (Or.inl ⟨by rfl, ?_⟩) (by assumption) ?_
      rotate_left 1
      · intro w hSw; (try dsimp only at hSw); go_simp; (try with_reducible rfl)
      try simp only [Act.put, List.setIfInBounds_toArray, List.set_cons_zero, List.set_cons_succ]
      refine wpAnyH_take (i := 9) (v := ?_) (by simp only [List.getElem?_toArray, List.getElem?_cons_succ, List.getElem?_cons_zero]; rfl) (by kernel_rfl) (by kernel_rfl) (by kernel_rfl) (fun _ _ _ h => h) (Or.inl ⟨by rfl, ?_⟩) (by assumption) ?_
      rotate_left 1
      · intro w hSw; (try dsimp only at hSw); go_simp; (try with_reducible rfl)
      try simp only [Act.put, List.setIfInBounds_toArray, List.set_cons_zero, List.set_cons_succ]
      refine wpAnyH_take (i := 10) (v := .bool false) (by simp only [List.getElem?_toArray, List.getElem?_cons_succ, List.getElem?_cons_zero]; rfl) (by kernel_rfl) (by kernel_rfl) (by kernel_rfl) (fun _ _ _ h => h) (Or.inl ⟨by rfl, ?_⟩) (by assumption) ?_
      · intro w hSw; (try dsimp only at hSw); (try go_simp); (first | done | (with_reducible rfl) | simp)
      try simp only [Act.put, List.setIfInBounds_toArray, List.set_cons_zero, List.set_cons_succ]
      refine wpAnyH_done (by kernel_rfl) ?_ _
      refine NoPanic.normal ?_
      go_wp2
      exact ⟨⟨k + 1, hlt, by go_num, HW.out.trans (Below.refl _ _).drew⟩, by simp [intOf]; omega⟩
    · obtain ⟨w2, hw2⟩ : ∃ w2, w2 = wr := ⟨_, rfl⟩
      subst hw2
      go_wp2
      go_loopw [6] (fun iv W => ∃ k : Nat, k ≤ c.outs.length ∧ iv = .int .i64 (k : Int) ∧ Hid (Below X.heap.size X W)) (fun iv _ => c.outs.length - (intOf iv).toNat)
      case atStart => exact ⟨0, Nat.zero_le _, rfl, HW.out⟩
      case round =>
        clear c1 c2 hb1 hb2 hww
        obtain ⟨q, hq, rfl, HV⟩ := hrel
        have hww : Below w.heap.size w wr := BX.out.trans (HV.out.mono BX.out.size)
        obtain ⟨c1, c2, hb1, hb2⟩ := KB.out _ HV.out
        by_cases hlt : q < c.outs.length
        · obtain ⟨x, hx⟩ : ∃ x, c.outs[q]? = some x := ⟨_, List.getElem?_eq_getElem hlt⟩
          obtain ⟨b, o, rfl, hb, d0⟩ := num_at (HA.out.below hww).outs q x hx
          obtain ⟨b', o', rfl, hb', e0⟩ := num_at (HB.out.below hww).outs q x hx
          have a1 : wr.cell? ⟨w.heap.size, 2, none⟩ = some (.slice (some ⟨b, o, none⟩) c.outs.length co) := (c1 2).trans rfl
          have a2 : wr.cell? ⟨w.heap.size + 1, 2, none⟩ = some (.slice (some ⟨b', o', none⟩) c.outs.length co2) := (c2 2).trans rfl
          clear hx hww
          go_wp2
          go_quiet (fail)
          go_wp2
          exact ⟨⟨q + 1, hlt, by go_num, below_drewN HV.out _⟩, by simp [intOf]; omega⟩
        · have HF := hid hww
          clear hww
          go_wp2
          go_ret
          exact ⟨rfl, HF.out⟩
end Go.Proofs.YtfmmmhcpdinhgaaDoor
/-
  The law's own kept.
-/
namespace Go.Proofs.YtfmmmhcpdinhgaaDoor
open Go.RowKit Go.Deep PureNet ShfKit
set_option maxRecDepth 100000

theorem TwinAt.marks {W : World} {B : Nat} {c : Net} {gg kg go ko : Nat} (h : TwinAt W B c gg kg go ko) : W.cell? ⟨gg, c.gates.length * 6 + 1, none⟩ = some (.string ⟨#[114, 111, 111, 109]⟩) ∧ W.cell? ⟨gg, (c.gates.length + 1) * 6 + 1, none⟩ = some (.string ⟨#[114, 111, 111, 109]⟩) ∧ W.cell? ⟨go, c.outs.length, none⟩ = some (.int .i64 77) ∧ W.cell? ⟨go, c.outs.length + 1, none⟩ = some (.int .i64 78) ∧ c.gates.length + 2 ≤ kg ∧ c.outs.length + 2 ≤ ko ∧ gg < W.heap.size ∧ go < W.heap.size := by
  have h1 := own_at h.gates
  have h2 := own_at h.outs
  obtain ⟨_, _, hv1, hk1, _, hs1⟩ := own_some h.gates (by omega)
  obtain ⟨_, _, hv2, hk2, _, hs2⟩ := own_some h.outs (by omega)
  cases hv1
  cases hv2
  have one : ∀ (j : Nat) (u : Value), (gas (c.gates ++ [roomG, roomG]))[j]? = some u → W.cell? ⟨gg, j, none⟩ = some u := fun j u hu => by
    obtain ⟨b, o, e, _, hc⟩ := h1.at_ j u hu
    cases e
    rw [Nat.zero_add] at hc
    exact hc
  have two : ∀ (j : Nat) (u : Value), (nu (c.outs ++ [77, 78]))[j]? = some u → W.cell? ⟨go, j, none⟩ = some u := fun j u hu => by
    obtain ⟨b, o, e, _, hc⟩ := h2.at_ j u hu
    cases e
    rw [Nat.zero_add] at hc
    exact hc
  have hl : (c.gates ++ [roomG, roomG]).length = c.gates.length + 2 := by simp
  refine ⟨one _ _ ?_, one _ _ ?_, two _ _ ?_, two _ _ ?_, hk1, hk2, hs1, hs2⟩
  · rw [gas_at _ _ 1 (by omega) (by omega)]
    simp [ga, roomG]
  · rw [gas_at _ _ 1 (by omega) (by omega)]
    simp [ga, roomG]
  · simp [nu]
  · simp [nu]

set_option maxHeartbeats 2000000 in
theorem kept_true (c : Net) (B gg kg go ko : Nat) (sg so : Option Addr) (cg co : Nat) (w : World) (ht : TwinAt w B c gg kg go ko) (hc : CirAt w c sg so) (hl : c.gates.length ≤ 1099511627776) (hlo : c.outs.length ≤ 1099511627776) :
    Calls Tryd.prog 24 #[cirV c (some ⟨gg, 0, none⟩) kg (some ⟨go, 0, none⟩) ko, cirV c sg cg so co] w fun e w' => e = .returned (.bool true) ∧ Below w.heap.size w w' := by
  obtain ⟨x, hx⟩ : ∃ x, x = (w.alloc (Obj.cells #[Value.string c.name, Value.slice (some ⟨gg, 0, none⟩) c.gates.length kg, Value.slice (some ⟨go, 0, none⟩) c.outs.length ko] 26)).alloc (Obj.cells #[Value.string c.name, Value.slice sg c.gates.length cg, Value.slice so c.outs.length co] 26) := ⟨_, rfl⟩
  have s1 : (w.alloc (Obj.cells #[Value.string c.name, Value.slice (some ⟨gg, 0, none⟩) c.gates.length kg, Value.slice (some ⟨go, 0, none⟩) c.outs.length ko] 26)).heap.size = w.heap.size + 1 := by simp
  have R1 : Hid (x.heap[w.heap.size]? = some (.cells #[Value.string c.name, Value.slice (some ⟨gg, 0, none⟩) c.gates.length kg, Value.slice (some ⟨go, 0, none⟩) c.outs.length ko] 26 (0, 0))) := by show _ = _; rw [hx, Below.heap_alloc _ _ _ (by omega)]; exact heap_alloc_new w _
  have R2 : Hid (x.heap[w.heap.size + 1]? = some (.cells #[Value.string c.name, Value.slice sg c.gates.length cg, Value.slice so c.outs.length co] 26 (0, 0))) := by show _ = _; rw [hx, ← s1]; exact heap_alloc_new _ _
  have BX : Hid (Below w.heap.size w x) := by rw [hx]; exact ((Below.refl _ _).alloc (Nat.le_refl _) _).alloc (by omega) _
  have SM := hid (same_true c (some ⟨gg, 0, none⟩) (some ⟨go, 0, none⟩) sg so kg ko cg co x (ht.below BX.out).cir (hc.below BX.out) (by omega) (by omega))
  have d0 := fun j => cell_row R1.out j
  have d1 := fun j => cell_row R2.out j
  have hb0 := (Array.getElem?_eq_some_iff.1 R1.out).1
  have hb1 := (Array.getElem?_eq_some_iff.1 R2.out).1
  have TW : Hid (∀ W, Below x.heap.size x W → TwinAt W B c gg kg go ko) := fun W hW => (ht.below BX.out).below hW
  obtain ⟨_, _, _, _, hk1, hk2, _, _⟩ := ht.marks
  have HX := hid hx
  have g1 : IntKind.i64.wrap ((c.gates.length : Int) + 2) = ((c.gates.length + 2 : Nat) : Int) := by rw [IntKind.wrap_i64]; omega
  have g2 : IntKind.i64.wrap ((c.outs.length : Int) + 2) = ((c.outs.length + 2 : Nat) : Int) := by rw [IntKind.wrap_i64]; omega
  have g3 : IntKind.i64.wrap ((c.gates.length : Int) + 1) = ((c.gates.length + 1 : Nat) : Int) := by rw [IntKind.wrap_i64]; omega
  have g4 : IntKind.i64.wrap ((c.outs.length : Int) + 1) = ((c.outs.length + 1 : Nat) : Int) := by rw [IntKind.wrap_i64]; omega
  clear hx s1 ht hc
  go_enter Tryd.func24, Tryd.ntmps24
  go_wp2_with (first
    | (rw [← HX.out])
    | (go_at_call 48; refine Calls.mono SM.out ?_; rintro e w1 ⟨rfl, b1⟩; have B1 := hid b1; obtain ⟨m1, m2, m3, m4, _, _, ms1, ms2⟩ := (TW.out w1 b1).marks; clear b1))
  go_ret
  exact ⟨rfl, BX.out.trans (B1.out.mono BX.out.size)⟩
end Go.Proofs.YtfmmmhcpdinhgaaDoor
/-
  CircuitBlind: lines of a row turned; what stays.
-/
namespace Go.Proofs.YtfmmmhcpdinhgaaDoor
open Go.RowKit Go.Deep PureNet
set_option maxRecDepth 100000

theorem gas_op (D : List Ga) (k : Nat) (g : Ga) (u : Int) (hg : D[k]? = some g) : (gas D).set (k * 6 + 2) (.int .i64 u) = gas (D.set k { g with op := u }) := by
  have hk := (List.getElem?_eq_some_iff.1 hg).1
  apply List.ext_getElem?
  intro i
  by_cases hi : i < D.length * 6
  · have h := gas_at (D.set k { g with op := u }) (i / 6) (i % 6) (by simp; omega) (by omega)
    have h0 := gas_at D (i / 6) (i % 6) (by omega) (by omega)
    rw [show i / 6 * 6 + i % 6 = i by omega] at h h0
    rw [h]
    by_cases e : i / 6 = k
    · have e3 : (D.set k { g with op := u })[i / 6]'(by simp; omega) = { g with op := u } := by simp [e]
      have e4 : D[i / 6]'(by omega) = g := by
        have := (List.getElem?_eq_some_iff.1 hg).2
        simpa [e] using this
      rw [e3]
      rw [e4] at h0
      by_cases e2 : i % 6 = 2
      · rw [show i = k * 6 + 2 by omega, List.getElem?_set_self (by rw [gas_length]; omega), show (k * 6 + 2) % 6 = 2 by omega]
        rfl
      · rw [List.getElem?_set_ne (by omega), h0]
        have h6 : i % 6 = 0 ∨ i % 6 = 1 ∨ i % 6 = 3 ∨ i % 6 = 4 ∨ i % 6 = 5 := by omega
        rcases h6 with h6 | h6 | h6 | h6 | h6 <;> rw [h6] <;> rfl
    · have e3 : (D.set k { g with op := u })[i / 6]'(by simp; omega) = D[i / 6]'(by omega) := by rw [List.getElem_set_ne (fun x => e x.symm)]
      rw [e3, ← h0, List.getElem?_set_ne (by omega)]
  · rw [List.getElem?_eq_none (by rw [List.length_set, gas_length]; omega), List.getElem?_eq_none (by rw [gas_length, List.length_set]; omega)]
end Go.Proofs.YtfmmmhcpdinhgaaDoor
/-
  A twin's lines turned where they stand.
-/
namespace Go.Proofs.YtfmmmhcpdinhgaaDoor
open Go.RowKit Go.Deep PureNet ShfKit
set_option maxRecDepth 100000


/-- a twin with another line. -/
theorem TwinAt.turn {W W' : World} {B : Nat} {c : Net} {gg kg go ko k : Nat} {g' : Ga} (h : TwinAt W B c gg kg go ko) (hg : W.grownBy W' (some gg)) (ho : W'.ownsRow B 38 6 (.slice (some ⟨gg, 0, none⟩) (c.gates.length + 2) kg) (c.gates.length + 2) (gas ((c.gates ++ [roomG, roomG]).set k g'))) (hk : k < c.gates.length) :
    TwinAt W' B { c with gates := c.gates.set k g' } gg kg go ko := by
  refine ⟨?_, ?_⟩
  · show W'.ownsRow B 38 6 (.slice (some ⟨gg, 0, none⟩) ((c.gates.set k g').length + 2) kg) ((c.gates.set k g').length + 2) (gas (c.gates.set k g' ++ [roomG, roomG]))
    rw [List.length_set, ← List.set_append_left _ _ hk]
    exact ho
  · exact Go.Proofs.YtfmmmhcpdinhgaaDoor.own_kept h.outs h.gates hg (by decide)
theorem TwinAt.setOp {W : World} {B : Nat} {c : Net} {gg kg go ko k : Nat} {g : Ga} (h : TwinAt W B c gg kg go ko) (hg : c.gates[k]? = some g) (u : Int) :
    TwinAt (W.setCell ⟨gg, k * 6 + 2, none⟩ (.int .i64 u)) B { c with gates := c.gates.set k { g with op := u } } gg kg go ko ∧ W.grownBy (W.setCell ⟨gg, k * 6 + 2, none⟩ (.int .i64 u)) (some gg) := by
  have hk := (List.getElem?_eq_some_iff.1 hg).1
  have st := own_set (j := k * 6 + 2) h.gates rfl (.int .i64 u)
  have hg2 : (c.gates ++ [roomG, roomG])[k]? = some g := by rw [List.getElem?_append_left hk]; exact hg
  rw [gas_op _ k g u hg2] at st
  exact ⟨h.turn st.2 st.1 hk, st.2⟩
/-- a line's six cells in a twin. -/
theorem TwinAt.line {W : World} {B : Nat} {c : Net} {gg kg go ko k : Nat} {g : Ga} (h : TwinAt W B c gg kg go ko) (hg : c.gates[k]? = some g) : gg < W.heap.size ∧ W.cell? ⟨gg, k * 6, none⟩ = some (.int .i64 g.kind) ∧ W.cell? ⟨gg, k * 6 + 1, none⟩ = some (.string g.name) ∧ W.cell? ⟨gg, k * 6 + 2, none⟩ = some (.int .i64 g.op) ∧ W.cell? ⟨gg, k * 6 + 3, none⟩ = some (.int .i64 g.a) ∧ W.cell? ⟨gg, k * 6 + 4, none⟩ = some (.int .i64 g.b) ∧ W.cell? ⟨gg, k * 6 + 5, none⟩ = some (.int .i64 g.c) ∧ ∀ j, W.frozen? ⟨gg, j, none⟩ = false := by
  obtain ⟨b, o, e, hb, h0, h1, h2, h3, h4, h5⟩ := gate_at h.cir.gates k g hg
  cases e
  rw [Nat.zero_add] at h0 h1 h2 h3 h4 h5
  refine ⟨hb, h0, h1, h2, h3, h4, h5, fun j => ?_⟩
  rcases h.gates.2 with ⟨h1, _⟩ | ⟨g', cap', cur, hv, hB, hrow, _⟩
  · simp at h1
  · cases hv
    exact unfrozen_row hrow j

section
variable (f : Ga → Ga)
/-- the first i lines turned. -/
def turnTo (l : List Ga) (i : Nat) : List Ga := (l.take i).map f ++ l.drop i
theorem turnTo_zero (l : List Ga) : turnTo f l 0 = l := by simp [turnTo]
theorem turnTo_all (l : List Ga) : turnTo f l l.length = l.map f := by simp [turnTo]
theorem turnTo_at {l : List Ga} {i : Nat} {g : Ga} (h : l[i]? = some g) : (turnTo f l i)[i]? = some g := by
  have hi := (List.getElem?_eq_some_iff.1 h).1
  unfold turnTo
  rw [List.getElem?_append_right (by simp; omega)]
  simp
  rw [show i + (i - min i l.length) = i by omega]
  exact h
theorem turnTo_succ {l : List Ga} {i : Nat} {g : Ga} (h : l[i]? = some g) : turnTo f l (i + 1) = (turnTo f l i).set i (f g) := by
  have hi := (List.getElem?_eq_some_iff.1 h).1
  have e1 : l.take (i + 1) = l.take i ++ [g] := by rw [List.take_add_one, h]; rfl
  have e2 : l.drop i = g :: l.drop (i + 1) := by
    rw [List.drop_eq_getElem_cons hi, (List.getElem?_eq_some_iff.1 h).2]
  unfold turnTo
  rw [e1, e2, List.set_append_right _ _ (by simp; omega)]
  simp [show i - min i l.length = 0 by omega]
end
theorem set_same {l : List Ga} {i : Nat} {g : Ga} (h : l[i]? = some g) : l.set i g = l := by
  have hi := (List.getElem?_eq_some_iff.1 h).1
  have := List.set_getElem_self hi
  rw [(List.getElem?_eq_some_iff.1 h).2] at this
  exact this
/-- a circuit put into its cells. -/
theorem copy_put {W : World} {b : Nat} {a0 a1 a2 : Value} (nm g o : Value) (hr : W.heap[b]? = some (.cells #[a0, a1, a2] 26 (0, 0))) :
    (((W.setCell ⟨b, 0, none⟩ nm).setCell ⟨b, 1, none⟩ g).setCell ⟨b, 2, none⟩ o).heap[b]? = some (.cells #[nm, g, o] 26 (0, 0)) ∧ W.grownBy (((W.setCell ⟨b, 0, none⟩ nm).setCell ⟨b, 1, none⟩ g).setCell ⟨b, 2, none⟩ o) (some b) := by
  have h1 := row_set (i := 0) (u := nm) hr
  have h2 := row_set (i := 1) (u := g) h1
  have h3 := row_set (i := 2) (u := o) h2
  have hg : W.grownBy (((W.setCell ⟨b, 0, none⟩ nm).setCell ⟨b, 1, none⟩ g).setCell ⟨b, 2, none⟩ o) (some b) := grown_set (grown_set (grown_set (World.grownBy.refl _ _)))
  exact ⟨h3, hg⟩
theorem own_aside {W Y : World} {B e size n b : Nat} {s : Option Addr} {cap : Nat} {xs cs : List Value} {t : Nat} (h : W.ownsRow B e size (.slice s n cap) n xs) (hg : W.grownBy Y (some b)) (hr : W.heap[b]? = some (.cells cs.toArray t (0, 0))) (hne : t ≠ e) : CellsAt Y s xs := by
  have h2 : Y.ownsRow B e size (.slice s n cap) n xs := ShfKit.own_kept h fun g hgv => hg.block g (ShfKit.own_block h hgv).2 (fun e2 => by
    have := own_ne h hr hne
    rw [hgv] at this
    exact this e2)
  obtain ⟨sa, c, hv, hc, _⟩ := own_cells h2
  cases hv
  exact hc
/-- a twin stays where another block is written. -/
theorem TwinAt.aside {W W' : World} {B b : Nat} {c : Net} {gg kg go ko : Nat} (h : TwinAt W B c gg kg go ko) (hg : W.grownBy W' (some b)) (h1 : gg ≠ b) (h2 : go ≠ b) : TwinAt W' B c gg kg go ko :=
  ⟨ShfKit.own_kept h.gates fun g hgv => hg.block g (ShfKit.own_block h.gates hgv).2 (fun e => by
      simp [Value.ownBlock] at hgv
      have := Option.some.inj e
      omega),
   ShfKit.own_kept h.outs fun g hgv => hg.block g (ShfKit.own_block h.outs hgv).2 (fun e => by
      simp [Value.ownBlock] at hgv
      have := Option.some.inj e
      omega)⟩
theorem TwinAt.blocks {W : World} {B : Nat} {c : Net} {gg kg go ko : Nat} (h : TwinAt W B c gg kg go ko) : (B ≤ gg ∧ gg < W.heap.size) ∧ B ≤ go ∧ go < W.heap.size :=
  ⟨ShfKit.own_block h.gates rfl, ShfKit.own_block h.outs rfl⟩
end Go.Proofs.YtfmmmhcpdinhgaaDoor
/-
  The law's own turned.
-/
namespace Go.Proofs.YtfmmmhcpdinhgaaDoor
open Go.RowKit Go.Deep PureNet ShfKit
set_option maxRecDepth 100000

/-- what turned makes of a line. -/
def turnO (g : Ga) : Ga := if g.kind = 2 ∨ g.kind = 3 then { g with op := bits BinOp.xor IntKind.i64 g.op 1 } else g

set_option maxHeartbeats 2000000 in
theorem turned_any (c : Net) (B gg kg go ko : Nat) (w : World) (ht : TwinAt w B c gg kg go ko) (hl : c.gates.length ≤ 1099511627776) (hlo : c.outs.length ≤ 1099511627776) :
    Calls Tryd.prog 29 #[cirV c (some ⟨gg, 0, none⟩) kg (some ⟨go, 0, none⟩) ko] w fun e w' => ∃ sg3 kg3 so3 ko3, e = .returned (cirV { c with gates := c.gates.map turnO } sg3 kg3 so3 ko3) ∧ TwinAt w' B { c with gates := c.gates.map turnO } gg kg go ko ∧ CirAt w' { c with gates := c.gates.map turnO } sg3 so3 ∧ w.grownBy w' (some gg) ∧ (∀ b o sp, sg3 = some ⟨b, o, sp⟩ → w.heap.size ≤ b) ∧ (∀ b o sp, so3 = some ⟨b, o, sp⟩ → w.heap.size ≤ b) := by
  obtain ⟨x, hx⟩ : ∃ x, x = (w.alloc (Obj.cells (#[Value.string c.name, Value.slice (some ⟨gg, 0, none⟩) c.gates.length kg, Value.slice (some ⟨go, 0, none⟩) c.outs.length ko] : Array Value) 26)).alloc (Obj.cells #[Value.string ⟨#[]⟩, Value.slice none 0 0, Value.slice none 0 0] 26) := ⟨_, rfl⟩
  have s1 : (w.alloc (Obj.cells (#[Value.string c.name, Value.slice (some ⟨gg, 0, none⟩) c.gates.length kg, Value.slice (some ⟨go, 0, none⟩) c.outs.length ko] : Array Value) 26)).heap.size = w.heap.size + 1 := by simp
  have R1 : Hid (x.heap[w.heap.size]? = some (.cells (#[Value.string c.name, Value.slice (some ⟨gg, 0, none⟩) c.gates.length kg, Value.slice (some ⟨go, 0, none⟩) c.outs.length ko] : Array Value) 26 (0, 0))) := by show _ = _; rw [hx, Below.heap_alloc _ _ _ (by omega)]; exact heap_alloc_new w _
  have R2 : Hid (x.heap[w.heap.size + 1]? = some (.cells #[Value.string ⟨#[]⟩, Value.slice none 0 0, Value.slice none 0 0] 26 (0, 0))) := by show _ = _; rw [hx, ← s1]; exact heap_alloc_new _ _
  have BX : Hid (Below w.heap.size w x) := by rw [hx]; exact ((Below.refl _ _).alloc (Nat.le_refl _) _).alloc (by omega) _
  have HGG : Hid (gg < w.heap.size ∧ B ≤ gg) := by
    obtain ⟨_, _, hv, _, h1, h2⟩ := own_some ht.gates (by omega)
    cases hv
    exact ⟨h2, h1⟩
  have CE : Hid (∀ W, x.grownBy W (some gg) → (∀ j, W.cell? ⟨w.heap.size, j, none⟩ = (#[Value.string c.name, Value.slice (some ⟨gg, 0, none⟩) c.gates.length kg, Value.slice (some ⟨go, 0, none⟩) c.outs.length ko] : Array Value)[j]?) ∧ w.heap.size < W.heap.size ∧ W.heap[w.heap.size + 1]? = some (.cells #[Value.string ⟨#[]⟩, Value.slice none 0 0, Value.slice none 0 0] 26 (0, 0))) := fun W hW => by
    have h1 := (hW.block _ (Array.getElem?_eq_some_iff.1 R1.out).1 (fun e => by have := HGG.out.1; have := Option.some.inj e; omega)).trans R1.out
    have h2 := (hW.block _ (Array.getElem?_eq_some_iff.1 R2.out).1 (fun e => by have := HGG.out.1; have := Option.some.inj e; omega)).trans R2.out
    exact ⟨fun j => cell_row h1 j, (Array.getElem?_eq_some_iff.1 h1).1, h2⟩
  have TX := hid (ht.below BX.out)
  have HX := hid hx
  have LG : Hid (c.gates.length ≤ 1099511627776 ∧ c.outs.length ≤ 1099511627776) := ⟨hl, hlo⟩
  have T0 := hid ht
  clear hx s1 ht hlo
  go_enter Tryd.func29, Tryd.ntmps29
  go_wp2_with (rw [← HX.out])
  go_loopg [3] c.gates.length (fun k iv W => ∃ (i : Nat), i ≤ c.gates.length ∧ k = c.gates.length - i ∧ iv = .int .i64 (i : Int) ∧ Hid (TwinAt W B { c with gates := turnTo turnO c.gates i } gg kg go ko ∧ x.grownBy W (some gg)))
  case atStart => exact ⟨0, Nat.zero_le _, rfl, rfl, by rw [turnTo_zero]; exact TX.out, World.grownBy.refl _ _⟩
  case round =>
    clear TX
    obtain ⟨i, hi, hgk, rfl, HR1⟩ := hrel
    subst hgk
    obtain ⟨e5, hs5, _⟩ := CE.out wr HR1.out.2
    by_cases hlt : i < c.gates.length
    · obtain ⟨g, hg⟩ : ∃ g, c.gates[i]? = some g := ⟨_, List.getElem?_eq_getElem hlt⟩
      obtain ⟨hgs, k0, _, k2, _, _, _, kf⟩ := HR1.out.1.line (turnTo_at turnO hg)
      have kf2 := kf (i * 6 + 2)
      have NX2 : Hid (g.kind = 2 ∨ g.kind = 3 → TwinAt (wr.setCell ⟨gg, i * 6 + 2, none⟩ (.int .i64 (bits BinOp.xor IntKind.i64 g.op 1))).drew B { c with gates := turnTo turnO c.gates (i + 1) } gg kg go ko ∧ x.grownBy (wr.setCell ⟨gg, i * 6 + 2, none⟩ (.int .i64 (bits BinOp.xor IntKind.i64 g.op 1))).drew (some gg)) := fun hk => by
        have st := HR1.out.1.setOp (turnTo_at turnO hg) (bits BinOp.xor IntKind.i64 g.op 1)
        have e : turnTo turnO c.gates (i + 1) = (turnTo turnO c.gates i).set i { g with op := bits BinOp.xor IntKind.i64 g.op 1 } := by
          rw [turnTo_succ turnO hg]
          unfold turnO
          rw [if_pos hk]
        rw [e]
        have hgr := grown_set (i := i * 6 + 2) (u := .int .i64 (bits BinOp.xor IntKind.i64 g.op 1)) HR1.out.2
        exact ⟨st.1.below (Below.refl _ _).drew, ⟨hgr.os, hgr.tape, hgr.output, hgr.size, hgr.block⟩⟩
      have NX0 : Hid (¬ (g.kind = 2 ∨ g.kind = 3) → TwinAt wr B { c with gates := turnTo turnO c.gates (i + 1) } gg kg go ko ∧ x.grownBy wr (some gg)) := fun hk => by
        have e : turnTo turnO c.gates (i + 1) = turnTo turnO c.gates i := by
          rw [turnTo_succ turnO hg]
          have e2 : turnO g = g := by unfold turnO; rw [if_neg hk]
          rw [e2]
          exact set_same (turnTo_at turnO hg)
        rw [e]
        exact HR1.out
      clear hg HR1 kf
      by_cases hk2 : g.kind = 2
      · have hb2 : (g.kind == 2) = true := by rw [hk2]; rfl
        have NX := hid (NX2.out (.inl hk2))
        clear hk2 NX0 NX2
        go_wp2
        refine wp_region_noPanic ?_
        refine wp_region_held_drew (S := fun W => W.cell? ⟨w.heap.size, 1, none⟩ = some (.slice (some ⟨gg, 0, none⟩) c.gates.length kg)) (by kernel_rfl) (e5 1) (fun hHeld => ?_)
        refine wpAnyH_take (i := 0) (v := ?_) (by simp only [List.getElem?_toArray, List.getElem?_cons_zero]; rfl) (by kernel_rfl) (by kernel_rfl) (by kernel_rfl) (fun _ _ _ h => h) (Or.inl ⟨by rfl, ?_⟩) (by assumption) ?_
        rotate_left 1
        · intro w hSw; (try dsimp only at hSw); go_simp; (try with_reducible rfl)
        try simp only [Act.put, List.setIfInBounds_toArray, List.set_cons_zero, List.set_cons_succ]
        refine wpAnyH_take (i := 1) (v := ?_) (by simp only [List.getElem?_toArray, List.getElem?_cons_succ, List.getElem?_cons_zero]; rfl) (by kernel_rfl) (by kernel_rfl) (by kernel_rfl) (fun _ _ _ h => h) (Or.inl ⟨by rfl, ?_⟩) (by assumption) ?_
        rotate_left 1
        · intro w hSw; (try dsimp only at hSw); go_simp; (try with_reducible rfl)
        try simp only [Act.put, List.setIfInBounds_toArray, List.set_cons_zero, List.set_cons_succ]
        refine wpAnyH_take (i := 2) (v := ?_) (by simp only [List.getElem?_toArray, List.getElem?_cons_succ, List.getElem?_cons_zero]; rfl) (by kernel_rfl) (by kernel_rfl) (by kernel_rfl) (fun _ _ _ h => h) (Or.inl ⟨by rfl, ?_⟩) (by assumption) ?_
        rotate_left 1
        · intro w hSw; (try dsimp only at hSw); go_simp; (try with_reducible rfl)
        try simp only [Act.put, List.setIfInBounds_toArray, List.set_cons_zero, List.set_cons_succ]
        refine wpAnyH_take (i := 3) (v := ?_) (by simp only [List.getElem?_toArray, List.getElem?_cons_succ, List.getElem?_cons_zero]; rfl) (by kernel_rfl) (by kernel_rfl) (by kernel_rfl) (fun _ _ _ h => h) (Or.inl ⟨by rfl, ?_⟩) (by assumption) ?_
        rotate_left 1
        · intro w hSw; (try dsimp only at hSw); go_simp; (try with_reducible rfl)
        try simp only [Act.put, List.setIfInBounds_toArray, List.set_cons_zero, List.set_cons_succ]
        refine wpAnyH_take (i := 4) (v := ?_) (by simp only [List.getElem?_toArray, List.getElem?_cons_succ, List.getElem?_cons_zero]; rfl) (by kernel_rfl) (by kernel_rfl) (by kernel_rfl) (fun _ _ _ h => h) (Or.inl ⟨by rfl, ?_⟩) (by assumption) ?_
        rotate_left 1
        · intro w hSw; (try dsimp only at hSw); go_simp; (try with_reducible rfl)
        try simp only [Act.put, List.setIfInBounds_toArray, List.set_cons_zero, List.set_cons_succ]
        refine wpAnyH_take (i := 5) (v := ?_) (by simp only [List.getElem?_toArray, List.getElem?_cons_succ, List.getElem?_cons_zero]; rfl) (by kernel_rfl) (by kernel_rfl) (by kernel_rfl) (fun _ _ _ h => h) (Or.inl ⟨by rfl, ?_⟩) (by assumption) ?_
        rotate_left 1
        · intro w hSw; (try dsimp only at hSw); go_simp; (try with_reducible rfl)
        try simp only [Act.put, List.setIfInBounds_toArray, List.set_cons_zero, List.set_cons_succ]
        refine wpAnyH_take (i := 6) (v := .pointer (some ⟨gg, i * 6, none⟩)) (by simp only [List.getElem?_toArray, List.getElem?_cons_succ, List.getElem?_cons_zero]; rfl) (by kernel_rfl) (by kernel_rfl) (by kernel_rfl) (fun _ _ _ h => h) (Or.inl ⟨by rfl, ?_⟩) (by assumption) ?_
        · intro w hSw; (try dsimp only at hSw); (try go_simp); ((try rw [if_pos (by omega)]); (try simp); (try (intro h9; omega)))
        try simp only [Act.put, List.setIfInBounds_toArray, List.set_cons_zero, List.set_cons_succ]
        refine wpAnyH_take (i := 7) (v := ?_) (by simp only [List.getElem?_toArray, List.getElem?_cons_succ, List.getElem?_cons_zero]; rfl) (by kernel_rfl) (by kernel_rfl) (by kernel_rfl) (fun _ _ _ h => h) (Or.inl ⟨by rfl, ?_⟩) (by assumption) ?_
        rotate_left 1
        · intro w hSw; (try dsimp only at hSw); go_simp; (try with_reducible rfl)
        try simp only [Act.put, List.setIfInBounds_toArray, List.set_cons_zero, List.set_cons_succ]
        refine wpAnyH_ready (rs := [8]) (by kernel_rfl) (by simp) ?_
        refine AllReadyH.cons (by simp only [List.getElem?_toArray, List.getElem?_cons_succ, List.getElem?_cons_zero]; rfl) (fun K hK => ?_) AllReadyH.nil
        go_simp
        clear hHeld
        refine hK.out _ _ (e5 1) (fun hHeld => ?_)
        clear hK K
        try simp only [Act.put, List.setIfInBounds_toArray, List.set_cons_zero, List.set_cons_succ]
        refine wpAnyH_take (i := 9) (v := ?_) (by simp only [List.getElem?_toArray, List.getElem?_cons_succ, List.getElem?_cons_zero]; rfl) (by kernel_rfl) (by kernel_rfl) (by kernel_rfl) (fun _ _ _ h => h) (Or.inl ⟨by rfl, ?_⟩) (by assumption) ?_
        rotate_left 1
        · intro w hSw; (try dsimp only at hSw); go_simp; (try with_reducible rfl)
        try simp only [Act.put, List.setIfInBounds_toArray, List.set_cons_zero, List.set_cons_succ]
        refine wpAnyH_take (i := 10) (v := .pointer (some ⟨gg, i * 6, none⟩)) (by simp only [List.getElem?_toArray, List.getElem?_cons_succ, List.getElem?_cons_zero]; rfl) (by kernel_rfl) (by kernel_rfl) (by kernel_rfl) (fun _ _ _ h => h) (Or.inl ⟨by rfl, ?_⟩) (by assumption) ?_
        · intro w hSw; (try dsimp only at hSw); (try go_simp); ((try rw [if_pos (by omega)]); (try simp); (try (intro h9; omega)))
        try simp only [Act.put, List.setIfInBounds_toArray, List.set_cons_zero, List.set_cons_succ]
        refine wpAnyH_take (i := 11) (v := ?_) (by simp only [List.getElem?_toArray, List.getElem?_cons_succ, List.getElem?_cons_zero]; rfl) (by kernel_rfl) (by kernel_rfl) (by kernel_rfl) (fun _ _ _ h => h) (Or.inl ⟨by rfl, ?_⟩) (by assumption) ?_
        rotate_left 1
        · intro w hSw; (try dsimp only at hSw); go_simp; (try with_reducible rfl)
        try simp only [Act.put, List.setIfInBounds_toArray, List.set_cons_zero, List.set_cons_succ]
        refine wpAnyH_ready (rs := [12]) (by kernel_rfl) (by simp) ?_
        refine AllReadyH.cons (by simp only [List.getElem?_toArray, List.getElem?_cons_succ, List.getElem?_cons_zero]; rfl) (fun K hK => ?_) AllReadyH.nil
        go_simp
        clear hHeld
        refine hK.out _ _ ((World.cell?_setCell_far _ _ _ _ (by have := HGG.out.1; show gg ≠ w.heap.size; omega)).trans (e5 1)) (fun hHeld => ?_)
        clear hK K
        try simp only [Act.put, List.setIfInBounds_toArray, List.set_cons_zero, List.set_cons_succ]
        refine wpAnyH_done (by kernel_rfl) ?_ _
        refine NoPanic.normal ?_
        go_wp2
        go_roundg (c.gates.length - (i + 1))
        case measure => omega
        case rel => exact ⟨i + 1, hlt, rfl, by go_num, NX.out⟩
      · have hb2 : (g.kind == 2) = false := beq_eq_false_iff_ne.2 hk2
        by_cases hk4 : g.kind = 3
        · have hb4 : (g.kind == 3) = true := by rw [hk4]; rfl
          have NX := hid (NX2.out (.inr hk4))
          clear hk2 hk4 NX0 NX2
          go_wp2
          refine wp_region_noPanic ?_
          refine wp_region_held_drew (S := fun W => W.cell? ⟨w.heap.size, 1, none⟩ = some (.slice (some ⟨gg, 0, none⟩) c.gates.length kg)) (by kernel_rfl) (e5 1) (fun hHeld => ?_)
          refine wpAnyH_take (i := 0) (v := ?_) (by simp only [List.getElem?_toArray, List.getElem?_cons_zero]; rfl) (by kernel_rfl) (by kernel_rfl) (by kernel_rfl) (fun _ _ _ h => h) (Or.inl ⟨by rfl, ?_⟩) (by assumption) ?_
          rotate_left 1
          · intro w hSw; (try dsimp only at hSw); go_simp; (try with_reducible rfl)
          try simp only [Act.put, List.setIfInBounds_toArray, List.set_cons_zero, List.set_cons_succ]
          refine wpAnyH_take (i := 1) (v := ?_) (by simp only [List.getElem?_toArray, List.getElem?_cons_succ, List.getElem?_cons_zero]; rfl) (by kernel_rfl) (by kernel_rfl) (by kernel_rfl) (fun _ _ _ h => h) (Or.inl ⟨by rfl, ?_⟩) (by assumption) ?_
          rotate_left 1
          · intro w hSw; (try dsimp only at hSw); go_simp; (try with_reducible rfl)
          try simp only [Act.put, List.setIfInBounds_toArray, List.set_cons_zero, List.set_cons_succ]
          refine wpAnyH_take (i := 2) (v := ?_) (by simp only [List.getElem?_toArray, List.getElem?_cons_succ, List.getElem?_cons_zero]; rfl) (by kernel_rfl) (by kernel_rfl) (by kernel_rfl) (fun _ _ _ h => h) (Or.inl ⟨by rfl, ?_⟩) (by assumption) ?_
          rotate_left 1
          · intro w hSw; (try dsimp only at hSw); go_simp; (try with_reducible rfl)
          try simp only [Act.put, List.setIfInBounds_toArray, List.set_cons_zero, List.set_cons_succ]
          refine wpAnyH_take (i := 3) (v := ?_) (by simp only [List.getElem?_toArray, List.getElem?_cons_succ, List.getElem?_cons_zero]; rfl) (by kernel_rfl) (by kernel_rfl) (by kernel_rfl) (fun _ _ _ h => h) (Or.inl ⟨by rfl, ?_⟩) (by assumption) ?_
          rotate_left 1
          · intro w hSw; (try dsimp only at hSw); go_simp; (try with_reducible rfl)
          try simp only [Act.put, List.setIfInBounds_toArray, List.set_cons_zero, List.set_cons_succ]
          refine wpAnyH_take (i := 4) (v := ?_) (by simp only [List.getElem?_toArray, List.getElem?_cons_succ, List.getElem?_cons_zero]; rfl) (by kernel_rfl) (by kernel_rfl) (by kernel_rfl) (fun _ _ _ h => h) (Or.inl ⟨by rfl, ?_⟩) (by assumption) ?_
          rotate_left 1
          · intro w hSw; (try dsimp only at hSw); go_simp; (try with_reducible rfl)
          try simp only [Act.put, List.setIfInBounds_toArray, List.set_cons_zero, List.set_cons_succ]
          refine wpAnyH_take (i := 5) (v := ?_) (by simp only [List.getElem?_toArray, List.getElem?_cons_succ, List.getElem?_cons_zero]; rfl) (by kernel_rfl) (by kernel_rfl) (by kernel_rfl) (fun _ _ _ h => h) (Or.inl ⟨by rfl, ?_⟩) (by assumption) ?_
          rotate_left 1
          · intro w hSw; (try dsimp only at hSw); go_simp; (try with_reducible rfl)
          try simp only [Act.put, List.setIfInBounds_toArray, List.set_cons_zero, List.set_cons_succ]
          refine wpAnyH_take (i := 6) (v := .pointer (some ⟨gg, i * 6, none⟩)) (by simp only [List.getElem?_toArray, List.getElem?_cons_succ, List.getElem?_cons_zero]; rfl) (by kernel_rfl) (by kernel_rfl) (by kernel_rfl) (fun _ _ _ h => h) (Or.inl ⟨by rfl, ?_⟩) (by assumption) ?_
          · intro w hSw; (try dsimp only at hSw); (try go_simp); ((try rw [if_pos (by omega)]); (try simp); (try (intro h9; omega)))
          try simp only [Act.put, List.setIfInBounds_toArray, List.set_cons_zero, List.set_cons_succ]
          refine wpAnyH_take (i := 7) (v := ?_) (by simp only [List.getElem?_toArray, List.getElem?_cons_succ, List.getElem?_cons_zero]; rfl) (by kernel_rfl) (by kernel_rfl) (by kernel_rfl) (fun _ _ _ h => h) (Or.inl ⟨by rfl, ?_⟩) (by assumption) ?_
          rotate_left 1
          · intro w hSw; (try dsimp only at hSw); go_simp; (try with_reducible rfl)
          try simp only [Act.put, List.setIfInBounds_toArray, List.set_cons_zero, List.set_cons_succ]
          refine wpAnyH_ready (rs := [8]) (by kernel_rfl) (by simp) ?_
          refine AllReadyH.cons (by simp only [List.getElem?_toArray, List.getElem?_cons_succ, List.getElem?_cons_zero]; rfl) (fun K hK => ?_) AllReadyH.nil
          go_simp
          clear hHeld
          refine hK.out _ _ (e5 1) (fun hHeld => ?_)
          clear hK K
          try simp only [Act.put, List.setIfInBounds_toArray, List.set_cons_zero, List.set_cons_succ]
          refine wpAnyH_take (i := 9) (v := ?_) (by simp only [List.getElem?_toArray, List.getElem?_cons_succ, List.getElem?_cons_zero]; rfl) (by kernel_rfl) (by kernel_rfl) (by kernel_rfl) (fun _ _ _ h => h) (Or.inl ⟨by rfl, ?_⟩) (by assumption) ?_
          rotate_left 1
          · intro w hSw; (try dsimp only at hSw); go_simp; (try with_reducible rfl)
          try simp only [Act.put, List.setIfInBounds_toArray, List.set_cons_zero, List.set_cons_succ]
          refine wpAnyH_take (i := 10) (v := .pointer (some ⟨gg, i * 6, none⟩)) (by simp only [List.getElem?_toArray, List.getElem?_cons_succ, List.getElem?_cons_zero]; rfl) (by kernel_rfl) (by kernel_rfl) (by kernel_rfl) (fun _ _ _ h => h) (Or.inl ⟨by rfl, ?_⟩) (by assumption) ?_
          · intro w hSw; (try dsimp only at hSw); (try go_simp); ((try rw [if_pos (by omega)]); (try simp); (try (intro h9; omega)))
          try simp only [Act.put, List.setIfInBounds_toArray, List.set_cons_zero, List.set_cons_succ]
          refine wpAnyH_take (i := 11) (v := ?_) (by simp only [List.getElem?_toArray, List.getElem?_cons_succ, List.getElem?_cons_zero]; rfl) (by kernel_rfl) (by kernel_rfl) (by kernel_rfl) (fun _ _ _ h => h) (Or.inl ⟨by rfl, ?_⟩) (by assumption) ?_
          rotate_left 1
          · intro w hSw; (try dsimp only at hSw); go_simp; (try with_reducible rfl)
          try simp only [Act.put, List.setIfInBounds_toArray, List.set_cons_zero, List.set_cons_succ]
          refine wpAnyH_ready (rs := [12]) (by kernel_rfl) (by simp) ?_
          refine AllReadyH.cons (by simp only [List.getElem?_toArray, List.getElem?_cons_succ, List.getElem?_cons_zero]; rfl) (fun K hK => ?_) AllReadyH.nil
          go_simp
          clear hHeld
          refine hK.out _ _ ((World.cell?_setCell_far _ _ _ _ (by have := HGG.out.1; show gg ≠ w.heap.size; omega)).trans (e5 1)) (fun hHeld => ?_)
          clear hK K
          try simp only [Act.put, List.setIfInBounds_toArray, List.set_cons_zero, List.set_cons_succ]
          refine wpAnyH_done (by kernel_rfl) ?_ _
          refine NoPanic.normal ?_
          go_wp2
          go_roundg (c.gates.length - (i + 1))
          case measure => omega
          case rel => exact ⟨i + 1, hlt, rfl, by go_num, NX.out⟩
        · have hb4 : (g.kind == 3) = false := beq_eq_false_iff_ne.2 hk4
          have NX := hid (NX0.out (fun h => h.elim hk2 hk4))
          clear hk2 hk4 NX0 NX2
          go_wp2
          go_roundg (c.gates.length - (i + 1))
          case measure => omega
          case rel => exact ⟨i + 1, hlt, rfl, by go_num, NX.out⟩
    · obtain rfl : i = c.gates.length := by omega
      have TWE := hid HR1.out.1
      have GRE := hid HR1.out.2
      rw [turnTo_all] at TWE
      obtain ⟨we, hwe⟩ : ∃ we, we = wr := ⟨_, rfl⟩
      subst hwe
      have R8 : Hid (we.heap[w.heap.size]? = some (.cells (#[Value.string c.name, Value.slice (some ⟨gg, 0, none⟩) c.gates.length kg, Value.slice (some ⟨go, 0, none⟩) c.outs.length ko] : Array Value) 26 (0, 0))) := (GRE.out.block _ (Array.getElem?_eq_some_iff.1 R1.out).1 (fun e => by have := HGG.out.1; have := Option.some.inj e; omega)).trans R1.out
      have R9 := hid (CE.out we GRE.out).2.2
      have CE6 : Hid (∀ W, Below we.heap.size we W → ∀ j, W.cell? ⟨w.heap.size, j, none⟩ = (#[Value.string c.name, Value.slice (some ⟨gg, 0, none⟩) c.gates.length kg, Value.slice (some ⟨go, 0, none⟩) c.outs.length ko] : Array Value)[j]?) := fun W hW j => cell_row ((hW.block _ (Array.getElem?_eq_some_iff.1 R8.out).1).trans R8.out) j
      have CC : Hid (∀ W, Below we.heap.size we W → CellsAt W (some ⟨gg, 0, none⟩) (gas (c.gates.map turnO)) ∧ CellsAt W (some ⟨go, 0, none⟩) (nu c.outs)) := fun W hW => ⟨(TWE.out.below hW).cir.gates, (TWE.out.below hW).cir.outs⟩
      have hne1 : w.heap.size + 1 ≠ w.heap.size := by omega
      clear HR1 hi hlt
      go_wp2
      refine wp_region_noPanic ?_
      refine wp_region_held_drew (S := fun W => ∀ j, W.cell? ⟨w.heap.size, j, none⟩ = (#[Value.string c.name, Value.slice (some ⟨gg, 0, none⟩) c.gates.length kg, Value.slice (some ⟨go, 0, none⟩) c.outs.length ko] : Array Value)[j]?) (by kernel_rfl) e5 (fun hHeld => ?_)
      refine wpAnyH_take (i := 0) (v := ?_) (by simp only [List.getElem?_toArray, List.getElem?_cons_zero]; rfl) (by kernel_rfl) (by kernel_rfl) (by kernel_rfl) (fun _ _ _ h => h) (Or.inl ⟨by rfl, ?_⟩) (by assumption) ?_
      rotate_left 1
      · intro w hSw; (try dsimp only at hSw); go_simp; (try with_reducible rfl)
      try simp only [Act.put, List.setIfInBounds_toArray, List.set_cons_zero, List.set_cons_succ]
      refine wpAnyH_take (i := 1) (v := ?_) (by simp only [List.getElem?_toArray, List.getElem?_cons_succ, List.getElem?_cons_zero]; rfl) (by kernel_rfl) (by kernel_rfl) (by kernel_rfl) (fun _ _ _ h => h) (Or.inl ⟨by rfl, ?_⟩) (by assumption) ?_
      rotate_left 1
      · intro w hSw; (try dsimp only at hSw); go_simp; (try with_reducible rfl)
      try simp only [Act.put, List.setIfInBounds_toArray, List.set_cons_zero, List.set_cons_succ]
      refine wpAnyH_take (i := 2) (v := ?_) (by simp only [List.getElem?_toArray, List.getElem?_cons_succ, List.getElem?_cons_zero]; rfl) (by kernel_rfl) (by kernel_rfl) (by kernel_rfl) (fun _ _ _ h => h) (Or.inl ⟨by rfl, ?_⟩) (by assumption) ?_
      rotate_left 1
      · intro w hSw; (try dsimp only at hSw); go_simp; (try with_reducible rfl)
      try simp only [Act.put, List.setIfInBounds_toArray, List.set_cons_zero, List.set_cons_succ]
      refine wpAnyH_take (i := 3) (v := ?_) (by simp only [List.getElem?_toArray, List.getElem?_cons_succ, List.getElem?_cons_zero]; rfl) (by kernel_rfl) (by kernel_rfl) (by kernel_rfl) (fun _ _ _ h => h) (Or.inl ⟨by rfl, ?_⟩) (by assumption) ?_
      rotate_left 1
      · intro w hSw; (try dsimp only at hSw); go_simp; (try with_reducible rfl)
      try simp only [Act.put, List.setIfInBounds_toArray, List.set_cons_zero, List.set_cons_succ]
      refine wpAnyH_take (i := 5) (v := ?_) (by simp only [List.getElem?_toArray, List.getElem?_cons_succ, List.getElem?_cons_zero]; rfl) (by kernel_rfl) (by kernel_rfl) (by kernel_rfl) (fun _ _ _ h => h) (Or.inl ⟨by rfl, ?_⟩) (by assumption) ?_
      rotate_left 1
      · intro w hSw; (try dsimp only at hSw); go_simp; (try with_reducible rfl)
      try simp only [Act.put, List.setIfInBounds_toArray, List.set_cons_zero, List.set_cons_succ]
      refine wpAnyH_take (i := 6) (v := ?_) (by simp only [List.getElem?_toArray, List.getElem?_cons_succ, List.getElem?_cons_zero]; rfl) (by kernel_rfl) (by kernel_rfl) (by kernel_rfl) (fun _ _ _ h => h) (Or.inl ⟨by rfl, ?_⟩) (by assumption) ?_
      rotate_left 1
      · intro w hSw; (try dsimp only at hSw); go_simp; (try with_reducible rfl)
      try simp only [Act.put, List.setIfInBounds_toArray, List.set_cons_zero, List.set_cons_succ]
      refine wpAnyH_ready (rs := [4]) (by kernel_rfl) (by simp) ?_
      refine AllReadyH.cons (by simp only [List.getElem?_toArray, List.getElem?_cons_succ, List.getElem?_cons_zero]; rfl) (fun K hK => ?_) AllReadyH.nil
      skip
      refine wp_cells _ _ 24 rfl we.heap.size 38 _ 6 56 Tryd.underlying24 info38 rfl (by decide) (.slice none 0 0) 0 [] rfl (World.ownsRow_nil _ _ _ _) (some ⟨gg, 0, none⟩) c.gates.length kg (gas (c.gates.map turnO)) rfl (by rw [gas_length, List.length_map]) (CC.out _ (Below.refl _ _).drew).1 (fun e => by cases e) (gas_one _) (by have := LG.out; unfold maxLen; omega) (by have := LG.out; omega) (Nat.le_refl _) ?_
      intro v4 w4 o4 f4
      rw [Nat.zero_add, List.nil_append] at o4
      have O4 := hid o4
      have B4 : Hid (Below we.heap.size we w4) := f4.below (Below.refl _ _).drew (Nat.le_refl _) (fun g hg => by simp [Value.ownBlock] at hg)
      clear o4 f4
      obtain ⟨sg3, kg3, rfl⟩ := own_shape O4.out
      clear hHeld
      refine hK.out _ _ (CE6.out w4 B4.out) (fun hHeld => ?_)
      clear hK K
      try simp only [Act.put, List.setIfInBounds_toArray, List.set_cons_zero, List.set_cons_succ]
      refine wpAnyH_ready (rs := [7]) (by kernel_rfl) (by simp) ?_
      refine AllReadyH.cons (by simp only [List.getElem?_toArray, List.getElem?_cons_succ, List.getElem?_cons_zero]; rfl) (fun K hK => ?_) AllReadyH.nil
      skip
      refine wp_cells _ _ 22 rfl we.heap.size 3 _ 1 8 Tryd.underlying22 info3 rfl (by decide) (.slice none 0 0) 0 [] rfl (World.ownsRow_nil _ _ _ _) (some ⟨go, 0, none⟩) c.outs.length ko (nu c.outs) rfl (by simp [nu]) (CC.out _ B4.out).2 (fun e => by cases e) (nus_one _) (by have := LG.out; unfold maxLen; omega) (by have := LG.out; omega) B4.out.size ?_
      intro v7 w7 o7 f7
      rw [Nat.zero_add, List.nil_append] at o7
      have O7 := hid o7
      have B47 : Hid (Below w4.heap.size w4 w7) := f7.below (Below.refl _ _) (Nat.le_refl _) (fun g hg => by simp [Value.ownBlock] at hg)
      have B7 : Hid (Below we.heap.size we w7) := B4.out.trans (B47.out.mono B4.out.size)
      clear o7 f7
      obtain ⟨so3, ko3, rfl⟩ := own_shape O7.out
      have r7 := (B7.out.block _ (Array.getElem?_eq_some_iff.1 R9.out).1).trans R9.out
      have c7 := fun j => cell_row r7 j
      have f7 := fun j => unfrozen_row r7 j
      have hb7 := (Array.getElem?_eq_some_iff.1 r7).1
      clear hHeld
      refine hK.out _ _ (CE6.out w7 B7.out) (fun hHeld => ?_)
      clear hK K
      try simp only [Act.put, List.setIfInBounds_toArray, List.set_cons_zero, List.set_cons_succ]
      refine wpAnyH_take (i := 8) (v := ?_) (by simp only [List.getElem?_toArray, List.getElem?_cons_succ, List.getElem?_cons_zero]; rfl) (by kernel_rfl) (by kernel_rfl) (by kernel_rfl) (fun _ _ _ h => h) (Or.inl ⟨by rfl, ?_⟩) (by assumption) ?_
      rotate_left 1
      · intro w hSw; (try dsimp only at hSw); go_simp; (try with_reducible rfl)
      try simp only [Act.put, List.setIfInBounds_toArray, List.set_cons_zero, List.set_cons_succ]
      refine wpAnyH_ready (rs := [9]) (by kernel_rfl) (by simp) ?_
      refine AllReadyH.cons (by simp only [List.getElem?_toArray, List.getElem?_cons_succ, List.getElem?_cons_zero]; rfl) (fun K hK => ?_) AllReadyH.nil
      go_simp
      clear hHeld
      refine hK.out _ _ (fun j => (World.cell?_setCell_far _ _ _ _ hne1).trans ((World.cell?_setCell_far _ _ _ _ hne1).trans ((World.cell?_setCell_far _ _ _ _ hne1).trans (CE6.out w7 B7.out j)))) (fun hHeld => ?_)
      clear hK K
      try simp only [Act.put, List.setIfInBounds_toArray, List.set_cons_zero, List.set_cons_succ]
      refine wpAnyH_done (by kernel_rfl) ?_ _
      refine NoPanic.normal ?_
      go_wp2
      obtain ⟨q1, q2⟩ := copy_put (W := w7) (b := w.heap.size + 1) (.string c.name) (.slice sg3 c.gates.length kg3) (.slice so3 c.outs.length ko3) r7
      have z0 := cell_row q1 0
      have z1 := cell_row q1 1
      have z2 := cell_row q1 2
      have tb := T0.out.blocks
      have hl1 : (c.gates.map turnO).length = c.gates.length := by simp
      refine bodyPost_ret (v := .agg #[.string c.name, .slice sg3 c.gates.length kg3, .slice so3 c.outs.length ko3]) (by simp [results, Tryd.results29, go_sem, z0, z1, z2]) rfl ⟨sg3, kg3, so3, ko3, ?_, (TWE.out.below B7.out).aside q2 (by omega) (by omega), ⟨?_, ?_⟩, ?_, ?_, ?_⟩
      · show _ = Ending.returned (.agg #[.string c.name, .slice sg3 (c.gates.map turnO).length kg3, .slice so3 c.outs.length ko3])
        rw [hl1]
      · exact own_aside (cs := [Value.string ⟨#[]⟩, Value.slice none 0 0, Value.slice none 0 0]) (ownsRow_below O4.out B47.out) q2 r7 (by decide)
      · exact own_aside (cs := [Value.string ⟨#[]⟩, Value.slice none 0 0, Value.slice none 0 0]) O7.out q2 r7 (by decide)
      · refine ⟨q2.os.trans (B7.out.os.trans (GRE.out.os.trans BX.out.os)), q2.tape.trans (B7.out.tape.trans (GRE.out.tape.trans BX.out.tape)), q2.output.trans (B7.out.output.trans (GRE.out.output.trans BX.out.output)), Nat.le_trans BX.out.size (Nat.le_trans GRE.out.size (Nat.le_trans B7.out.size q2.size)), fun k hk hne => ?_⟩
        have hx1 := BX.out.size
        have hx2 := GRE.out.size
        have hx3 := B7.out.size
        rw [q2.block k (by omega) (fun e => by have := Option.some.inj e; omega), B7.out.block k (by omega), GRE.out.block k (by omega) hne, BX.out.block k hk]
      · intro b o sp e
        obtain ⟨_, _, hv, _, _, _, hB9⟩ := own_cells O4.out
        cases hv
        exact Nat.le_trans (Nat.le_trans BX.out.size GRE.out.size) (hB9 b o sp e)
      · intro b o sp e
        obtain ⟨_, _, hv, _, _, _, hB9⟩ := own_cells O7.out
        cases hv
        exact Nat.le_trans (Nat.le_trans BX.out.size GRE.out.size) (hB9 b o sp e)
end Go.Proofs.YtfmmmhcpdinhgaaDoor
