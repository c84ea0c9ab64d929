import Derived.Test.YtfmmmhcpdinhgaaDoorZ26
/-
  CircuitSteps: the law.
-/
namespace Go.Proofs.YtfmmmhcpdinhgaaDoor
open Go.RowKit Go.Deep PureNet ShfKit
set_option maxRecDepth 100000

/-- two families, the second in new blocks. -/
theorem fam_join {W W' : World} {B e size : Nat} {L1 L2 : List Rw} (h1 : Fam W B e size L1) (hb : Below W.heap.size W W') (h2 : Fam W' W.heap.size e size L2) (hB : B ≤ W.heap.size) : Fam W' B e size (L1 ++ L2) := by
  have h1' := h1.below hb
  have get : ∀ (i : Nat) (x : Rw), (L1 ++ L2)[i]? = some x → (i < L1.length ∧ L1[i]? = some x) ∨ (L1.length ≤ i ∧ L2[i - L1.length]? = some x) := fun i x hx => by
    by_cases hi : i < L1.length
    · rw [List.getElem?_append_left hi] at hx
      exact .inl ⟨hi, hx⟩
    · rw [List.getElem?_append_right (by omega)] at hx
      exact .inr ⟨by omega, hx⟩
  refine ⟨fun i x hx => ?_, fun i j x y g hx hy hij hg hg2 => ?_⟩
  · rcases get i x hx with ⟨_, h⟩ | ⟨_, h⟩
    · exact h1'.own i x h
    · exact ShfKit.own_base (h2.own _ x h) hB
  · rcases get i x hx with ⟨hi, hx⟩ | ⟨hi, hx⟩
    · rcases get j y hy with ⟨hj, hy⟩ | ⟨hj, hy⟩
      · exact h1.apart i j x y g hx hy hij hg hg2
      · have a := (ShfKit.own_block (h1.own i x hx) hg).2
        have b := (ShfKit.own_block (h2.own _ y hy) hg2).1
        omega
    · rcases get j y hy with ⟨hj, hy⟩ | ⟨hj, hy⟩
      · have a := (ShfKit.own_block (h2.own _ x hx) hg).1
        have b := (ShfKit.own_block (h1.own j y hy) hg2).2
        omega
      · exact h2.apart _ _ x y g hx hy (by omega) hg hg2
theorem fam_one {W : World} {B e size n : Nat} {v : Value} {xs : List Value} (h : W.ownsRow B e size v n xs) : Fam W B e size [(v, n, xs)] :=
  ⟨fun i x hx => by
    match i, hx with
    | 0, hx => cases hx; exact h, fun i j x y g hx hy hij => by
    match i, j, hx, hy, hij with
    | 0, 0, _, _, h => exact absurd rfl h⟩
/-- what the law reads of the answers. -/
structure TenAt (W : World) (so4 sn4 so5 sn5 so6 sn6 sx7 sx8 sx9 : Option Addr) (O N X : List Bool) : Prop where
  h4o : CellsAt W so4 (bo O)
  h4n : CellsAt W sn4 (bo N)
  h5o : CellsAt W so5 (bo O)
  h5n : CellsAt W sn5 (bo N)
  h6o : CellsAt W so6 (bo O)
  h6n : CellsAt W sn6 (bo N)
  h7 : CellsAt W sx7 (bo X)
  h8 : CellsAt W sx8 (bo X)
  h9 : CellsAt W sx9 (bo X)
def prOf (x : Value × List Bool) : Pr := ⟨x.1, x.2, x.1, x.2⟩
def rwOf (x : Value × List Bool) : Rw := (x.1, x.2.length, bo x.2)
/-- lists of their own are lists out of which nothing has been grown. -/
theorem pf_of_fam {W : World} {B : Nat} {L : List (Value × List Bool)} (h : Fam W B 4 1 (L.map rwOf)) : PF W B (L.map prOf) := by
  have get : ∀ (i : Nat) (x : Pr), (L.map prOf)[i]? = some x → ∃ y, L[i]? = some y ∧ x = prOf y ∧ (L.map rwOf)[i]? = some (rwOf y) := fun i x hx => by
    rw [List.getElem?_map, Option.map_eq_some_iff] at hx
    obtain ⟨y, hy, rfl⟩ := hx
    exact ⟨y, hy, rfl, by rw [List.getElem?_map, hy]; rfl⟩
  refine ⟨fun i x hx => ?_, fun i j x y k hx hy hij hk hk2 => ?_⟩
  · obtain ⟨y, _, rfl, hy⟩ := get i x hx
    exact Pair.start (h.own i _ hy)
  · obtain ⟨x', _, rfl, hx'⟩ := get i x hx
    obtain ⟨y', _, rfl, hy'⟩ := get j y hy
    have e1 : x'.1.ownBlock = some k := by rcases hk with h | h <;> exact h
    have e2 : y'.1.ownBlock = some k := by rcases hk2 with h | h <;> exact h
    exact h.apart i j _ _ k hx' hy' hij e1 e2

set_option maxHeartbeats 16000000 in
theorem steps_law (c : Net) (sg so : Option Addr) (cg co : Nat) (ins las : List Bool) (si sl : Option Addr) (ci cl : Nat) (w : World) (hc : CirAt w c sg so) (hkd : KindsAt w) (hsg : sg = none → cg = 0) (hso : so = none → co = 0) (hn : c.name.size ≤ 140737488351232) (hns : ∀ g ∈ c.gates, g.name.size ≤ 140737488351232) (hl : c.gates.length ≤ 1099511627776) (hlo : c.outs.length ≤ 1099511627776)
    (hI : CellsAt w si (bo ins)) (hL : CellsAt w sl (bo las)) (hsi : si = none → ci = 0) (hsl : sl = none → cl = 0) (hli : ins.length ≤ 1099511627776) (hll : las.length ≤ 1099511627776) :
    Calls Tryd.prog 7 #[cirV c sg cg so co, .slice si ins.length ci, .slice sl las.length cl] w fun e w' => e = .returned (.bool true) ∧ Below w.heap.size w w' := by
  obtain ⟨x0, hx0⟩ : ∃ x, x = w.alloc (Obj.cells (#[Value.string c.name, Value.slice sg c.gates.length cg, Value.slice so c.outs.length co] : Array Value) 26) := ⟨_, rfl⟩
  have R0 : Hid (x0.heap[w.heap.size]? = some (.cells (#[Value.string c.name, Value.slice sg c.gates.length cg, Value.slice so c.outs.length co] : Array Value) 26 (0, 0))) := by rw [hx0]; exact heap_alloc_new w _
  have BX0 : Hid (Below w.heap.size w x0) := by rw [hx0]; exact (Below.refl _ _).alloc (Nat.le_refl _) _
  have S0 : Hid (x0.heap.size = w.heap.size + 1) := by rw [hx0]; show _ = _; simp
  have KD : Hid (∀ W, Below w.heap.size w W → KindsAt W) := fun W h => hkd.on h
  have TWN := hid (twin_any c sg so cg co x0 (hc.below BX0.out) hsg hso hl hlo)
  have RM1 : Hid (∀ W, Below w.heap.size w W → Calls Tryd.prog 30 #[.slice si ins.length ci] W fun e w' => ∃ v, e = .returned v ∧ Mk W w' 4 1 v (ins.length + 2) (bo (ins ++ [true, false]))) := fun W hb => roomy_any ins si ci W (hI.below hb) hsi (by omega)
  have RM2 : Hid (∀ W, Below w.heap.size w W → Calls Tryd.prog 30 #[.slice sl las.length cl] W fun e w' => ∃ v, e = .returned v ∧ Mk W w' 4 1 v (las.length + 2) (bo (las ++ [true, false]))) := fun W hb => roomy_any las sl cl W (hL.below hb) hsl (by omega)
  have ST : Hid (∀ (c2 : Net) (W : World) B gg kg go ko sa sb ca cb (I2 : List Bool), c2.gates.length = c.gates.length → c2.outs.length = c.outs.length → c2.name = c.name → (∀ g ∈ c2.gates, g.name.size ≤ 140737488351232) → TwinAt W B c2 gg kg go ko → Below w.heap.size w W → CellsAt W sa (bo I2) → CellsAt W sb (bo las) → I2.length = ins.length → Calls Tryd.prog 15 #[.agg #[.string c.name, .slice (some ⟨gg, 0, none⟩) c.gates.length kg, .slice (some ⟨go, 0, none⟩) c.outs.length ko], .slice sa ins.length ca, .slice sb las.length cb] W fun e w' => StepSays c2 I2 las W.heap.size e w' ∧ Below W.heap.size W w') := fun c2 W B gg kg go ko sa sb ca cb I2 e1 e2 e3 hns2 ht hb ha hbb e4 => by
    have h := step_gen c2 (some ⟨gg, 0, none⟩) (some ⟨go, 0, none⟩) kg ko I2 las sa sb ca cb W ht.cir (hkd.on hb) (by rw [e3]; exact hn) hns2 (by rw [e1]; exact hl) (by rw [e2]; exact hlo) ha hbb
    rw [cirV, e1, e2, e3, e4] at h
    exact h
  have FT : Hid (∀ (c2 : Net) (W : World) B gg kg go ko, c2.gates.length = c.gates.length → c2.outs.length = c.outs.length → c2.name = c.name → (∀ g ∈ c2.gates, g.name.size ≤ 140737488351232) → TwinAt W B c2 gg kg go ko → Below w.heap.size w W → Calls Tryd.prog 11 #[.agg #[.string c.name, .slice (some ⟨gg, 0, none⟩) c.gates.length kg, .slice (some ⟨go, 0, none⟩) c.outs.length ko]] W fun e w' => FirstSays c2 W.heap.size e w' ∧ Below W.heap.size W w') := fun c2 W B gg kg go ko e1 e2 e3 hns2 ht hb => by
    have h := first_gen c2 (some ⟨gg, 0, none⟩) (some ⟨go, 0, none⟩) kg ko W ht.cir (hkd.on hb) (by rw [e3]; exact hn) hns2 (by rw [e1]; exact hl) (by rw [e2]; exact hlo)
    rw [cirV, e1, e2, e3] at h
    exact h
  have RS : Hid (∀ W, Below w.heap.size w W → Calls Tryd.prog 31 #[cirV c sg cg so co, .slice si ins.length ci, .slice sl las.length cl] W fun e w' => StepSays c ins las W.heap.size e w' ∧ Below W.heap.size W w') := fun W hb => rstep_gen c sg so cg co ins las si sl ci cl W (hc.below hb) hn hns hl hlo (hI.below hb) (hL.below hb)
  have RF : Hid (∀ W, Below w.heap.size w W → Calls Tryd.prog 32 #[cirV c sg cg so co] W fun e w' => FirstSays c W.heap.size e w' ∧ Below W.heap.size W w') := fun W hb => rfirst_gen c sg so cg co W (hc.below hb) hn hns hl hlo
  have KT : Hid (∀ W B gg kg go ko, TwinAt W B c gg kg go ko → Below w.heap.size w W → Calls Tryd.prog 24 #[cirV c (some ⟨gg, 0, none⟩) kg (some ⟨go, 0, none⟩) ko, cirV c sg cg so co] W fun e w' => e = .returned (.bool true) ∧ Below W.heap.size W w') := fun W B gg kg go ko ht hb => kept_true c B gg kg go ko sg so cg co W ht (hc.below hb) hl hlo
  have AW : Hid (∀ W, Below w.heap.size w W → CirAt W c sg so ∧ CellsAt W si (bo ins) ∧ CellsAt W sl (bo las)) := fun W hb => ⟨hc.below hb, hI.below hb, hL.below hb⟩
  have LIM := hid (And.intro hn (And.intro hns (And.intro hl hlo)))
  have LIL : Hid (ins.length ≤ 1099511627776 ∧ las.length ≤ 1099511627776) := ⟨hli, hll⟩
  have d0 := fun j => cell_row R0.out j
  have hb0 := (Array.getElem?_eq_some_iff.1 R0.out).1
  have HX0 := hid hx0
  clear hx0 hc hkd hsg hso hn hns hl hlo hI hL hsi hsl
  go_enter Tryd.func7, Tryd.ntmps7
  go_wp2_with (first
    | (rw [← HX0.out])
    | (have q := HX1; clear q; rw [← HX1.out]; clear HX1)
    | (have q := MA; clear q; go_at_call 30; refine Calls.mono (RM2.out w2 (BW.out w2 B2.out)) ?_; rintro e w3 ⟨vb, rfl, hm3⟩; have MB := hid hm3; have B3 : Hid (Below x1.heap.size x1 w3) := B2.out.trans (hm3.below.mono B2.out.size); obtain ⟨gb, cb, rfl, hcb, hgb1, hgb2⟩ := own_some hm3.own (by omega); obtain ⟨a3, e3, hs3, ht3⟩ := CE.out w3 B3.out; clear hm3)
    | (have q := TW1; clear q; go_at_call 30; refine Calls.mono (RM1.out x1 (BW.out x1 (Below.refl _ _))) ?_; rintro e w2 ⟨va, rfl, hm2⟩; have MA := hid hm2; have B2 : Hid (Below x1.heap.size x1 w2) := hm2.below; obtain ⟨ga, ca, rfl, hca, hga1, hga2⟩ := own_some hm2.own (by omega); clear hm2)
    | (go_at_call 20; refine Calls.mono TWN.out ?_; rintro e w1 ⟨gg, kg, go, ko, rfl, tw1, b1⟩; have TW1 := hid tw1; have B1 := hid b1; obtain ⟨x1, hx1⟩ : ∃ x, x = w1.alloc (Obj.cells (#[Value.string c.name, Value.slice (some ⟨gg, 0, none⟩) c.gates.length kg, Value.slice (some ⟨go, 0, none⟩) c.outs.length ko] : Array Value) 26) := ⟨_, rfl⟩; have HX1 := hid hx1; have R1 : Hid (x1.heap[w1.heap.size]? = some (.cells (#[Value.string c.name, Value.slice (some ⟨gg, 0, none⟩) c.gates.length kg, Value.slice (some ⟨go, 0, none⟩) c.outs.length ko] : Array Value) 26 (0, 0))) := (by rw [hx1]; exact heap_alloc_new w1 _); have B11 : Hid (Below w1.heap.size w1 x1) := (by rw [hx1]; exact (Below.refl _ _).alloc (Nat.le_refl _) _); have S1 : Hid (x1.heap.size = w1.heap.size + 1) := (by rw [hx1]; show _ = _; simp); have BW : Hid (∀ W, Below x1.heap.size x1 W → Below w.heap.size w W) := (fun W hW => BX0.out.trans (((b1.trans (B11.out.mono b1.size)).trans (hW.mono (Nat.le_trans b1.size B11.out.size))).mono BX0.out.size)); have TWA : Hid (∀ W, Below x1.heap.size x1 W → TwinAt W x0.heap.size c gg kg go ko) := (fun W hW => (tw1.below B11.out).below hW); have CE : Hid (∀ W, Below x1.heap.size x1 W → (∀ j, W.cell? ⟨w.heap.size, j, none⟩ = (#[Value.string c.name, Value.slice sg c.gates.length cg, Value.slice so c.outs.length co] : Array Value)[j]?) ∧ (∀ j, W.cell? ⟨w1.heap.size, j, none⟩ = (#[Value.string c.name, Value.slice (some ⟨gg, 0, none⟩) c.gates.length kg, Value.slice (some ⟨go, 0, none⟩) c.outs.length ko] : Array Value)[j]?) ∧ w.heap.size < W.heap.size ∧ w1.heap.size < W.heap.size) := (fun W hW => by
        have h2 := (hW.block _ (Array.getElem?_eq_some_iff.1 R1.out).1).trans R1.out
        have h3 := (b1.block _ (Array.getElem?_eq_some_iff.1 R0.out).1).trans R0.out
        have h4 := (B11.out.block _ (Array.getElem?_eq_some_iff.1 h3).1).trans h3
        have h5 := (hW.block _ (Array.getElem?_eq_some_iff.1 h4).1).trans h4
        exact ⟨fun j => cell_row h5 j, fun j => cell_row h2 j, (Array.getElem?_eq_some_iff.1 h5).1, (Array.getElem?_eq_some_iff.1 h2).1⟩); clear tw1 b1 hx1))
  have hca2 : ins.length ≤ ca := by omega
  have hcb2 : las.length ≤ cb := by omega
  have OAB : Hid (∀ W, Below w3.heap.size w3 W → CellsAt W (some ⟨ga, 0, none⟩) (bo ins) ∧ CellsAt W (some ⟨gb, 0, none⟩) (bo las)) := fun W hW => by
    have h1 := ownsRow_below (ownsRow_below MA.out.own MB.out.below) hW
    have h2 := ownsRow_below MB.out.own hW
    have c1 := own_cells4 h1
    have c2 := own_cells4 h2
    rw [bo_app] at c1 c2
    exact ⟨c1.front, c2.front⟩
  have SP : Hid (∀ W, Below w3.heap.size w3 W → Calls Tryd.prog 15 #[.agg #[.string c.name, .slice (some ⟨gg, 0, none⟩) c.gates.length kg, .slice (some ⟨go, 0, none⟩) c.outs.length ko], .slice (some ⟨ga, 0, none⟩) ins.length ca, .slice (some ⟨gb, 0, none⟩) las.length cb] W fun e w' => StepSays c ins las W.heap.size e w' ∧ Below W.heap.size W w') := fun W hW => ST.out c W _ gg kg go ko _ _ ca cb ins rfl rfl rfl LIM.out.2.1 (TWA.out W (B3.out.trans (hW.mono B3.out.size))) (BW.out W (B3.out.trans (hW.mono B3.out.size))) (OAB.out W hW).1 (OAB.out W hW).2 rfl
  have E7 : Hid (∀ W, Below w3.heap.size w3 W → (∀ j, W.cell? ⟨w1.heap.size, j, none⟩ = (#[Value.string c.name, Value.slice (some ⟨gg, 0, none⟩) c.gates.length kg, Value.slice (some ⟨go, 0, none⟩) c.outs.length ko] : Array Value)[j]?) ∧ (∀ j, W.cell? ⟨w.heap.size, j, none⟩ = (#[Value.string c.name, Value.slice sg c.gates.length cg, Value.slice so c.outs.length co] : Array Value)[j]?) ∧ w.heap.size < W.heap.size ∧ w1.heap.size < W.heap.size) := fun W hW => by
    obtain ⟨h1, h2, h3, h4⟩ := CE.out W (B3.out.trans (hW.mono B3.out.size))
    exact ⟨h2, h1, h3, h4⟩
  refine wp_region_noPanic ?_
  refine wp_region_held_drew (S := fun W => ∀ j, W.cell? ⟨w1.heap.size, j, none⟩ = (#[Value.string c.name, Value.slice (some ⟨gg, 0, none⟩) c.gates.length kg, Value.slice (some ⟨go, 0, none⟩) c.outs.length ko] : Array Value)[j]?) (by kernel_rfl) (E7.out _ (Below.refl _ _).drew).1 (fun hHeld => ?_)
  refine wpAnyH_take (i := 0) (v := ?_) (by simp only [List.getElem?_toArray, List.getElem?_cons_zero]; rfl) (by kernel_rfl) (by kernel_rfl) (by kernel_rfl) (fun _ _ _ h => h) (Or.inl ⟨by rfl, ?_⟩) (by assumption) ?_
  rotate_left 1
  · intro w hSw; (try dsimp only at hSw); go_simp; (try with_reducible rfl)
  try simp only [Act.put, List.setIfInBounds_toArray, List.set_cons_zero, List.set_cons_succ]
  refine wpAnyH_take (i := 1) (v := ?_) (by simp only [List.getElem?_toArray, List.getElem?_cons_succ, List.getElem?_cons_zero]; rfl) (by kernel_rfl) (by kernel_rfl) (by kernel_rfl) (fun _ _ _ h => h) (Or.inl ⟨by rfl, ?_⟩) (by assumption) ?_
  rotate_left 1
  · intro w hSw; (try dsimp only at hSw); go_simp; (try with_reducible rfl)
  try simp only [Act.put, List.setIfInBounds_toArray, List.set_cons_zero, List.set_cons_succ]
  refine wpAnyH_take (i := 2) (v := ?_) (by simp only [List.getElem?_toArray, List.getElem?_cons_succ, List.getElem?_cons_zero]; rfl) (by kernel_rfl) (by kernel_rfl) (by kernel_rfl) (fun _ _ _ h => h) (Or.inl ⟨by rfl, ?_⟩) (by assumption) ?_
  rotate_left 1
  · intro w hSw; (try dsimp only at hSw); go_simp; (try with_reducible rfl)
  try simp only [Act.put, List.setIfInBounds_toArray, List.set_cons_zero, List.set_cons_succ]
  refine wpAnyH_take (i := 3) (v := ?_) (by simp only [List.getElem?_toArray, List.getElem?_cons_succ, List.getElem?_cons_zero]; rfl) (by kernel_rfl) (by kernel_rfl) (by kernel_rfl) (fun _ _ _ h => h) (Or.inl ⟨by rfl, ?_⟩) (by assumption) ?_
  rotate_left 1
  · intro w hSw; (try dsimp only at hSw); go_simp; (try with_reducible rfl)
  try simp only [Act.put, List.setIfInBounds_toArray, List.set_cons_zero, List.set_cons_succ]
  refine wpAnyH_take (i := 4) (v := .slice (some ⟨ga, 0, none⟩) ins.length ca) (by simp only [List.getElem?_toArray, List.getElem?_cons_succ, List.getElem?_cons_zero]; rfl) (by kernel_rfl) (by kernel_rfl) (by kernel_rfl) (fun _ _ _ h => h) (Or.inl ⟨by rfl, ?_⟩) (by assumption) ?_
  · intro w hSw; (try dsimp only at hSw); (try go_simp); ((try rw [if_pos (by omega)]); (try simp); (try omega))
  try simp only [Act.put, List.setIfInBounds_toArray, List.set_cons_zero, List.set_cons_succ]
  refine wpAnyH_take (i := 5) (v := ?_) (by simp only [List.getElem?_toArray, List.getElem?_cons_succ, List.getElem?_cons_zero]; rfl) (by kernel_rfl) (by kernel_rfl) (by kernel_rfl) (fun _ _ _ h => h) (Or.inl ⟨by rfl, ?_⟩) (by assumption) ?_
  rotate_left 1
  · intro w hSw; (try dsimp only at hSw); go_simp; (try with_reducible rfl)
  try simp only [Act.put, List.setIfInBounds_toArray, List.set_cons_zero, List.set_cons_succ]
  refine wpAnyH_take (i := 6) (v := ?_) (by simp only [List.getElem?_toArray, List.getElem?_cons_succ, List.getElem?_cons_zero]; rfl) (by kernel_rfl) (by kernel_rfl) (by kernel_rfl) (fun _ _ _ h => h) (Or.inl ⟨by rfl, ?_⟩) (by assumption) ?_
  rotate_left 1
  · intro w hSw; (try dsimp only at hSw); go_simp; (try with_reducible rfl)
  try simp only [Act.put, List.setIfInBounds_toArray, List.set_cons_zero, List.set_cons_succ]
  refine wpAnyH_take (i := 7) (v := ?_) (by simp only [List.getElem?_toArray, List.getElem?_cons_succ, List.getElem?_cons_zero]; rfl) (by kernel_rfl) (by kernel_rfl) (by kernel_rfl) (fun _ _ _ h => h) (Or.inl ⟨by rfl, ?_⟩) (by assumption) ?_
  rotate_left 1
  · intro w hSw; (try dsimp only at hSw); go_simp; (try with_reducible rfl)
  try simp only [Act.put, List.setIfInBounds_toArray, List.set_cons_zero, List.set_cons_succ]
  refine wpAnyH_take (i := 8) (v := .slice (some ⟨gb, 0, none⟩) las.length cb) (by simp only [List.getElem?_toArray, List.getElem?_cons_succ, List.getElem?_cons_zero]; rfl) (by kernel_rfl) (by kernel_rfl) (by kernel_rfl) (fun _ _ _ h => h) (Or.inl ⟨by rfl, ?_⟩) (by assumption) ?_
  · intro w hSw; (try dsimp only at hSw); (try go_simp); ((try rw [if_pos (by omega)]); (try simp); (try omega))
  try simp only [Act.put, List.setIfInBounds_toArray, List.set_cons_zero, List.set_cons_succ]
  refine wpAnyH_ready (rs := [9]) (by kernel_rfl) (by simp) ?_
  refine AllReadyH.cons (by simp only [List.getElem?_toArray, List.getElem?_cons_succ, List.getElem?_cons_zero]; rfl) (fun K hK => ?_) AllReadyH.nil
  go_simp
  go_at_call 15
  refine Calls.mono (SP.out _ (Below.refl _ _).drew) ?_
  rintro e w4 ⟨⟨o4, n4, O, N, r, hR, rfl, fam4⟩, b4⟩
  have HR := hid hR
  have F4 := hid (show Fam w4 w3.heap.size 4 1 [(o4, O.length, bo O), (n4, N.length, bo N)] from fam4)
  have B34 : Hid (Below w3.heap.size w3 w4) := (Below.refl w3.heap.size w3).drew.trans b4
  clear hR fam4 b4
  obtain ⟨so4, co4, ho4⟩ := own_shape (F4.out.own 0 _ rfl)
  have ho4 : o4 = .slice so4 O.length co4 := ho4
  subst ho4
  obtain ⟨sn4, cn4, hn4⟩ := own_shape (F4.out.own 1 _ rfl)
  have hn4 : n4 = .slice sn4 N.length cn4 := hn4
  subst hn4
  clear hHeld
  refine hK.out _ _ (E7.out w4 B34.out).1 (fun hHeld => ?_)
  clear hK K
  try simp only [Act.put, List.setIfInBounds_toArray, List.set_cons_zero, List.set_cons_succ]
  refine wpAnyH_take (i := 10) (v := ?_) (by simp only [List.getElem?_toArray, List.getElem?_cons_succ, List.getElem?_cons_zero]; rfl) (by kernel_rfl) (by kernel_rfl) (by kernel_rfl) (fun _ _ _ h => h) (Or.inl ⟨by rfl, ?_⟩) (by assumption) ?_
  rotate_left 1
  · intro w hSw; (try dsimp only at hSw); go_simp; (try with_reducible rfl)
  try simp only [Act.put, List.setIfInBounds_toArray, List.set_cons_zero, List.set_cons_succ]
  refine wpAnyH_take (i := 11) (v := ?_) (by simp only [List.getElem?_toArray, List.getElem?_cons_succ, List.getElem?_cons_zero]; rfl) (by kernel_rfl) (by kernel_rfl) (by kernel_rfl) (fun _ _ _ h => h) (Or.inl ⟨by rfl, ?_⟩) (by assumption) ?_
  rotate_left 1
  · intro w hSw; (try dsimp only at hSw); go_simp; (try with_reducible rfl)
  try simp only [Act.put, List.setIfInBounds_toArray, List.set_cons_zero, List.set_cons_succ]
  refine wpAnyH_take (i := 12) (v := ?_) (by simp only [List.getElem?_toArray, List.getElem?_cons_succ, List.getElem?_cons_zero]; rfl) (by kernel_rfl) (by kernel_rfl) (by kernel_rfl) (fun _ _ _ h => h) (Or.inl ⟨by rfl, ?_⟩) (by assumption) ?_
  rotate_left 1
  · intro w hSw; (try dsimp only at hSw); go_simp; (try with_reducible rfl)
  try simp only [Act.put, List.setIfInBounds_toArray, List.set_cons_zero, List.set_cons_succ]
  refine wpAnyH_take (i := 13) (v := ?_) (by simp only [List.getElem?_toArray, List.getElem?_cons_succ, List.getElem?_cons_zero]; rfl) (by kernel_rfl) (by kernel_rfl) (by kernel_rfl) (fun _ _ _ h => h) (Or.inl ⟨by rfl, ?_⟩) (by assumption) ?_
  rotate_left 1
  · intro w hSw; (try dsimp only at hSw); go_simp; (try with_reducible rfl)
  try simp only [Act.put, List.setIfInBounds_toArray, List.set_cons_zero, List.set_cons_succ]
  refine wpAnyH_take (i := 14) (v := ?_) (by simp only [List.getElem?_toArray, List.getElem?_cons_succ, List.getElem?_cons_zero]; rfl) (by kernel_rfl) (by kernel_rfl) (by kernel_rfl) (fun _ _ _ h => h) (Or.inl ⟨by rfl, ?_⟩) (by assumption) ?_
  rotate_left 1
  · intro w hSw; (try dsimp only at hSw); go_simp; (try with_reducible rfl)
  try simp only [Act.put, List.setIfInBounds_toArray, List.set_cons_zero, List.set_cons_succ]
  refine wpAnyH_take (i := 15) (v := ?_) (by simp only [List.getElem?_toArray, List.getElem?_cons_succ, List.getElem?_cons_zero]; rfl) (by kernel_rfl) (by kernel_rfl) (by kernel_rfl) (fun _ _ _ h => h) (Or.inl ⟨by rfl, ?_⟩) (by assumption) ?_
  rotate_left 1
  · intro w hSw; (try dsimp only at hSw); go_simp; (try with_reducible rfl)
  try simp only [Act.put, List.setIfInBounds_toArray, List.set_cons_zero, List.set_cons_succ]
  refine wpAnyH_take (i := 16) (v := ?_) (by simp only [List.getElem?_toArray, List.getElem?_cons_succ, List.getElem?_cons_zero]; rfl) (by kernel_rfl) (by kernel_rfl) (by kernel_rfl) (fun _ _ _ h => h) (Or.inl ⟨by rfl, ?_⟩) (by assumption) ?_
  rotate_left 1
  · intro w hSw; (try dsimp only at hSw); go_simp; (try with_reducible rfl)
  try simp only [Act.put, List.setIfInBounds_toArray, List.set_cons_zero, List.set_cons_succ]
  refine wpAnyH_done (by kernel_rfl) ?_ _
  refine NoPanic.normal ?_
  go_wp2
  refine wp_region_noPanic ?_
  refine wp_region_held_drew (S := fun W => ∀ j, W.cell? ⟨w1.heap.size, j, none⟩ = (#[Value.string c.name, Value.slice (some ⟨gg, 0, none⟩) c.gates.length kg, Value.slice (some ⟨go, 0, none⟩) c.outs.length ko] : Array Value)[j]?) (by kernel_rfl) (E7.out _ B34.out.drew).1 (fun hHeld => ?_)
  refine wpAnyH_take (i := 0) (v := ?_) (by simp only [List.getElem?_toArray, List.getElem?_cons_zero]; rfl) (by kernel_rfl) (by kernel_rfl) (by kernel_rfl) (fun _ _ _ h => h) (Or.inl ⟨by rfl, ?_⟩) (by assumption) ?_
  rotate_left 1
  · intro w hSw; (try dsimp only at hSw); go_simp; (try with_reducible rfl)
  try simp only [Act.put, List.setIfInBounds_toArray, List.set_cons_zero, List.set_cons_succ]
  refine wpAnyH_take (i := 1) (v := ?_) (by simp only [List.getElem?_toArray, List.getElem?_cons_succ, List.getElem?_cons_zero]; rfl) (by kernel_rfl) (by kernel_rfl) (by kernel_rfl) (fun _ _ _ h => h) (Or.inl ⟨by rfl, ?_⟩) (by assumption) ?_
  rotate_left 1
  · intro w hSw; (try dsimp only at hSw); go_simp; (try with_reducible rfl)
  try simp only [Act.put, List.setIfInBounds_toArray, List.set_cons_zero, List.set_cons_succ]
  refine wpAnyH_take (i := 2) (v := ?_) (by simp only [List.getElem?_toArray, List.getElem?_cons_succ, List.getElem?_cons_zero]; rfl) (by kernel_rfl) (by kernel_rfl) (by kernel_rfl) (fun _ _ _ h => h) (Or.inl ⟨by rfl, ?_⟩) (by assumption) ?_
  rotate_left 1
  · intro w hSw; (try dsimp only at hSw); go_simp; (try with_reducible rfl)
  try simp only [Act.put, List.setIfInBounds_toArray, List.set_cons_zero, List.set_cons_succ]
  refine wpAnyH_take (i := 3) (v := ?_) (by simp only [List.getElem?_toArray, List.getElem?_cons_succ, List.getElem?_cons_zero]; rfl) (by kernel_rfl) (by kernel_rfl) (by kernel_rfl) (fun _ _ _ h => h) (Or.inl ⟨by rfl, ?_⟩) (by assumption) ?_
  rotate_left 1
  · intro w hSw; (try dsimp only at hSw); go_simp; (try with_reducible rfl)
  try simp only [Act.put, List.setIfInBounds_toArray, List.set_cons_zero, List.set_cons_succ]
  refine wpAnyH_take (i := 4) (v := .slice (some ⟨ga, 0, none⟩) ins.length ca) (by simp only [List.getElem?_toArray, List.getElem?_cons_succ, List.getElem?_cons_zero]; rfl) (by kernel_rfl) (by kernel_rfl) (by kernel_rfl) (fun _ _ _ h => h) (Or.inl ⟨by rfl, ?_⟩) (by assumption) ?_
  · intro w hSw; (try dsimp only at hSw); (try go_simp); ((try rw [if_pos (by omega)]); (try simp); (try omega))
  try simp only [Act.put, List.setIfInBounds_toArray, List.set_cons_zero, List.set_cons_succ]
  refine wpAnyH_take (i := 5) (v := ?_) (by simp only [List.getElem?_toArray, List.getElem?_cons_succ, List.getElem?_cons_zero]; rfl) (by kernel_rfl) (by kernel_rfl) (by kernel_rfl) (fun _ _ _ h => h) (Or.inl ⟨by rfl, ?_⟩) (by assumption) ?_
  rotate_left 1
  · intro w hSw; (try dsimp only at hSw); go_simp; (try with_reducible rfl)
  try simp only [Act.put, List.setIfInBounds_toArray, List.set_cons_zero, List.set_cons_succ]
  refine wpAnyH_take (i := 6) (v := ?_) (by simp only [List.getElem?_toArray, List.getElem?_cons_succ, List.getElem?_cons_zero]; rfl) (by kernel_rfl) (by kernel_rfl) (by kernel_rfl) (fun _ _ _ h => h) (Or.inl ⟨by rfl, ?_⟩) (by assumption) ?_
  rotate_left 1
  · intro w hSw; (try dsimp only at hSw); go_simp; (try with_reducible rfl)
  try simp only [Act.put, List.setIfInBounds_toArray, List.set_cons_zero, List.set_cons_succ]
  refine wpAnyH_take (i := 7) (v := ?_) (by simp only [List.getElem?_toArray, List.getElem?_cons_succ, List.getElem?_cons_zero]; rfl) (by kernel_rfl) (by kernel_rfl) (by kernel_rfl) (fun _ _ _ h => h) (Or.inl ⟨by rfl, ?_⟩) (by assumption) ?_
  rotate_left 1
  · intro w hSw; (try dsimp only at hSw); go_simp; (try with_reducible rfl)
  try simp only [Act.put, List.setIfInBounds_toArray, List.set_cons_zero, List.set_cons_succ]
  refine wpAnyH_take (i := 8) (v := .slice (some ⟨gb, 0, none⟩) las.length cb) (by simp only [List.getElem?_toArray, List.getElem?_cons_succ, List.getElem?_cons_zero]; rfl) (by kernel_rfl) (by kernel_rfl) (by kernel_rfl) (fun _ _ _ h => h) (Or.inl ⟨by rfl, ?_⟩) (by assumption) ?_
  · intro w hSw; (try dsimp only at hSw); (try go_simp); ((try rw [if_pos (by omega)]); (try simp); (try omega))
  try simp only [Act.put, List.setIfInBounds_toArray, List.set_cons_zero, List.set_cons_succ]
  refine wpAnyH_ready (rs := [9]) (by kernel_rfl) (by simp) ?_
  refine AllReadyH.cons (by simp only [List.getElem?_toArray, List.getElem?_cons_succ, List.getElem?_cons_zero]; rfl) (fun K hK => ?_) AllReadyH.nil
  go_simp
  go_at_call 15
  refine Calls.mono (SP.out _ B34.out.drew) ?_
  rintro e w5 ⟨⟨o5, n5, O5, N5, r5, hR5, rfl, fam5⟩, b5⟩
  obtain ⟨rfl, rfl, rfl⟩ := HR.out.one hR5
  have F5 := hid (show Fam w5 w4.heap.size 4 1 [(o5, O.length, bo O), (n5, N.length, bo N)] from fam5)
  have B45 : Hid (Below w4.heap.size w4 w5) := (Below.refl w4.heap.size w4).drew.trans b5
  have B35 : Hid (Below w3.heap.size w3 w5) := B34.out.trans (B45.out.mono B34.out.size)
  clear hR5 fam5 b5
  obtain ⟨so5, co5, ho5⟩ := own_shape (F5.out.own 0 _ rfl)
  have ho5 : o5 = .slice so5 O.length co5 := ho5
  subst ho5
  obtain ⟨sn5, cn5, hn5⟩ := own_shape (F5.out.own 1 _ rfl)
  have hn5 : n5 = .slice sn5 N.length cn5 := hn5
  subst hn5
  clear hHeld
  refine hK.out _ _ (E7.out w5 B35.out).1 (fun hHeld => ?_)
  clear hK K
  try simp only [Act.put, List.setIfInBounds_toArray, List.set_cons_zero, List.set_cons_succ]
  refine wpAnyH_take (i := 10) (v := ?_) (by simp only [List.getElem?_toArray, List.getElem?_cons_succ, List.getElem?_cons_zero]; rfl) (by kernel_rfl) (by kernel_rfl) (by kernel_rfl) (fun _ _ _ h => h) (Or.inl ⟨by rfl, ?_⟩) (by assumption) ?_
  rotate_left 1
  · intro w hSw; (try dsimp only at hSw); go_simp; (try with_reducible rfl)
  try simp only [Act.put, List.setIfInBounds_toArray, List.set_cons_zero, List.set_cons_succ]
  refine wpAnyH_take (i := 11) (v := ?_) (by simp only [List.getElem?_toArray, List.getElem?_cons_succ, List.getElem?_cons_zero]; rfl) (by kernel_rfl) (by kernel_rfl) (by kernel_rfl) (fun _ _ _ h => h) (Or.inl ⟨by rfl, ?_⟩) (by assumption) ?_
  rotate_left 1
  · intro w hSw; (try dsimp only at hSw); go_simp; (try with_reducible rfl)
  try simp only [Act.put, List.setIfInBounds_toArray, List.set_cons_zero, List.set_cons_succ]
  refine wpAnyH_take (i := 12) (v := ?_) (by simp only [List.getElem?_toArray, List.getElem?_cons_succ, List.getElem?_cons_zero]; rfl) (by kernel_rfl) (by kernel_rfl) (by kernel_rfl) (fun _ _ _ h => h) (Or.inl ⟨by rfl, ?_⟩) (by assumption) ?_
  rotate_left 1
  · intro w hSw; (try dsimp only at hSw); go_simp; (try with_reducible rfl)
  try simp only [Act.put, List.setIfInBounds_toArray, List.set_cons_zero, List.set_cons_succ]
  refine wpAnyH_take (i := 13) (v := ?_) (by simp only [List.getElem?_toArray, List.getElem?_cons_succ, List.getElem?_cons_zero]; rfl) (by kernel_rfl) (by kernel_rfl) (by kernel_rfl) (fun _ _ _ h => h) (Or.inl ⟨by rfl, ?_⟩) (by assumption) ?_
  rotate_left 1
  · intro w hSw; (try dsimp only at hSw); go_simp; (try with_reducible rfl)
  try simp only [Act.put, List.setIfInBounds_toArray, List.set_cons_zero, List.set_cons_succ]
  refine wpAnyH_take (i := 14) (v := ?_) (by simp only [List.getElem?_toArray, List.getElem?_cons_succ, List.getElem?_cons_zero]; rfl) (by kernel_rfl) (by kernel_rfl) (by kernel_rfl) (fun _ _ _ h => h) (Or.inl ⟨by rfl, ?_⟩) (by assumption) ?_
  rotate_left 1
  · intro w hSw; (try dsimp only at hSw); go_simp; (try with_reducible rfl)
  try simp only [Act.put, List.setIfInBounds_toArray, List.set_cons_zero, List.set_cons_succ]
  refine wpAnyH_take (i := 15) (v := ?_) (by simp only [List.getElem?_toArray, List.getElem?_cons_succ, List.getElem?_cons_zero]; rfl) (by kernel_rfl) (by kernel_rfl) (by kernel_rfl) (fun _ _ _ h => h) (Or.inl ⟨by rfl, ?_⟩) (by assumption) ?_
  rotate_left 1
  · intro w hSw; (try dsimp only at hSw); go_simp; (try with_reducible rfl)
  try simp only [Act.put, List.setIfInBounds_toArray, List.set_cons_zero, List.set_cons_succ]
  refine wpAnyH_take (i := 16) (v := ?_) (by simp only [List.getElem?_toArray, List.getElem?_cons_succ, List.getElem?_cons_zero]; rfl) (by kernel_rfl) (by kernel_rfl) (by kernel_rfl) (fun _ _ _ h => h) (Or.inl ⟨by rfl, ?_⟩) (by assumption) ?_
  rotate_left 1
  · intro w hSw; (try dsimp only at hSw); go_simp; (try with_reducible rfl)
  try simp only [Act.put, List.setIfInBounds_toArray, List.set_cons_zero, List.set_cons_succ]
  refine wpAnyH_done (by kernel_rfl) ?_ _
  refine NoPanic.normal ?_
  obtain ⟨e5, a5, hs5, ht5⟩ := E7.out w5 B35.out
  have BWX : Hid (∀ W, Below w3.heap.size w3 W → Below x1.heap.size x1 W ∧ Below w.heap.size w W) := fun W hW => ⟨B3.out.trans (hW.mono B3.out.size), BW.out W (B3.out.trans (hW.mono B3.out.size))⟩
  have FG : Hid (∀ W, Below w3.heap.size w3 W → Calls Tryd.prog 11 #[cirV c (some ⟨gg, 0, none⟩) kg (some ⟨go, 0, none⟩) ko] W fun e w' => FirstSays c W.heap.size e w' ∧ Below W.heap.size W w') := fun W hW => FT.out c W _ gg kg go ko rfl rfl rfl LIM.out.2.1 (TWA.out W (BWX.out W hW).1) (BWX.out W hW).2
  clear a3 e3 hs3 ht3 d0 hb0
  go_wp2_with (first
    | (have q := OX8; clear q; go_at_call 32; refine Calls.mono (RF.out w8 (BWX.out w8 B38.out).2) ?_; rintro e w9 ⟨⟨x9, X9, r9, hX9, rfl, ox9⟩, b9⟩; obtain ⟨rfl, rfl⟩ := HX.out.one hX9; obtain ⟨sx9, cx9, rfl⟩ := own_shape ox9; have OX9 := hid ox9; have B89 := hid b9; have B39 : Hid (Below w3.heap.size w3 w9) := B38.out.trans (b9.mono B38.out.size); clear hX9 ox9 b9)
    | (have q := OX7; clear q; go_at_call 11; refine Calls.mono (FG.out w7 B37.out) ?_; rintro e w8 ⟨⟨x8, X8, r8, hX8, rfl, ox8⟩, b8⟩; obtain ⟨rfl, rfl⟩ := HX.out.one hX8; obtain ⟨sx8, cx8, rfl⟩ := own_shape ox8; have OX8 := hid ox8; have B78 := hid b8; have B38 : Hid (Below w3.heap.size w3 w8) := B37.out.trans (b8.mono B37.out.size); obtain ⟨e8, a8, hs8, ht8⟩ := E7.out w8 B38.out; clear hX8 ox8 b8)
    | (have q := F6; clear q; go_at_call 11; refine Calls.mono (FG.out w6 B36.out) ?_; rintro e w7 ⟨⟨x7, X, rx, hX, rfl, ox7⟩, b7⟩; have HX := hid hX; obtain ⟨sx7, cx7, rfl⟩ := own_shape ox7; have OX7 := hid ox7; have B67 := hid b7; have B37 : Hid (Below w3.heap.size w3 w7) := B36.out.trans (b7.mono B36.out.size); obtain ⟨e7, a7, hs7, ht7⟩ := E7.out w7 B37.out; clear hX ox7 b7)
    | (go_at_call 31; refine Calls.mono (RS.out w5 (BWX.out w5 B35.out).2) ?_; rintro e w6 ⟨⟨o6, n6, O6, N6, r6, hR6, rfl, fam6⟩, b6⟩; obtain ⟨rfl, rfl, rfl⟩ := HR.out.one hR6; have F6 := hid fam6; have B56 := hid b6; have B36 : Hid (Below w3.heap.size w3 w6) := B35.out.trans (b6.mono B35.out.size); obtain ⟨so6, co6, ho6⟩ := own_shape (F6.out.own 0 _ rfl); have ho6 : o6 = .slice so6 O.length co6 := ho6; subst ho6; obtain ⟨sn6, cn6, hn6⟩ := own_shape (F6.out.own 1 _ rfl); have hn6 : n6 = .slice sn6 N.length cn6 := hn6; subst hn6; obtain ⟨e6, a6, hs6, ht6⟩ := E7.out w6 B36.out; clear hR6 fam6 b6)
    | (have q := OX9; clear q; go_at_call 16; fail))
  have B58 : Hid (Below w5.heap.size w5 w8) := B56.out.trans ((B67.out.trans (B78.out.mono B67.out.size)).mono B56.out.size)
  have B59 : Hid (Below w5.heap.size w5 w9) := B58.out.trans (B89.out.mono B58.out.size)
  have B49 : Hid (Below w4.heap.size w4 w9) := B45.out.trans (B59.out.mono B45.out.size)
  have B69 : Hid (Below w6.heap.size w6 w9) := B67.out.trans ((B78.out.trans (B89.out.mono B78.out.size)).mono B67.out.size)
  have B79 : Hid (Below w7.heap.size w7 w9) := B78.out.trans (B89.out.mono B78.out.size)
  have FEW : Hid (O.length ≤ 65536 ∧ N.length ≤ 65536 ∧ X.length ≤ 65536) := ⟨HR.out.few.1, HR.out.few.2, HX.out.few⟩
  have TF : Hid (TenAt w9 so4 sn4 so5 sn5 so6 sn6 sx7 sx8 sx9 O N X) := ⟨(own_cells4 (F4.out.own 0 _ rfl)).below B49.out, (own_cells4 (F4.out.own 1 _ rfl)).below B49.out, (own_cells4 (F5.out.own 0 _ rfl)).below B59.out, (own_cells4 (F5.out.own 1 _ rfl)).below B59.out, (own_cells4 (F6.out.own 0 _ rfl)).below B69.out, (own_cells4 (F6.out.own 1 _ rfl)).below B69.out, (own_cells4 OX7.out).below B79.out, (own_cells4 OX8.out).below B89.out, own_cells4 OX9.out⟩
  have T1 : Hid (∀ W, Below w9.heap.size w9 W → Calls Tryd.prog 16 #[.slice so4 O.length co4, .slice so6 O.length co6] W fun e w' => e = .returned (.bool true) ∧ Below W.heap.size W w') := fun W hW => truths_true O so4 so6 co4 co6 W (TF.out.h4o.below hW) (TF.out.h6o.below hW) (by have := FEW.out; omega)
  have T2 : Hid (∀ W, Below w9.heap.size w9 W → Calls Tryd.prog 16 #[.slice sn4 N.length cn4, .slice sn6 N.length cn6] W fun e w' => e = .returned (.bool true) ∧ Below W.heap.size W w') := fun W hW => truths_true N sn4 sn6 cn4 cn6 W (TF.out.h4n.below hW) (TF.out.h6n.below hW) (by have := FEW.out; omega)
  have T3 : Hid (∀ W, Below w9.heap.size w9 W → Calls Tryd.prog 16 #[.slice so5 O.length co5, .slice so6 O.length co6] W fun e w' => e = .returned (.bool true) ∧ Below W.heap.size W w') := fun W hW => truths_true O so5 so6 co5 co6 W (TF.out.h5o.below hW) (TF.out.h6o.below hW) (by have := FEW.out; omega)
  have T4 : Hid (∀ W, Below w9.heap.size w9 W → Calls Tryd.prog 16 #[.slice sn5 N.length cn5, .slice sn6 N.length cn6] W fun e w' => e = .returned (.bool true) ∧ Below W.heap.size W w') := fun W hW => truths_true N sn5 sn6 cn5 cn6 W (TF.out.h5n.below hW) (TF.out.h6n.below hW) (by have := FEW.out; omega)
  have T5 : Hid (∀ W, Below w9.heap.size w9 W → Calls Tryd.prog 16 #[.slice sx7 X.length cx7, .slice sx9 X.length cx9] W fun e w' => e = .returned (.bool true) ∧ Below W.heap.size W w') := fun W hW => truths_true X sx7 sx9 cx7 cx9 W (TF.out.h7.below hW) (TF.out.h9.below hW) (by have := FEW.out; omega)
  have T6 : Hid (∀ W, Below w9.heap.size w9 W → Calls Tryd.prog 16 #[.slice sx8 X.length cx8, .slice sx9 X.length cx9] W fun e w' => e = .returned (.bool true) ∧ Below W.heap.size W w') := fun W hW => truths_true X sx8 sx9 cx8 cx9 W (TF.out.h8.below hW) (TF.out.h9.below hW) (by have := FEW.out; omega)
  clear e5 a5 hs5 ht5 e6 a6 hs6 ht6 e7 a7 hs7 ht7 e8 a8 hs8 ht8
  refine Calls.mono (T1.out w9 (Below.refl _ _)) ?_
  rintro e w10 ⟨rfl, b10⟩
  have B9w10 := hid b10
  clear b10
  dsimp only
  go_wp2_with (first
    | (have q := B9w14; clear q; go_at_call 16; refine Calls.mono (T6.out w14 B9w14.out) ?_; rintro e w15 ⟨rfl, b15⟩; have B9w15 : Hid (Below w9.heap.size w9 w15) := B9w14.out.trans (b15.mono B9w14.out.size); clear b15)
    | (have q := B9w13; clear q; go_at_call 16; refine Calls.mono (T5.out w13 B9w13.out) ?_; rintro e w14 ⟨rfl, b14⟩; have B9w14 : Hid (Below w9.heap.size w9 w14) := B9w13.out.trans (b14.mono B9w13.out.size); clear b14)
    | (have q := B9w12; clear q; go_at_call 16; refine Calls.mono (T4.out w12 B9w12.out) ?_; rintro e w13 ⟨rfl, b13⟩; have B9w13 : Hid (Below w9.heap.size w9 w13) := B9w12.out.trans (b13.mono B9w12.out.size); clear b13)
    | (have q := B9w11; clear q; go_at_call 16; refine Calls.mono (T3.out w11 B9w11.out) ?_; rintro e w12 ⟨rfl, b12⟩; have B9w12 : Hid (Below w9.heap.size w9 w12) := B9w11.out.trans (b12.mono B9w11.out.size); clear b12)
    | (have q := B9w10; clear q; go_at_call 16; refine Calls.mono (T2.out w10 B9w10.out) ?_; rintro e w11 ⟨rfl, b11⟩; have B9w11 : Hid (Below w9.heap.size w9 w11) := B9w10.out.trans (b11.mono B9w10.out.size); clear b11)
    | (have q := B9w15; clear q; go_at_call 33; fail))
  clear T1 T2 T3 T4 T5 T6 B9w10 B9w11 B9w12 B9w13 B9w14
  obtain ⟨xb, hxb⟩ : ∃ xb, xb = (w15.alloc (Obj.cells #[Value.slice so4 O.length co4, Value.slice sn4 N.length cn4, Value.slice so5 O.length co5, Value.slice sn5 N.length cn5, Value.slice sx7 X.length cx7, Value.slice sx8 X.length cx8] 29)).alloc (Obj.cells #[Value.slice so6 O.length co6, Value.slice sn6 N.length cn6, Value.slice so6 O.length co6, Value.slice sn6 N.length cn6, Value.slice sx9 X.length cx9, Value.slice sx9 X.length cx9] 29) := ⟨_, rfl⟩
  have s15 : (w15.alloc (Obj.cells #[Value.slice so4 O.length co4, Value.slice sn4 N.length cn4, Value.slice so5 O.length co5, Value.slice sn5 N.length cn5, Value.slice sx7 X.length cx7, Value.slice sx8 X.length cx8] 29)).heap.size = w15.heap.size + 1 := by simp
  have RA : Hid (xb.heap[w15.heap.size]? = some (.cells #[Value.slice so4 O.length co4, Value.slice sn4 N.length cn4, Value.slice so5 O.length co5, Value.slice sn5 N.length cn5, Value.slice sx7 X.length cx7, Value.slice sx8 X.length cx8] 29 (0, 0))) := by show _ = _; rw [hxb, Below.heap_alloc _ _ _ (by omega)]; exact heap_alloc_new w15 _
  have RB : Hid (xb.heap[w15.heap.size + 1]? = some (.cells #[Value.slice so6 O.length co6, Value.slice sn6 N.length cn6, Value.slice so6 O.length co6, Value.slice sn6 N.length cn6, Value.slice sx9 X.length cx9, Value.slice sx9 X.length cx9] 29 (0, 0))) := by show _ = _; rw [hxb, ← s15]; exact heap_alloc_new _ _
  have BXB : Hid (Below w15.heap.size w15 xb) := by rw [hxb]; exact ((Below.refl _ _).alloc (Nat.le_refl _) _).alloc (by omega) _
  rw [← hxb]
  clear hxb s15
  have B9xb : Hid (Below w9.heap.size w9 xb) := B9w15.out.trans (BXB.out.mono B9w15.out.size)
  have SZ : Hid (w3.heap.size ≤ w4.heap.size ∧ w4.heap.size ≤ w5.heap.size ∧ w5.heap.size ≤ w6.heap.size ∧ w6.heap.size ≤ w7.heap.size ∧ w7.heap.size ≤ w8.heap.size ∧ w8.heap.size ≤ w9.heap.size ∧ w9.heap.size ≤ w15.heap.size) := ⟨B34.out.size, B45.out.size, B56.out.size, B67.out.size, B78.out.size, B89.out.size, B9w15.out.size⟩
  have FM8 : Hid (Fam w8 w3.heap.size 4 1 (([[(Value.slice so4 O.length co4, O), (Value.slice sn4 N.length cn4, N), (Value.slice so5 O.length co5, O), (Value.slice sn5 N.length cn5, N), (Value.slice sx7 X.length cx7, X), (Value.slice sx8 X.length cx8, X)]] : List (List (Value × List Bool))).flatten.map rwOf)) := by
    have f5 := fam_join F4.out B45.out F5.out B34.out.size
    have f7 := fam_join (f5.below B56.out) B67.out (fam_one OX7.out) (by have := SZ.out; omega)
    have f8 := fam_join f7 B78.out (fam_one OX8.out) (by have := SZ.out; omega)
    exact f8
  have FMX : Hid (Fam xb w3.heap.size 4 1 (([(Value.slice so4 O.length co4, O), (Value.slice sn4 N.length cn4, N), (Value.slice so5 O.length co5, O), (Value.slice sn5 N.length cn5, N), (Value.slice sx7 X.length cx7, X), (Value.slice sx8 X.length cx8, X)] : List (Value × List Bool)).map rwOf)) := (FM8.out.below B89.out).below B9xb.out
  have RNG : Hid (∀ y ∈ ([(Value.slice so4 O.length co4, O), (Value.slice sn4 N.length cn4, N), (Value.slice so5 O.length co5, O), (Value.slice sn5 N.length cn5, N), (Value.slice sx7 X.length cx7, X), (Value.slice sx8 X.length cx8, X)] : List (Value × List Bool)), ∀ k, y.1.ownBlock = some k → (w3.heap.size ≤ k ∧ k < w5.heap.size) ∨ (w6.heap.size ≤ k ∧ k < w8.heap.size)) := fun y hy k hk => by
    simp only [List.mem_cons, List.not_mem_nil, or_false] at hy
    have hz := SZ.out
    rcases hy with rfl | rfl | rfl | rfl | rfl | rfl
    · have := ShfKit.own_block (F4.out.own 0 _ rfl) hk; omega
    · have := ShfKit.own_block (F4.out.own 1 _ rfl) hk; omega
    · have := ShfKit.own_block (F5.out.own 0 _ rfl) hk; omega
    · have := ShfKit.own_block (F5.out.own 1 _ rfl) hk; omega
    · have := ShfKit.own_block OX7.out hk; omega
    · have := ShfKit.own_block OX8.out hk; omega
  have FRE : Hid (∀ (s : Option Addr) (xs : List Value) (lo hi : Nat), (∀ b o sp, s = some ⟨b, o, sp⟩ → lo ≤ b ∧ b < hi) → ((w5.heap.size ≤ lo ∧ hi ≤ w6.heap.size) ∨ w8.heap.size ≤ lo) → Free (([(Value.slice so4 O.length co4, O), (Value.slice sn4 N.length cn4, N), (Value.slice so5 O.length co5, O), (Value.slice sn5 N.length cn5, N), (Value.slice sx7 X.length cx7, X), (Value.slice sx8 X.length cx8, X)] : List (Value × List Bool)).map prOf) s xs) := fun s xs lo hi hs hr _ b o sp e x hx hk => by
    obtain ⟨y, hy, rfl⟩ := List.mem_map.1 hx
    have h1 : y.1.ownBlock = some b := by rcases hk with h | h <;> exact h
    have h2 := RNG.out y hy b h1
    have h3 := hs b o sp e
    have hz := SZ.out
    omega
  have BLK : Hid (∀ {W : World} {B n cc : Nat} {s : Option Addr} {xs : List Value}, W.ownsRow B 4 1 (.slice s n cc) n xs → ∀ b o sp, s = some ⟨b, o, sp⟩ → B ≤ b ∧ b < W.heap.size) := fun {W B n cc s xs} h b o sp e => ShfKit.own_block h (by rw [e]; rfl)
  have AS : Hid (As xb w3.heap.size (some ⟨w15.heap.size, 0, none⟩) (some ⟨w15.heap.size + 1, 0, none⟩) (([(Value.slice so4 O.length co4, O), (Value.slice sn4 N.length cn4, N), (Value.slice so5 O.length co5, O), (Value.slice sn5 N.length cn5, N), (Value.slice sx7 X.length cx7, X), (Value.slice sx8 X.length cx8, X)] : List (Value × List Bool)).map prOf) [(Value.slice so6 O.length co6, O), (Value.slice sn6 N.length cn6, N), (Value.slice so6 O.length co6, O), (Value.slice sn6 N.length cn6, N), (Value.slice sx9 X.length cx9, X), (Value.slice sx9 X.length cx9, X)] 6 0 0) := by
    have hz := SZ.out
    refine ⟨⟨⟨fun k x hx => ⟨_, _, rfl, (Array.getElem?_eq_some_iff.1 RA.out).1, ?_⟩⟩, FRE.out _ _ w15.heap.size (w15.heap.size + 1) (fun b o sp e => by cases e; omega) (.inr (by omega)), ⟨fun k x hx => ⟨_, _, rfl, (Array.getElem?_eq_some_iff.1 RB.out).1, ?_⟩⟩, FRE.out _ _ (w15.heap.size + 1) (w15.heap.size + 2) (fun b o sp e => by cases e; omega) (.inr (by omega)), pf_of_fam FMX.out, fun x hx => ?_⟩, rfl, rfl, fun j x wn hx hw => ?_⟩
    · rw [Nat.zero_add, cell_row RA.out]
      simpa [prOf] using hx
    · rw [Nat.zero_add, cell_row RB.out]
      simpa using hx
    · simp only [List.mem_cons, List.not_mem_nil, or_false] at hx
      rcases hx with rfl | rfl | rfl | rfl | rfl | rfl
      · exact ⟨_, _, rfl, TF.out.h6o.below B9xb.out, FRE.out _ _ _ _ (BLK.out (F6.out.own 0 _ rfl)) (.inl ⟨Nat.le_refl _, Nat.le_refl _⟩)⟩
      · exact ⟨_, _, rfl, TF.out.h6n.below B9xb.out, FRE.out _ _ _ _ (BLK.out (F6.out.own 1 _ rfl)) (.inl ⟨Nat.le_refl _, Nat.le_refl _⟩)⟩
      · exact ⟨_, _, rfl, TF.out.h6o.below B9xb.out, FRE.out _ _ _ _ (BLK.out (F6.out.own 0 _ rfl)) (.inl ⟨Nat.le_refl _, Nat.le_refl _⟩)⟩
      · exact ⟨_, _, rfl, TF.out.h6n.below B9xb.out, FRE.out _ _ _ _ (BLK.out (F6.out.own 1 _ rfl)) (.inl ⟨Nat.le_refl _, Nat.le_refl _⟩)⟩
      · exact ⟨_, _, rfl, TF.out.h9.below B9xb.out, FRE.out _ _ _ _ (BLK.out OX9.out) (.inr (Nat.le_refl _))⟩
      · exact ⟨_, _, rfl, TF.out.h9.below B9xb.out, FRE.out _ _ _ _ (BLK.out OX9.out) (.inr (Nat.le_refl _))⟩
    · match j, hx, hw with
      | 0, hx, hw => cases hx; cases hw; exact ⟨rfl, fun h => absurd h (Nat.not_lt_zero _), fun _ => ⟨rfl, rfl⟩⟩
      | 1, hx, hw => cases hx; cases hw; exact ⟨rfl, fun h => absurd h (Nat.not_lt_zero _), fun _ => ⟨rfl, rfl⟩⟩
      | 2, hx, hw => cases hx; cases hw; exact ⟨rfl, fun h => absurd h (Nat.not_lt_zero _), fun _ => ⟨rfl, rfl⟩⟩
      | 3, hx, hw => cases hx; cases hw; exact ⟨rfl, fun h => absurd h (Nat.not_lt_zero _), fun _ => ⟨rfl, rfl⟩⟩
      | 4, hx, hw => cases hx; cases hw; exact ⟨rfl, fun h => absurd h (Nat.not_lt_zero _), fun _ => ⟨rfl, rfl⟩⟩
      | 5, hx, hw => cases hx; cases hw; exact ⟨rfl, fun h => absurd h (Nat.not_lt_zero _), fun _ => ⟨rfl, rfl⟩⟩
  have B3xb : Hid (Below w3.heap.size w3 xb) := B39.out.trans (B9xb.out.mono B39.out.size)
  refine Calls.mono (alone_true 6 6 6 w3.heap.size w15.heap.size 0 (w15.heap.size + 1) 0 _ _ xb AS.out B3xb.out.size (by decide) (fun x hx => by
    have hf := FEW.out
    simp only [List.mem_cons, List.not_mem_nil, or_false] at hx
    rcases hx with rfl | rfl | rfl | rfl | rfl | rfl <;> dsimp only <;> omega)) ?_
  rintro e w17 ⟨rfl, b17⟩
  dsimp only
  have B317 : Hid (Below w3.heap.size w3 w17) := B3xb.out.trans b17
  clear b17 AS FRE BLK RNG FMX FM8 RA RB BXB B9xb B3xb TF SZ F4 F5 F6 OX7 OX8 OX9 B34 B45 B56 B67 B78 B89 B35 B36 B37 B38 B39 B58 B59 B49 B69 B79 B9w15 FEW HR HX SP FG
  have l2a : (ins ++ [true, false]).length = ins.length + 2 := by simp
  have l2b : (las ++ [true, false]).length = las.length + 2 := by simp
  have TA : Hid (∀ W sr cr, Below w3.heap.size w3 W → CellsAt W sr (bo (ins ++ [true, false])) → Calls Tryd.prog 16 #[.slice (some ⟨ga, 0, none⟩) (ins.length + 2) ca, .slice sr (ins.length + 2) cr] W fun e w' => e = .returned (.bool true) ∧ Below W.heap.size W w') := fun W sr cr hW h5 => by
    have h := truths_true (ins ++ [true, false]) (some ⟨ga, 0, none⟩) sr ca cr W (own_cells4 (ownsRow_below (ownsRow_below MA.out.own MB.out.below) hW)) h5 (by rw [l2a]; omega)
    rw [l2a] at h
    exact h
  have TB : Hid (∀ W sr cr, Below w3.heap.size w3 W → CellsAt W sr (bo (las ++ [true, false])) → Calls Tryd.prog 16 #[.slice (some ⟨gb, 0, none⟩) (las.length + 2) cb, .slice sr (las.length + 2) cr] W fun e w' => e = .returned (.bool true) ∧ Below W.heap.size W w') := fun W sr cr hW h5 => by
    have h := truths_true (las ++ [true, false]) (some ⟨gb, 0, none⟩) sr cb cr W (own_cells4 (ownsRow_below MB.out.own hW)) h5 (by rw [l2b]; omega)
    rw [l2b] at h
    exact h
  obtain ⟨c2, hc2⟩ : ∃ c2 : Net, c2 = { c with gates := c.gates.map turnO } := ⟨_, rfl⟩
  have L2 : Hid (c2.gates.length = c.gates.length ∧ c2.outs.length = c.outs.length ∧ c2.name = c.name) := by rw [hc2]; exact ⟨by simp, rfl, rfl⟩
  have N2 : Hid (∀ g ∈ c2.gates, g.name.size ≤ 140737488351232) := by
    rw [hc2]
    intro g hg
    obtain ⟨g1, hg1, rfl⟩ := List.mem_map.1 hg
    have : (turnO g1).name = g1.name := by unfold turnO; split <;> rfl
    rw [this]
    exact LIM.out.2.1 g1 hg1
  have TU : Hid (∀ W, Below w3.heap.size w3 W → Calls Tryd.prog 29 #[cirV c (some ⟨gg, 0, none⟩) kg (some ⟨go, 0, none⟩) ko] W fun e w' => ∃ sg3 kg3 so3 ko3, e = .returned (.agg #[.string c.name, .slice sg3 c.gates.length kg3, .slice so3 c.outs.length ko3]) ∧ TwinAt w' x0.heap.size c2 gg kg go ko ∧ CirAt w' c2 sg3 so3 ∧ W.grownBy w' (some gg) ∧ (∀ b o sp, sg3 = some ⟨b, o, sp⟩ → W.heap.size ≤ b) ∧ (∀ b o sp, so3 = some ⟨b, o, sp⟩ → W.heap.size ≤ b)) := fun W hW => by
    refine (turned_any c x0.heap.size gg kg go ko W (TWA.out W (BWX.out W hW).1) LIM.out.2.2.1 LIM.out.2.2.2).mono ?_
    rintro e w' ⟨sg3, kg3, so3, ko3, rfl, h1, h2, h3, h4, h5⟩
    rw [← hc2] at h1 h2
    refine ⟨sg3, kg3, so3, ko3, ?_, h1, h2, h3, h4, h5⟩
    simp [cirV]
  have TBK : Hid ((x0.heap.size ≤ gg ∧ gg < w1.heap.size) ∧ x0.heap.size ≤ go ∧ go < w1.heap.size) := TW1.out.blocks
  clear hc2
  go_wp2_with (first
    | (have q := HX23; clear q; rw [← HX23.out]; clear HX23)
    | (have q := T23; clear q; go_at_call 34; refine Calls.mono FLP.out ?_; rintro e w24 ⟨⟨u24, rfl⟩, ho24, hg24⟩; have OA24 := hid ho24; have G24 := hid hg24; clear ho24 hg24)
    | (have q := B322; clear q; go_at_call 29; refine Calls.mono (TU.out w22 B322.out) ?_; rintro e w23 ⟨sg3, kg3, so3, ko3, rfl, tw23, ci23, g23, hbg, hbo⟩; obtain ⟨x23, hx23⟩ : ∃ x, x = w23.alloc (Obj.cells #[Value.string c.name, Value.slice sg3 c.gates.length kg3, Value.slice so3 c.outs.length ko3] 26) := ⟨_, rfl⟩; have HX23 := hid hx23; have R23 : Hid (x23.heap[w23.heap.size]? = some (.cells #[Value.string c.name, Value.slice sg3 c.gates.length kg3, Value.slice so3 c.outs.length ko3] 26 (0, 0))) := (by rw [hx23]; exact heap_alloc_new w23 _); have BX23 : Hid (Below w23.heap.size w23 x23) := (by rw [hx23]; exact (Below.refl _ _).alloc (Nat.le_refl _) _); have T23 := hid tw23; have C23 := hid ci23; have G23 := hid g23; have HB3 := hid (And.intro hbg hbo); have FLP : Hid (Calls Tryd.prog 34 #[.slice (some ⟨ga, 0, none⟩) (ins.length + 2) ca] x23 fun e w' => (∃ u, e = .returned u) ∧ w'.ownsRow x1.heap.size 4 1 (.slice (some ⟨ga, 0, none⟩) (ins.length + 2) ca) (ins.length + 2) (bo ((ins ++ [true, false]).map not)) ∧ x23.grownBy w' (some ga)) := (by
          have h22 := ownsRow_below (ownsRow_below MA.out.own MB.out.below) B322.out
          have h23 : w23.ownsRow x1.heap.size 4 1 (.slice (some ⟨ga, 0, none⟩) (ins.length + 2) ca) (ins.length + 2) (bo (ins ++ [true, false])) := ShfKit.own_kept h22 fun g hg => G23.out.block g (ShfKit.own_block h22 hg).2 (fun e => by have h1 := (ShfKit.own_block h22 hg).1; have h2 := TBK.out; have h3 := S1.out; have h4 := Option.some.inj e; omega)
          have h24 := ownsRow_below h23 BX23.out
          have h := flip_any (ins ++ [true, false]) (some ⟨ga, 0, none⟩) ca x1.heap.size x23 (by rw [l2a]; exact h24) (by rw [l2a]; omega)
          rw [l2a] at h
          exact h); clear hx23 tw23 ci23 g23 hbg hbo)
    | (have q := B321; clear q; go_at_call 24; refine Calls.mono (KT.out w21 _ _ _ _ _ (TWA.out w21 (BWX.out w21 B321.out).1) (BWX.out w21 B321.out).2) ?_; rintro e w22 ⟨rfl, b22⟩; have B322 : Hid (Below w3.heap.size w3 w22) := B321.out.trans (b22.mono B321.out.size); obtain ⟨e22, _, _, ht22⟩ := E7.out w22 B322.out; clear b22)
    | (have q := B320; clear q; go_at_call 16; refine Calls.mono (TB.out w20 s20 c20 B320.out C20.out) ?_; rintro e w21 ⟨rfl, b21⟩; have B321 : Hid (Below w3.heap.size w3 w21) := B320.out.trans (b21.mono B320.out.size); obtain ⟨e21, a21, hs21, ht21⟩ := E7.out w21 B321.out; clear b21)
    | (have q := B319; clear q; go_at_call 30; refine Calls.mono (RM2.out w19 (BWX.out w19 B319.out).2) ?_; rintro e w20 ⟨v20, rfl, hm20⟩; obtain ⟨s20, c20, rfl⟩ := own_shape hm20.own; have C20 := hid (own_cells4 hm20.own); have B320 : Hid (Below w3.heap.size w3 w20) := B319.out.trans (hm20.below.mono B319.out.size); clear hm20)
    | (have q := B318; clear q; go_at_call 16; refine Calls.mono (TA.out w18 s18 c18 B318.out C18.out) ?_; rintro e w19 ⟨rfl, b19⟩; have B319 : Hid (Below w3.heap.size w3 w19) := B318.out.trans (b19.mono B318.out.size); clear b19)
    | (go_at_call 30; refine Calls.mono (RM1.out w17 (BWX.out w17 B317.out).2) ?_; rintro e w18 ⟨v18, rfl, hm18⟩; obtain ⟨s18, c18, rfl⟩ := own_shape hm18.own; have C18 := hid (own_cells4 hm18.own); have B318 : Hid (Below w3.heap.size w3 w18) := B317.out.trans (hm18.below.mono B317.out.size); clear hm18))
  have NUM : Hid (w.heap.size + 1 = x0.heap.size ∧ x0.heap.size ≤ gg ∧ gg < w1.heap.size ∧ x0.heap.size ≤ go ∧ go < w1.heap.size ∧ x1.heap.size = w1.heap.size + 1 ∧ x1.heap.size ≤ ga ∧ ga < w2.heap.size ∧ w2.heap.size ≤ gb ∧ gb < w3.heap.size ∧ w2.heap.size ≤ w3.heap.size ∧ w3.heap.size ≤ w22.heap.size ∧ w22.heap.size ≤ w23.heap.size ∧ w23.heap.size < x23.heap.size ∧ x23.heap.size ≤ w24.heap.size) := ⟨S0.out.symm, TBK.out.1.1, TBK.out.1.2, TBK.out.2.1, TBK.out.2.2, S1.out, hga1, hga2, hgb1, hgb2, MB.out.below.size, B322.out.size, G23.out.size, (Array.getElem?_eq_some_iff.1 R23.out).1, G24.out.size⟩
  have KEEP : Hid (∀ k, k < w22.heap.size → k ≠ gg → k ≠ ga → w24.heap[k]? = w22.heap[k]?) := fun k hk h1 h2 => by
    have hz := NUM.out
    rw [G24.out.block k (by omega) (fun e => h2 (Option.some.inj e)), BX23.out.block k (by omega), G23.out.block k hk (fun e => h1 (Option.some.inj e))]
  have BW24 : Hid (Below w.heap.size w w24) := by
    have hz := NUM.out
    have h1 := (BWX.out w22 B322.out).2
    have h2 := h1.grown G23.out h1.size (fun k e => by cases e; omega)
    have h3 := h2.trans (BX23.out.mono h2.size)
    exact h3.grown G24.out h3.size (fun k e => by cases e; omega)
  have R7 : Hid (w24.heap[w1.heap.size]? = some (.cells (#[Value.string c.name, Value.slice (some ⟨gg, 0, none⟩) c.gates.length kg, Value.slice (some ⟨go, 0, none⟩) c.outs.length ko] : Array Value) 26 (0, 0))) := by
    have hz := NUM.out
    have h1 := ((BWX.out w22 B322.out).1.block _ (Array.getElem?_eq_some_iff.1 R1.out).1).trans R1.out
    exact (KEEP.out w1.heap.size (Array.getElem?_eq_some_iff.1 h1).1 (by omega) (by omega)).trans h1
  have R26 : Hid (w24.heap[w23.heap.size]? = some (.cells (#[Value.string c.name, Value.slice sg3 c.gates.length kg3, Value.slice so3 c.outs.length ko3] : Array Value) 26 (0, 0))) := (G24.out.block _ (Array.getElem?_eq_some_iff.1 R23.out).1 (fun e => by have hz := NUM.out; have := Option.some.inj e; omega)).trans R23.out
  have TW24 : Hid (TwinAt w24 x0.heap.size c2 gg kg go ko) := (T23.out.below BX23.out).aside G24.out (by have hz := NUM.out; omega) (by have hz := NUM.out; omega)
  have CI24 : Hid (CirAt w24 c2 sg3 so3) := by
    have h := C23.out.below BX23.out
    have hz := NUM.out
    exact ⟨h.gates.grown G24.out (fun b o sp e => by have := HB3.out.1 b o sp e; omega), h.outs.grown G24.out (fun b o sp e => by have := HB3.out.2 b o sp e; omega)⟩
  have CA24 : Hid (CellsAt w24 (some ⟨ga, 0, none⟩) (bo (ins.map not))) := by
    have h := own_cells4 OA24.out
    rw [List.map_append, bo_app] at h
    exact h.front
  have CB24 : Hid (CellsAt w24 (some ⟨gb, 0, none⟩) (bo las)) := by
    have hz := NUM.out
    have h22 := ownsRow_below MB.out.own B322.out
    have h24 : w24.ownsRow w2.heap.size 4 1 (.slice (some ⟨gb, 0, none⟩) (las.length + 2) cb) (las.length + 2) (bo (las ++ [true, false])) := ShfKit.own_kept h22 fun g hg => KEEP.out g (ShfKit.own_block h22 hg).2 (by have := (ShfKit.own_block h22 hg).1; omega) (by have := (ShfKit.own_block h22 hg).1; omega)
    have h := own_cells4 h24
    rw [bo_app] at h
    exact h.front
  have E9 : Hid (∀ W, Below w24.heap.size w24 W → (∀ j, W.cell? ⟨w1.heap.size, j, none⟩ = (#[Value.string c.name, Value.slice (some ⟨gg, 0, none⟩) c.gates.length kg, Value.slice (some ⟨go, 0, none⟩) c.outs.length ko] : Array Value)[j]?) ∧ (∀ j, W.cell? ⟨w23.heap.size, j, none⟩ = (#[Value.string c.name, Value.slice sg3 c.gates.length kg3, Value.slice so3 c.outs.length ko3] : Array Value)[j]?) ∧ w1.heap.size < W.heap.size ∧ w23.heap.size < W.heap.size) := fun W hW => by
    have h1 := (hW.block _ (Array.getElem?_eq_some_iff.1 R7.out).1).trans R7.out
    have h2 := (hW.block _ (Array.getElem?_eq_some_iff.1 R26.out).1).trans R26.out
    exact ⟨fun j => cell_row h1 j, fun j => cell_row h2 j, (Array.getElem?_eq_some_iff.1 h1).1, (Array.getElem?_eq_some_iff.1 h2).1⟩
  have BWY : Hid (∀ W, Below w24.heap.size w24 W → Below w.heap.size w W) := fun W hW => BW24.out.trans (hW.mono BW24.out.size)
  have lm : (ins.map not).length = ins.length := by simp
  have SP2 : Hid (∀ W, Below w24.heap.size w24 W → Calls Tryd.prog 15 #[.agg #[.string c.name, .slice (some ⟨gg, 0, none⟩) c.gates.length kg, .slice (some ⟨go, 0, none⟩) c.outs.length ko], .slice (some ⟨ga, 0, none⟩) ins.length ca, .slice (some ⟨gb, 0, none⟩) las.length cb] W fun e w' => StepSays c2 (ins.map not) las W.heap.size e w' ∧ Below W.heap.size W w') := fun W hW => ST.out c2 W _ gg kg go ko _ _ ca cb (ins.map not) L2.out.1 L2.out.2.1 L2.out.2.2 N2.out (TW24.out.below hW) (BWY.out W hW) (CA24.out.below hW) (CB24.out.below hW) lm
  have FG2 : Hid (∀ W, Below w24.heap.size w24 W → Calls Tryd.prog 11 #[.agg #[.string c.name, .slice (some ⟨gg, 0, none⟩) c.gates.length kg, .slice (some ⟨go, 0, none⟩) c.outs.length ko]] W fun e w' => FirstSays c2 W.heap.size e w' ∧ Below W.heap.size W w') := fun W hW => FT.out c2 W _ gg kg go ko L2.out.1 L2.out.2.1 L2.out.2.2 N2.out (TW24.out.below hW) (BWY.out W hW)
  have FLI : Hid (∀ W, Below w24.heap.size w24 W → Calls Tryd.prog 35 #[.slice si ins.length ci] W fun e w' => ∃ v, e = .returned v ∧ Mk W w' 4 1 v ins.length (bo (ins.map not))) := fun W hW => flipped_any ins si ci W (AW.out W (BWY.out W hW)).2.1 (by omega)
  have RS2 : Hid (∀ W s35 c35, Below w24.heap.size w24 W → CellsAt W s35 (bo (ins.map not)) → Calls Tryd.prog 31 #[.agg #[.string c.name, .slice sg3 c.gates.length kg3, .slice so3 c.outs.length ko3], .slice s35 ins.length c35, .slice sl las.length cl] W fun e w' => StepSays c2 (ins.map not) las W.heap.size e w' ∧ Below W.heap.size W w') := fun W s35 c35 hW h5 => by
    have h := rstep_gen c2 sg3 so3 kg3 ko3 (ins.map not) las s35 sl c35 cl W (CI24.out.below hW) (by rw [L2.out.2.2]; exact LIM.out.1) N2.out (by rw [L2.out.1]; exact LIM.out.2.2.1) (by rw [L2.out.2.1]; exact LIM.out.2.2.2) h5 (AW.out W (BWY.out W hW)).2.2
    rw [cirV, L2.out.1, L2.out.2.1, L2.out.2.2, lm] at h
    exact h
  have RF2 : Hid (∀ W, Below w24.heap.size w24 W → Calls Tryd.prog 32 #[.agg #[.string c.name, .slice sg3 c.gates.length kg3, .slice so3 c.outs.length ko3]] W fun e w' => FirstSays c2 W.heap.size e w' ∧ Below W.heap.size W w') := fun W hW => by
    have h := rfirst_gen c2 sg3 so3 kg3 ko3 W (CI24.out.below hW) (by rw [L2.out.2.2]; exact LIM.out.1) N2.out (by rw [L2.out.1]; exact LIM.out.2.2.1) (by rw [L2.out.2.1]; exact LIM.out.2.2.2)
    rw [cirV, L2.out.1, L2.out.2.1, L2.out.2.2] at h
    exact h
  clear NUM KEEP R7 R26 TW24 CI24 CA24 CB24 T23 C23 G23 HB3 FLP G24 OA24 R23 BX23 BW24 TU TA TB KT RM1 RM2 TWN ST FT RS RF AW E7 OAB BWX CE TWA BW B1 B11 MA MB TBK L2 N2 LIM KD l2a l2b lm e22 ht22 e21 a21 hs21 ht21 C18 C20 B317 B318 B319 B320 B321 B322
  refine wp_region_noPanic ?_
  refine wp_region_held_drew (S := fun W => ∀ j, W.cell? ⟨w1.heap.size, j, none⟩ = (#[Value.string c.name, Value.slice (some ⟨gg, 0, none⟩) c.gates.length kg, Value.slice (some ⟨go, 0, none⟩) c.outs.length ko] : Array Value)[j]?) (by kernel_rfl) (E9.out _ (Below.refl _ _).drew).1 (fun hHeld => ?_)
  refine wpAnyH_take (i := 0) (v := ?_) (by simp only [List.getElem?_toArray, List.getElem?_cons_zero]; rfl) (by kernel_rfl) (by kernel_rfl) (by kernel_rfl) (fun _ _ _ h => h) (Or.inl ⟨by rfl, ?_⟩) (by assumption) ?_
  rotate_left 1
  · intro w hSw; (try dsimp only at hSw); go_simp; (try with_reducible rfl)
  try simp only [Act.put, List.setIfInBounds_toArray, List.set_cons_zero, List.set_cons_succ]
  refine wpAnyH_take (i := 1) (v := ?_) (by simp only [List.getElem?_toArray, List.getElem?_cons_succ, List.getElem?_cons_zero]; rfl) (by kernel_rfl) (by kernel_rfl) (by kernel_rfl) (fun _ _ _ h => h) (Or.inl ⟨by rfl, ?_⟩) (by assumption) ?_
  rotate_left 1
  · intro w hSw; (try dsimp only at hSw); go_simp; (try with_reducible rfl)
  try simp only [Act.put, List.setIfInBounds_toArray, List.set_cons_zero, List.set_cons_succ]
  refine wpAnyH_take (i := 2) (v := ?_) (by simp only [List.getElem?_toArray, List.getElem?_cons_succ, List.getElem?_cons_zero]; rfl) (by kernel_rfl) (by kernel_rfl) (by kernel_rfl) (fun _ _ _ h => h) (Or.inl ⟨by rfl, ?_⟩) (by assumption) ?_
  rotate_left 1
  · intro w hSw; (try dsimp only at hSw); go_simp; (try with_reducible rfl)
  try simp only [Act.put, List.setIfInBounds_toArray, List.set_cons_zero, List.set_cons_succ]
  refine wpAnyH_take (i := 3) (v := ?_) (by simp only [List.getElem?_toArray, List.getElem?_cons_succ, List.getElem?_cons_zero]; rfl) (by kernel_rfl) (by kernel_rfl) (by kernel_rfl) (fun _ _ _ h => h) (Or.inl ⟨by rfl, ?_⟩) (by assumption) ?_
  rotate_left 1
  · intro w hSw; (try dsimp only at hSw); go_simp; (try with_reducible rfl)
  try simp only [Act.put, List.setIfInBounds_toArray, List.set_cons_zero, List.set_cons_succ]
  refine wpAnyH_take (i := 4) (v := .slice (some ⟨ga, 0, none⟩) ins.length ca) (by simp only [List.getElem?_toArray, List.getElem?_cons_succ, List.getElem?_cons_zero]; rfl) (by kernel_rfl) (by kernel_rfl) (by kernel_rfl) (fun _ _ _ h => h) (Or.inl ⟨by rfl, ?_⟩) (by assumption) ?_
  · intro w hSw; (try dsimp only at hSw); (try go_simp); ((try rw [if_pos (by omega)]); (try simp); (try omega))
  try simp only [Act.put, List.setIfInBounds_toArray, List.set_cons_zero, List.set_cons_succ]
  refine wpAnyH_take (i := 5) (v := ?_) (by simp only [List.getElem?_toArray, List.getElem?_cons_succ, List.getElem?_cons_zero]; rfl) (by kernel_rfl) (by kernel_rfl) (by kernel_rfl) (fun _ _ _ h => h) (Or.inl ⟨by rfl, ?_⟩) (by assumption) ?_
  rotate_left 1
  · intro w hSw; (try dsimp only at hSw); go_simp; (try with_reducible rfl)
  try simp only [Act.put, List.setIfInBounds_toArray, List.set_cons_zero, List.set_cons_succ]
  refine wpAnyH_take (i := 6) (v := ?_) (by simp only [List.getElem?_toArray, List.getElem?_cons_succ, List.getElem?_cons_zero]; rfl) (by kernel_rfl) (by kernel_rfl) (by kernel_rfl) (fun _ _ _ h => h) (Or.inl ⟨by rfl, ?_⟩) (by assumption) ?_
  rotate_left 1
  · intro w hSw; (try dsimp only at hSw); go_simp; (try with_reducible rfl)
  try simp only [Act.put, List.setIfInBounds_toArray, List.set_cons_zero, List.set_cons_succ]
  refine wpAnyH_take (i := 7) (v := ?_) (by simp only [List.getElem?_toArray, List.getElem?_cons_succ, List.getElem?_cons_zero]; rfl) (by kernel_rfl) (by kernel_rfl) (by kernel_rfl) (fun _ _ _ h => h) (Or.inl ⟨by rfl, ?_⟩) (by assumption) ?_
  rotate_left 1
  · intro w hSw; (try dsimp only at hSw); go_simp; (try with_reducible rfl)
  try simp only [Act.put, List.setIfInBounds_toArray, List.set_cons_zero, List.set_cons_succ]
  refine wpAnyH_take (i := 8) (v := .slice (some ⟨gb, 0, none⟩) las.length cb) (by simp only [List.getElem?_toArray, List.getElem?_cons_succ, List.getElem?_cons_zero]; rfl) (by kernel_rfl) (by kernel_rfl) (by kernel_rfl) (fun _ _ _ h => h) (Or.inl ⟨by rfl, ?_⟩) (by assumption) ?_
  · intro w hSw; (try dsimp only at hSw); (try go_simp); ((try rw [if_pos (by omega)]); (try simp); (try omega))
  try simp only [Act.put, List.setIfInBounds_toArray, List.set_cons_zero, List.set_cons_succ]
  refine wpAnyH_ready (rs := [9]) (by kernel_rfl) (by simp) ?_
  refine AllReadyH.cons (by simp only [List.getElem?_toArray, List.getElem?_cons_succ, List.getElem?_cons_zero]; rfl) (fun K hK => ?_) AllReadyH.nil
  go_simp
  go_at_call 15
  refine Calls.mono (SP2.out _ (Below.refl _ _).drew) ?_
  rintro e w25 ⟨⟨o25, n25, O2, N2x, r2, hR2, rfl, fam25⟩, b25⟩
  have HR2 := hid hR2
  have F25 := hid (show Fam w25 w24.heap.size 4 1 [(o25, O2.length, bo O2), (n25, N2x.length, bo N2x)] from fam25)
  have B25 : Hid (Below w24.heap.size w24 w25) := (Below.refl w24.heap.size w24).drew.trans b25
  clear hR2 fam25 b25
  obtain ⟨so25, co25, ho25⟩ := own_shape (F25.out.own 0 _ rfl)
  have ho25 : o25 = .slice so25 O2.length co25 := ho25
  subst ho25
  obtain ⟨sn25, cn25, hn25⟩ := own_shape (F25.out.own 1 _ rfl)
  have hn25 : n25 = .slice sn25 N2x.length cn25 := hn25
  subst hn25
  clear hHeld
  refine hK.out _ _ (E9.out w25 B25.out).1 (fun hHeld => ?_)
  clear hK K
  try simp only [Act.put, List.setIfInBounds_toArray, List.set_cons_zero, List.set_cons_succ]
  refine wpAnyH_take (i := 10) (v := ?_) (by simp only [List.getElem?_toArray, List.getElem?_cons_succ, List.getElem?_cons_zero]; rfl) (by kernel_rfl) (by kernel_rfl) (by kernel_rfl) (fun _ _ _ h => h) (Or.inl ⟨by rfl, ?_⟩) (by assumption) ?_
  rotate_left 1
  · intro w hSw; (try dsimp only at hSw); go_simp; (try with_reducible rfl)
  try simp only [Act.put, List.setIfInBounds_toArray, List.set_cons_zero, List.set_cons_succ]
  refine wpAnyH_take (i := 11) (v := ?_) (by simp only [List.getElem?_toArray, List.getElem?_cons_succ, List.getElem?_cons_zero]; rfl) (by kernel_rfl) (by kernel_rfl) (by kernel_rfl) (fun _ _ _ h => h) (Or.inl ⟨by rfl, ?_⟩) (by assumption) ?_
  rotate_left 1
  · intro w hSw; (try dsimp only at hSw); go_simp; (try with_reducible rfl)
  try simp only [Act.put, List.setIfInBounds_toArray, List.set_cons_zero, List.set_cons_succ]
  refine wpAnyH_take (i := 12) (v := ?_) (by simp only [List.getElem?_toArray, List.getElem?_cons_succ, List.getElem?_cons_zero]; rfl) (by kernel_rfl) (by kernel_rfl) (by kernel_rfl) (fun _ _ _ h => h) (Or.inl ⟨by rfl, ?_⟩) (by assumption) ?_
  rotate_left 1
  · intro w hSw; (try dsimp only at hSw); go_simp; (try with_reducible rfl)
  try simp only [Act.put, List.setIfInBounds_toArray, List.set_cons_zero, List.set_cons_succ]
  refine wpAnyH_take (i := 13) (v := ?_) (by simp only [List.getElem?_toArray, List.getElem?_cons_succ, List.getElem?_cons_zero]; rfl) (by kernel_rfl) (by kernel_rfl) (by kernel_rfl) (fun _ _ _ h => h) (Or.inl ⟨by rfl, ?_⟩) (by assumption) ?_
  rotate_left 1
  · intro w hSw; (try dsimp only at hSw); go_simp; (try with_reducible rfl)
  try simp only [Act.put, List.setIfInBounds_toArray, List.set_cons_zero, List.set_cons_succ]
  refine wpAnyH_take (i := 14) (v := ?_) (by simp only [List.getElem?_toArray, List.getElem?_cons_succ, List.getElem?_cons_zero]; rfl) (by kernel_rfl) (by kernel_rfl) (by kernel_rfl) (fun _ _ _ h => h) (Or.inl ⟨by rfl, ?_⟩) (by assumption) ?_
  rotate_left 1
  · intro w hSw; (try dsimp only at hSw); go_simp; (try with_reducible rfl)
  try simp only [Act.put, List.setIfInBounds_toArray, List.set_cons_zero, List.set_cons_succ]
  refine wpAnyH_take (i := 15) (v := ?_) (by simp only [List.getElem?_toArray, List.getElem?_cons_succ, List.getElem?_cons_zero]; rfl) (by kernel_rfl) (by kernel_rfl) (by kernel_rfl) (fun _ _ _ h => h) (Or.inl ⟨by rfl, ?_⟩) (by assumption) ?_
  rotate_left 1
  · intro w hSw; (try dsimp only at hSw); go_simp; (try with_reducible rfl)
  try simp only [Act.put, List.setIfInBounds_toArray, List.set_cons_zero, List.set_cons_succ]
  refine wpAnyH_take (i := 16) (v := ?_) (by simp only [List.getElem?_toArray, List.getElem?_cons_succ, List.getElem?_cons_zero]; rfl) (by kernel_rfl) (by kernel_rfl) (by kernel_rfl) (fun _ _ _ h => h) (Or.inl ⟨by rfl, ?_⟩) (by assumption) ?_
  rotate_left 1
  · intro w hSw; (try dsimp only at hSw); go_simp; (try with_reducible rfl)
  try simp only [Act.put, List.setIfInBounds_toArray, List.set_cons_zero, List.set_cons_succ]
  refine wpAnyH_done (by kernel_rfl) ?_ _
  refine NoPanic.normal ?_
  go_wp2
  refine wp_region_noPanic ?_
  refine wp_region_held_drew (S := fun W => ∀ j, W.cell? ⟨w23.heap.size, j, none⟩ = (#[Value.string c.name, Value.slice sg3 c.gates.length kg3, Value.slice so3 c.outs.length ko3] : Array Value)[j]?) (by kernel_rfl) (E9.out _ B25.out.drew).2.1 (fun hHeld => ?_)
  refine wpAnyH_take (i := 0) (v := ?_) (by simp only [List.getElem?_toArray, List.getElem?_cons_zero]; rfl) (by kernel_rfl) (by kernel_rfl) (by kernel_rfl) (fun _ _ _ h => h) (Or.inl ⟨by rfl, ?_⟩) (by assumption) ?_
  rotate_left 1
  · intro w hSw; (try dsimp only at hSw); go_simp; (try with_reducible rfl)
  try simp only [Act.put, List.setIfInBounds_toArray, List.set_cons_zero, List.set_cons_succ]
  refine wpAnyH_take (i := 1) (v := ?_) (by simp only [List.getElem?_toArray, List.getElem?_cons_succ, List.getElem?_cons_zero]; rfl) (by kernel_rfl) (by kernel_rfl) (by kernel_rfl) (fun _ _ _ h => h) (Or.inl ⟨by rfl, ?_⟩) (by assumption) ?_
  rotate_left 1
  · intro w hSw; (try dsimp only at hSw); go_simp; (try with_reducible rfl)
  try simp only [Act.put, List.setIfInBounds_toArray, List.set_cons_zero, List.set_cons_succ]
  refine wpAnyH_take (i := 3) (v := ?_) (by simp only [List.getElem?_toArray, List.getElem?_cons_succ, List.getElem?_cons_zero]; rfl) (by kernel_rfl) (by kernel_rfl) (by kernel_rfl) (fun _ _ _ h => h) (Or.inl ⟨by rfl, ?_⟩) (by assumption) ?_
  rotate_left 1
  · intro w hSw; (try dsimp only at hSw); go_simp; (try with_reducible rfl)
  try simp only [Act.put, List.setIfInBounds_toArray, List.set_cons_zero, List.set_cons_succ]
  refine wpAnyH_ready (rs := [2]) (by kernel_rfl) (by simp) ?_
  refine AllReadyH.cons (by simp only [List.getElem?_toArray, List.getElem?_cons_succ, List.getElem?_cons_zero]; rfl) (fun K hK => ?_) AllReadyH.nil
  go_simp
  go_at_call 35
  refine Calls.mono (FLI.out _ B25.out.drew) ?_
  rintro e w26 ⟨v26, rfl, hm26⟩
  obtain ⟨s26, c26, rfl⟩ := own_shape hm26.own
  have C26 := hid (own_cells4 hm26.own)
  have B2526 : Hid (Below w25.heap.size w25 w26) := (Below.refl w25.heap.size w25).drew.trans hm26.below
  have B26 : Hid (Below w24.heap.size w24 w26) := B25.out.trans (B2526.out.mono B25.out.size)
  clear hm26
  clear hHeld
  refine hK.out _ _ (E9.out w26 B26.out).2.1 (fun hHeld => ?_)
  clear hK K
  try simp only [Act.put, List.setIfInBounds_toArray, List.set_cons_zero, List.set_cons_succ]
  refine wpAnyH_ready (rs := [4]) (by kernel_rfl) (by simp) ?_
  refine AllReadyH.cons (by simp only [List.getElem?_toArray, List.getElem?_cons_succ, List.getElem?_cons_zero]; rfl) (fun K hK => ?_) AllReadyH.nil
  go_simp
  go_at_call 31
  refine Calls.mono (RS2.out w26 s26 c26 B26.out C26.out) ?_
  rintro e w27 ⟨⟨o27, n27, O27, N27, r27, hR27, rfl, fam27⟩, b27⟩
  obtain ⟨rfl, rfl, rfl⟩ := HR2.out.one hR27
  have F27 := hid fam27
  have B2627 := hid b27
  have B2527 : Hid (Below w25.heap.size w25 w27) := B2526.out.trans (b27.mono B2526.out.size)
  have B27 : Hid (Below w24.heap.size w24 w27) := B26.out.trans (b27.mono B26.out.size)
  clear hR27 fam27 b27
  obtain ⟨so27, co27, ho27⟩ := own_shape (F27.out.own 0 _ rfl)
  have ho27 : o27 = .slice so27 O2.length co27 := ho27
  subst ho27
  obtain ⟨sn27, cn27, hn27⟩ := own_shape (F27.out.own 1 _ rfl)
  have hn27 : n27 = .slice sn27 N2x.length cn27 := hn27
  subst hn27
  clear hHeld
  refine hK.out _ _ (E9.out w27 B27.out).2.1 (fun hHeld => ?_)
  clear hK K
  try simp only [Act.put, List.setIfInBounds_toArray, List.set_cons_zero, List.set_cons_succ]
  refine wpAnyH_take (i := 5) (v := ?_) (by simp only [List.getElem?_toArray, List.getElem?_cons_succ, List.getElem?_cons_zero]; rfl) (by kernel_rfl) (by kernel_rfl) (by kernel_rfl) (fun _ _ _ h => h) (Or.inl ⟨by rfl, ?_⟩) (by assumption) ?_
  rotate_left 1
  · intro w hSw; (try dsimp only at hSw); go_simp; (try with_reducible rfl)
  try simp only [Act.put, List.setIfInBounds_toArray, List.set_cons_zero, List.set_cons_succ]
  refine wpAnyH_take (i := 6) (v := ?_) (by simp only [List.getElem?_toArray, List.getElem?_cons_succ, List.getElem?_cons_zero]; rfl) (by kernel_rfl) (by kernel_rfl) (by kernel_rfl) (fun _ _ _ h => h) (Or.inl ⟨by rfl, ?_⟩) (by assumption) ?_
  rotate_left 1
  · intro w hSw; (try dsimp only at hSw); go_simp; (try with_reducible rfl)
  try simp only [Act.put, List.setIfInBounds_toArray, List.set_cons_zero, List.set_cons_succ]
  refine wpAnyH_take (i := 7) (v := ?_) (by simp only [List.getElem?_toArray, List.getElem?_cons_succ, List.getElem?_cons_zero]; rfl) (by kernel_rfl) (by kernel_rfl) (by kernel_rfl) (fun _ _ _ h => h) (Or.inl ⟨by rfl, ?_⟩) (by assumption) ?_
  rotate_left 1
  · intro w hSw; (try dsimp only at hSw); go_simp; (try with_reducible rfl)
  try simp only [Act.put, List.setIfInBounds_toArray, List.set_cons_zero, List.set_cons_succ]
  refine wpAnyH_take (i := 8) (v := ?_) (by simp only [List.getElem?_toArray, List.getElem?_cons_succ, List.getElem?_cons_zero]; rfl) (by kernel_rfl) (by kernel_rfl) (by kernel_rfl) (fun _ _ _ h => h) (Or.inl ⟨by rfl, ?_⟩) (by assumption) ?_
  rotate_left 1
  · intro w hSw; (try dsimp only at hSw); go_simp; (try with_reducible rfl)
  try simp only [Act.put, List.setIfInBounds_toArray, List.set_cons_zero, List.set_cons_succ]
  refine wpAnyH_take (i := 9) (v := ?_) (by simp only [List.getElem?_toArray, List.getElem?_cons_succ, List.getElem?_cons_zero]; rfl) (by kernel_rfl) (by kernel_rfl) (by kernel_rfl) (fun _ _ _ h => h) (Or.inl ⟨by rfl, ?_⟩) (by assumption) ?_
  rotate_left 1
  · intro w hSw; (try dsimp only at hSw); go_simp; (try with_reducible rfl)
  try simp only [Act.put, List.setIfInBounds_toArray, List.set_cons_zero, List.set_cons_succ]
  refine wpAnyH_take (i := 10) (v := ?_) (by simp only [List.getElem?_toArray, List.getElem?_cons_succ, List.getElem?_cons_zero]; rfl) (by kernel_rfl) (by kernel_rfl) (by kernel_rfl) (fun _ _ _ h => h) (Or.inl ⟨by rfl, ?_⟩) (by assumption) ?_
  rotate_left 1
  · intro w hSw; (try dsimp only at hSw); go_simp; (try with_reducible rfl)
  try simp only [Act.put, List.setIfInBounds_toArray, List.set_cons_zero, List.set_cons_succ]
  refine wpAnyH_take (i := 11) (v := ?_) (by simp only [List.getElem?_toArray, List.getElem?_cons_succ, List.getElem?_cons_zero]; rfl) (by kernel_rfl) (by kernel_rfl) (by kernel_rfl) (fun _ _ _ h => h) (Or.inl ⟨by rfl, ?_⟩) (by assumption) ?_
  rotate_left 1
  · intro w hSw; (try dsimp only at hSw); go_simp; (try with_reducible rfl)
  try simp only [Act.put, List.setIfInBounds_toArray, List.set_cons_zero, List.set_cons_succ]
  refine wpAnyH_done (by kernel_rfl) ?_ _
  refine NoPanic.normal ?_
  obtain ⟨e27, f27, hs27, ht27⟩ := E9.out w27 B27.out
  go_wp2_with (first
    | (have q := OX29; clear q; go_at_call 16; fail)
    | (have q := OX28; clear q; go_at_call 32; refine Calls.mono (RF2.out w28 B28.out) ?_; rintro e w29 ⟨⟨x29, X29, r29, hX29, rfl, ox29⟩, b29⟩; obtain ⟨rfl, rfl⟩ := HX2.out.one hX29; obtain ⟨sx29, cx29, rfl⟩ := own_shape ox29; have OX29 := hid ox29; have B2829 := hid b29; clear hX29 ox29 b29)
    | (go_at_call 11; refine Calls.mono (FG2.out w27 B27.out) ?_; rintro e w28 ⟨⟨x28, X2, rx2, hX2, rfl, ox28⟩, b28⟩; have HX2 := hid hX2; obtain ⟨sx28, cx28, rfl⟩ := own_shape ox28; have OX28 := hid ox28; have B2728 := hid b28; have B28 : Hid (Below w24.heap.size w24 w28) := B27.out.trans (b28.mono B27.out.size); obtain ⟨e28, f28, hs28, ht28⟩ := E9.out w28 B28.out; clear hX2 ox28 b28))
  have B2729 : Hid (Below w27.heap.size w27 w29) := B2728.out.trans (B2829.out.mono B2728.out.size)
  have B2529 : Hid (Below w25.heap.size w25 w29) := B2527.out.trans (B2729.out.mono B2527.out.size)
  have FEW2 : Hid (O2.length ≤ 65536 ∧ N2x.length ≤ 65536 ∧ X2.length ≤ 65536) := ⟨HR2.out.few.1, HR2.out.few.2, HX2.out.few⟩
  have U1 : Hid (∀ W, Below w29.heap.size w29 W → Calls Tryd.prog 16 #[.slice so25 O2.length co25, .slice so27 O2.length co27] W fun e w' => e = .returned (.bool true) ∧ Below W.heap.size W w') := fun W hW => truths_true O2 so25 so27 co25 co27 W (((own_cells4 (F25.out.own 0 _ rfl)).below B2529.out).below hW) (((own_cells4 (F27.out.own 0 _ rfl)).below B2729.out).below hW) (by have := FEW2.out; omega)
  have U2 : Hid (∀ W, Below w29.heap.size w29 W → Calls Tryd.prog 16 #[.slice sn25 N2x.length cn25, .slice sn27 N2x.length cn27] W fun e w' => e = .returned (.bool true) ∧ Below W.heap.size W w') := fun W hW => truths_true N2x sn25 sn27 cn25 cn27 W (((own_cells4 (F25.out.own 1 _ rfl)).below B2529.out).below hW) (((own_cells4 (F27.out.own 1 _ rfl)).below B2729.out).below hW) (by have := FEW2.out; omega)
  have U3 : Hid (∀ W, Below w29.heap.size w29 W → Calls Tryd.prog 16 #[.slice sx28 X2.length cx28, .slice sx29 X2.length cx29] W fun e w' => e = .returned (.bool true) ∧ Below W.heap.size W w') := fun W hW => truths_true X2 sx28 sx29 cx28 cx29 W (((own_cells4 OX28.out).below B2829.out).below hW) ((own_cells4 OX29.out).below hW) (by have := FEW2.out; omega)
  clear e27 f27 hs27 ht27 e28 f28 hs28 ht28
  refine Calls.mono (U1.out w29 (Below.refl _ _)) ?_
  rintro e w30 ⟨rfl, b30⟩
  have B2930 := hid b30
  clear b30
  dsimp only
  go_wp2_with (first
    | (have q := B2931; clear q; go_at_call 16; refine Calls.mono (U3.out w31 B2931.out) ?_; rintro e w32 ⟨rfl, b32⟩; have B2932 : Hid (Below w29.heap.size w29 w32) := B2931.out.trans (b32.mono B2931.out.size); clear b32)
    | (go_at_call 16; refine Calls.mono (U2.out w30 B2930.out) ?_; rintro e w31 ⟨rfl, b31⟩; have B2931 : Hid (Below w29.heap.size w29 w31) := B2930.out.trans (b31.mono B2930.out.size); clear b31))
  go_ret
  refine ⟨rfl, ?_⟩
  have h1 := BWY.out w28 B28.out
  have h2 := h1.trans (B2829.out.mono h1.size)
  exact h2.trans (B2932.out.mono h2.size)
end Go.Proofs.YtfmmmhcpdinhgaaDoor
