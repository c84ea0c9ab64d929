import Derived.Test.YtfmmmhcpdinhgaaDoorZ28
/-
  CircuitRuns: the law.
-/
namespace Go.Proofs.YtfmmmhcpdinhgaaDoor
open Go.RowKit Go.Deep PureNet ShfKit
set_option maxRecDepth 100000

set_option maxHeartbeats 16000000 in
theorem runs_law (c : Net) (sg so : Option Addr) (cg co : Nat) (is : List (List Bool)) (si : Option Addr) (ci : Nat) (w : World) (hc : CirAt w c sg so) (hkd : KindsAt w) (hsg : sg = none → cg = 0) (hso : so = none → co = 0) (hn : c.name.size ≤ 140737488351232) (hns : ∀ g ∈ c.gates, g.name.size ≤ 140737488351232) (hl : c.gates.length ≤ 1099511627776) (hlo : c.outs.length ≤ 1099511627776)
    (hI : ListsAt w si is) (hli : is.length ≤ 1099511627776) (hll : ∀ l ∈ is, l.length ≤ 1099511627776) :
    Calls Tryd.prog 8 #[cirV c sg cg so co, .slice si is.length ci] w fun e w' => e = .returned (.bool true) ∧ Below w.heap.size w w' := by
  obtain ⟨x0, hx0⟩ : ∃ x, x = w.alloc (Obj.cells (#[Value.string c.name, Value.slice sg c.gates.length cg, Value.slice so c.outs.length co] : Array Value) 26) := ⟨_, rfl⟩
  have R0 : Hid (x0.heap[w.heap.size]? = some (.cells (#[Value.string c.name, Value.slice sg c.gates.length cg, Value.slice so c.outs.length co] : Array Value) 26 (0, 0))) := by rw [hx0]; exact heap_alloc_new w _
  have BX0 : Hid (Below w.heap.size w x0) := by rw [hx0]; exact (Below.refl _ _).alloc (Nat.le_refl _) _
  have S0 : Hid (x0.heap.size = w.heap.size + 1) := by rw [hx0]; show _ = _; simp
  have TWN := hid (twin_any c sg so cg co x0 (hc.below BX0.out) hsg hso hl hlo)
  have RT : Hid (∀ (c2 : Net) (W : World) B gg kg go ko gs gc (I2 : List (List Bool)), c2.gates.length = c.gates.length → c2.outs.length = c.outs.length → c2.name = c.name → (∀ g ∈ c2.gates, g.name.size ≤ 140737488351232) → TwinAt W B c2 gg kg go ko → Below w.heap.size w W → ListsAt W gs I2 → I2.length = is.length → Calls Tryd.prog 13 #[.agg #[.string c.name, .slice (some ⟨gg, 0, none⟩) c.gates.length kg, .slice (some ⟨go, 0, none⟩) c.outs.length ko], .slice gs is.length gc] W fun e w' => RunSays c2 I2 W.heap.size e w' ∧ Below W.heap.size W w') := fun c2 W B gg kg go ko gs gc I2 e1 e2 e3 hns2 ht hb hI2 e4 => by
    have h := run_gen c2 (some ⟨gg, 0, none⟩) (some ⟨go, 0, none⟩) kg ko I2 gs gc W ht.cir (hkd.on hb) (by rw [e3]; exact hn) hns2 (by rw [e1]; exact hl) (by rw [e2]; exact hlo) hI2 (by omega)
    rw [cirV, e1, e2, e3, e4] at h
    exact h
  have RS : Hid (∀ W, Below w.heap.size w W → Calls Tryd.prog 36 #[cirV c sg cg so co, .slice si is.length ci] W fun e w' => RRunSays c is W e w' ∧ Below W.heap.size W w') := fun W hb => rrun_gen c sg so cg co is si ci W (hc.below hb) hn hns hl hlo (hI.below hb) (by omega)
  have KT : Hid (∀ W B gg kg go ko, TwinAt W B c gg kg go ko → Below w.heap.size w W → Calls Tryd.prog 24 #[cirV c (some ⟨gg, 0, none⟩) kg (some ⟨go, 0, none⟩) ko, cirV c sg cg so co] W fun e w' => e = .returned (.bool true) ∧ Below W.heap.size W w') := fun W B gg kg go ko ht hb => kept_true c B gg kg go ko sg so cg co W ht (hc.below hb) hl hlo
  have AW : Hid (∀ W, Below w.heap.size w W → ListsAt W si is) := fun W hb => hI.below hb
  have LIM := hid (And.intro hn (And.intro hns (And.intro hl hlo)))
  have LL := hid hll
  have d0 := fun j => cell_row R0.out j
  have hb0 := (Array.getElem?_eq_some_iff.1 R0.out).1
  have HX0 := hid hx0
  clear hx0 hc hkd hsg hso hn hns hl hlo hI hll
  go_enter Tryd.func8, Tryd.ntmps8
  go_wp2_with (first
    | (rw [← HX0.out])
    | (have q := HX1; clear q; rw [← HX1.out]; clear HX1)
    | (go_at_call 20; refine Calls.mono TWN.out ?_; rintro e w1 ⟨gg, kg, go, ko, rfl, tw1, b1⟩; have TW1 := hid tw1; have B1 := hid b1; obtain ⟨x1, hx1⟩ : ∃ x, x = w1.alloc (Obj.cells (#[Value.string c.name, Value.slice (some ⟨gg, 0, none⟩) c.gates.length kg, Value.slice (some ⟨go, 0, none⟩) c.outs.length ko] : Array Value) 26) := ⟨_, rfl⟩; have HX1 := hid hx1; have R1 : Hid (x1.heap[w1.heap.size]? = some (.cells (#[Value.string c.name, Value.slice (some ⟨gg, 0, none⟩) c.gates.length kg, Value.slice (some ⟨go, 0, none⟩) c.outs.length ko] : Array Value) 26 (0, 0))) := (by rw [hx1]; exact heap_alloc_new w1 _); have B11 : Hid (Below w1.heap.size w1 x1) := (by rw [hx1]; exact (Below.refl _ _).alloc (Nat.le_refl _) _); have S1 : Hid (x1.heap.size = w1.heap.size + 1) := (by rw [hx1]; show _ = _; simp); have BW : Hid (∀ W, Below x1.heap.size x1 W → Below w.heap.size w W) := (fun W hW => BX0.out.trans (((b1.trans (B11.out.mono b1.size)).trans (hW.mono (Nat.le_trans b1.size B11.out.size))).mono BX0.out.size)); have TWA : Hid (∀ W, Below x1.heap.size x1 W → TwinAt W x0.heap.size c gg kg go ko) := (fun W hW => (tw1.below B11.out).below hW); have CE : Hid (∀ W, Below x1.heap.size x1 W → (∀ j, W.cell? ⟨w.heap.size, j, none⟩ = (#[Value.string c.name, Value.slice sg c.gates.length cg, Value.slice so c.outs.length co] : Array Value)[j]?) ∧ (∀ j, W.cell? ⟨w1.heap.size, j, none⟩ = (#[Value.string c.name, Value.slice (some ⟨gg, 0, none⟩) c.gates.length kg, Value.slice (some ⟨go, 0, none⟩) c.outs.length ko] : Array Value)[j]?) ∧ w.heap.size < W.heap.size ∧ w1.heap.size < W.heap.size) := (fun W hW => by
        have h2 := (hW.block _ (Array.getElem?_eq_some_iff.1 R1.out).1).trans R1.out
        have h3 := (b1.block _ (Array.getElem?_eq_some_iff.1 R0.out).1).trans R0.out
        have h4 := (B11.out.block _ (Array.getElem?_eq_some_iff.1 h3).1).trans h3
        have h5 := (hW.block _ (Array.getElem?_eq_some_iff.1 h4).1).trans h4
        exact ⟨fun j => cell_row h5 j, fun j => cell_row h2 j, (Array.getElem?_eq_some_iff.1 h5).1, (Array.getElem?_eq_some_iff.1 h2).1⟩); clear tw1 b1 hx1))
  clear d0 hb0 TWN
  go_loopg [6, 7] is.length (fun k gv iv W => ∃ (i : Nat) (gs : Option Addr) (gc : Nat), i ≤ is.length ∧ k = is.length - i ∧ iv = .int .i64 (i : Int) ∧ gv = .slice gs i gc ∧ Hid (∃ vs, RunOut W x1.heap.size (.slice gs i gc) vs ∧ vs.length = i ∧ vs.map Prod.snd = is.take i ∧ Below x1.heap.size x1 W))
  case atStart => exact ⟨0, none, 0, Nat.zero_le _, rfl, rfl, rfl, [], RunOut.nil _ _, rfl, by simp, Below.refl _ _⟩
  case round =>
    obtain ⟨i, gs, gc, hi, hgk, rfl, rfl, HR1⟩ := hrel
    subst hgk
    obtain ⟨vs, hro, hvl, hvs, hbr⟩ := HR1.out
    have RO := hid hro
    have VS := hid (And.intro hvl hvs)
    have BR := hid hbr
    clear HR1 hro hvl hvs hbr
    by_cases hlt : i < is.length
    · obtain ⟨l, hl⟩ : ∃ l, is[i]? = some l := ⟨_, List.getElem?_eq_getElem hlt⟩
      obtain ⟨gi, oi, sb, cb, rfl, hgi, p0, hcl, hnl⟩ := (AW.out wr (BW.out wr BR.out)).at_ i l hl
      have hlb : l.length ≤ 1099511627776 := LL.out l (List.mem_of_getElem? hl)
      have KS : Hid (∀ W, Below wr.heap.size wr W → W.cell? ⟨gi, oi + i, none⟩ = some (.slice sb l.length cb)) := fun W hW => below_cell hW hgi p0
      have RM : Hid (∀ W, Below wr.heap.size wr W → Calls Tryd.prog 30 #[.slice sb l.length cb] W fun e w' => ∃ v, e = .returned v ∧ Mk W w' 4 1 v (l.length + 2) (bo (l ++ [true, false]))) := fun W hW => roomy_any l sb cb W (hcl.below hW) hnl (by omega)
      have RW6 : Hid (wr.ownsRow x1.heap.size 29 1 (.slice gs i gc) i (vs.map Prod.fst)) := by
        have h := RO.out.row
        rw [VS.out.1] at h
        exact h
      have KS2 : Hid (∀ (Y6 w7 : World) (s7 : Option Addr) (c7 : Nat), Below wr.heap.size wr Y6 → Far Y6 w7 (.slice gs i gc) (.slice s7 (i + 1) c7) → w7.cell? ⟨gi, oi + i, none⟩ = some (.slice sb l.length cb)) := fun Y6 w7 s7 c7 hY hf => by
        have hb : Below x1.heap.size wr w7 := hf.below (hY.mono BR.out.size) (Nat.le_trans BR.out.size hY.size) (fun g hg => (ShfKit.own_block RW6.out hg).1)
        obtain ⟨g', o', sb', cb', e, hg', _⟩ := (AW.out x1 (BW.out x1 (Below.refl _ _))).at_ i l hl
        cases e
        exact below_cell hb hg' p0
      have NX : Hid (∀ (w5 Y6 w7 : World) (g5 c5 : Nat) (s7 : Option Addr) (c7 : Nat), Below wr.heap.size wr w5 → Below w5.heap.size w5 Y6 → w5.ownsRow wr.heap.size 4 1 (.slice (some ⟨g5, 0, none⟩) l.length c5) l.length (bo l) → w7.ownsRow x1.heap.size 29 1 (.slice s7 (i + 1) c7) (i + 1) (vs.map Prod.fst ++ [.slice (some ⟨g5, 0, none⟩) l.length c5]) → Far Y6 w7 (.slice gs i gc) (.slice s7 (i + 1) c7) → ∃ vs2, RunOut w7 x1.heap.size (.slice s7 (i + 1) c7) vs2 ∧ vs2.length = i + 1 ∧ vs2.map Prod.snd = is.take (i + 1) ∧ Below x1.heap.size x1 w7) := fun w5 Y6 w7 g5 c5 s7 c7 b5 b56 o5 o7 f7 => by
        have bY : Below wr.heap.size wr Y6 := b5.trans (b56.mono b5.size)
        have hf5 := (RO.out.fam.push (y := rwOf (.slice (some ⟨g5, 0, none⟩) l.length c5, l)) b5 o5 BR.out.size).below b56
        refine ⟨vs ++ [(.slice (some ⟨g5, 0, none⟩) l.length c5, l)], RunOut.push (ownsRow_below RW6.out bY) VS.out.1 (by rw [List.map_append]; exact hf5) o7 f7, by rw [List.length_append, VS.out.1]; rfl, by rw [List.map_append, VS.out.2, List.take_add_one, hl]; rfl, ?_⟩
        exact f7.below (BR.out.trans (bY.mono BR.out.size)) (Nat.le_trans BR.out.size bY.size) (fun g hg => (ShfKit.own_block RW6.out hg).1)
      clear hl hcl hnl p0
      go_wp2
      refine wp_region_noPanic ?_
      refine wp_region_held_drew (S := fun W => W.cell? ⟨gi, oi + i, none⟩ = some (.slice sb l.length cb)) (by kernel_rfl) (KS.out _ (Below.refl _ _).drew) (fun hHeld => ?_)
      refine wpAnyH_take (i := 0) (v := ?_) (by simp only [List.getElem?_toArray, List.getElem?_cons_zero]; rfl) (by kernel_rfl) (by kernel_rfl) (by kernel_rfl) (fun _ _ _ h => h) (Or.inl ⟨by rfl, ?_⟩) (by assumption) ?_
      rotate_left 1
      · intro w hSw; (try dsimp only at hSw); go_simp; (try with_reducible rfl)
      try simp only [Act.put, List.setIfInBounds_toArray, List.set_cons_zero, List.set_cons_succ]
      refine wpAnyH_take (i := 1) (v := ?_) (by simp only [List.getElem?_toArray, List.getElem?_cons_succ, List.getElem?_cons_zero]; rfl) (by kernel_rfl) (by kernel_rfl) (by kernel_rfl) (fun _ _ _ h => h) (Or.inl ⟨by rfl, ?_⟩) (by assumption) ?_
      rotate_left 1
      · intro w hSw; (try dsimp only at hSw); go_simp; (try with_reducible rfl)
      try simp only [Act.put, List.setIfInBounds_toArray, List.set_cons_zero, List.set_cons_succ]
      refine wpAnyH_take (i := 2) (v := ?_) (by simp only [List.getElem?_toArray, List.getElem?_cons_succ, List.getElem?_cons_zero]; rfl) (by kernel_rfl) (by kernel_rfl) (by kernel_rfl) (fun _ _ _ h => h) (Or.inl ⟨by rfl, ?_⟩) (by assumption) ?_
      rotate_left 1
      · intro w hSw; (try dsimp only at hSw); go_simp; (try with_reducible rfl)
      try simp only [Act.put, List.setIfInBounds_toArray, List.set_cons_zero, List.set_cons_succ]
      refine wpAnyH_take (i := 3) (v := ?_) (by simp only [List.getElem?_toArray, List.getElem?_cons_succ, List.getElem?_cons_zero]; rfl) (by kernel_rfl) (by kernel_rfl) (by kernel_rfl) (fun _ _ _ h => h) (Or.inl ⟨by rfl, ?_⟩) (by assumption) ?_
      rotate_left 1
      · intro w hSw; (try dsimp only at hSw); go_simp; (try with_reducible rfl)
      try simp only [Act.put, List.setIfInBounds_toArray, List.set_cons_zero, List.set_cons_succ]
      refine wpAnyH_take (i := 4) (v := ?_) (by simp only [List.getElem?_toArray, List.getElem?_cons_succ, List.getElem?_cons_zero]; rfl) (by kernel_rfl) (by kernel_rfl) (by kernel_rfl) (fun _ _ _ h => h) (Or.inl ⟨by rfl, ?_⟩) (by assumption) ?_
      rotate_left 1
      · intro w hSw; (try dsimp only at hSw); go_simp; (try with_reducible rfl)
      try simp only [Act.put, List.setIfInBounds_toArray, List.set_cons_zero, List.set_cons_succ]
      refine wpAnyH_take (i := 6) (v := ?_) (by simp only [List.getElem?_toArray, List.getElem?_cons_succ, List.getElem?_cons_zero]; rfl) (by kernel_rfl) (by kernel_rfl) (by kernel_rfl) (fun _ _ _ h => h) (Or.inl ⟨by rfl, ?_⟩) (by assumption) ?_
      rotate_left 1
      · intro w hSw; (try dsimp only at hSw); go_simp; (try with_reducible rfl)
      try simp only [Act.put, List.setIfInBounds_toArray, List.set_cons_zero, List.set_cons_succ]
      refine wpAnyH_take (i := 7) (v := ?_) (by simp only [List.getElem?_toArray, List.getElem?_cons_succ, List.getElem?_cons_zero]; rfl) (by kernel_rfl) (by kernel_rfl) (by kernel_rfl) (fun _ _ _ h => h) (Or.inl ⟨by rfl, ?_⟩) (by assumption) ?_
      rotate_left 1
      · intro w hSw; (try dsimp only at hSw); go_simp; (try with_reducible rfl)
      try simp only [Act.put, List.setIfInBounds_toArray, List.set_cons_zero, List.set_cons_succ]
      refine wpAnyH_take (i := 8) (v := ?_) (by simp only [List.getElem?_toArray, List.getElem?_cons_succ, List.getElem?_cons_zero]; rfl) (by kernel_rfl) (by kernel_rfl) (by kernel_rfl) (fun _ _ _ h => h) (Or.inl ⟨by rfl, ?_⟩) (by assumption) ?_
      rotate_left 1
      · intro w hSw; (try dsimp only at hSw); go_simp; (try with_reducible rfl)
      try simp only [Act.put, List.setIfInBounds_toArray, List.set_cons_zero, List.set_cons_succ]
      refine wpAnyH_take (i := 9) (v := ?_) (by simp only [List.getElem?_toArray, List.getElem?_cons_succ, List.getElem?_cons_zero]; rfl) (by kernel_rfl) (by kernel_rfl) (by kernel_rfl) (fun _ _ _ h => h) (Or.inl ⟨by rfl, ?_⟩) (by assumption) ?_
      rotate_left 1
      · intro w hSw; (try dsimp only at hSw); go_simp; (try with_reducible rfl)
      try simp only [Act.put, List.setIfInBounds_toArray, List.set_cons_zero, List.set_cons_succ]
      refine wpAnyH_take (i := 10) (v := ?_) (by simp only [List.getElem?_toArray, List.getElem?_cons_succ, List.getElem?_cons_zero]; rfl) (by kernel_rfl) (by kernel_rfl) (by kernel_rfl) (fun _ _ _ h => h) (Or.inl ⟨by rfl, ?_⟩) (by assumption) ?_
      rotate_left 1
      · intro w hSw; (try dsimp only at hSw); go_simp; (try with_reducible rfl)
      try simp only [Act.put, List.setIfInBounds_toArray, List.set_cons_zero, List.set_cons_succ]
      refine wpAnyH_ready (rs := [5]) (by kernel_rfl) (by simp) ?_
      refine AllReadyH.cons (by simp only [List.getElem?_toArray, List.getElem?_cons_succ, List.getElem?_cons_zero]; rfl) (fun K hK => ?_) AllReadyH.nil
      go_simp
      go_at_call 30
      refine Calls.mono (RM.out _ (Below.refl _ _).drew) ?_
      rintro e w5 ⟨v5, rfl, hm5⟩
      obtain ⟨g5, c5, rfl, hc5, _, hg5⟩ := own_some hm5.own (by omega)
      have B5 : Hid (Below wr.heap.size wr w5) := (Below.refl wr.heap.size wr).drew.trans hm5.below
      have O5 : Hid (w5.ownsRow wr.heap.size 4 1 (.slice (some ⟨g5, 0, none⟩) l.length c5) l.length (bo l)) := by
          have h := own_cut (m := l.length) hm5.own (by omega)
          rw [bo_cut] at h
          exact h
      have hc52 : l.length ≤ c5 := by omega
      clear hm5
      clear hHeld
      refine hK.out _ _ (KS.out w5 B5.out) (fun hHeld => ?_)
      clear hK K
      try simp only [Act.put, List.setIfInBounds_toArray, List.set_cons_zero, List.set_cons_succ]
      refine wpAnyH_take (i := 11) (v := .slice (some ⟨g5, 0, none⟩) l.length c5) (by simp only [List.getElem?_toArray, List.getElem?_cons_succ, List.getElem?_cons_zero]; rfl) (by kernel_rfl) (by kernel_rfl) (by kernel_rfl) (fun _ _ _ h => h) (Or.inl ⟨by rfl, ?_⟩) (by assumption) ?_
      · intro w hSw; (try dsimp only at hSw); (try go_simp); ((try rw [if_pos (by omega)]); (try simp); (try omega))
      try simp only [Act.put, List.setIfInBounds_toArray, List.set_cons_zero, List.set_cons_succ]
      refine wpAnyH_ready (rs := [12]) (by kernel_rfl) (by simp) ?_
      refine AllReadyH.cons (by simp only [List.getElem?_toArray, List.getElem?_cons_succ, List.getElem?_cons_zero]; rfl) (fun K hK => ?_) AllReadyH.nil
      go_simp
      obtain ⟨Y6, hY6⟩ : ∃ Y6, Y6 = w5.alloc (Obj.cells #[.slice (some ⟨g5, 0, none⟩) l.length c5] 29) := ⟨_, rfl⟩
      rw [← hY6]
      have B56 : Hid (Below w5.heap.size w5 Y6) := by rw [hY6]; exact (Below.refl _ _).alloc (Nat.le_refl _) _
      have BY6 : Hid (Below wr.heap.size wr Y6) := B5.out.trans (B56.out.mono B5.out.size)
      have RY6 : Hid (Y6.heap[w5.heap.size]? = some (.cells #[.slice (some ⟨g5, 0, none⟩) l.length c5] 29 (0, 0))) := by rw [hY6]; exact heap_alloc_new w5 _
      clear hY6
      clear hHeld
      refine hK.out _ _ (KS.out _ BY6.out) (fun hHeld => ?_)
      clear hK K
      try simp only [Act.put, List.setIfInBounds_toArray, List.set_cons_zero, List.set_cons_succ]
      refine wpAnyH_ready (rs := [13]) (by kernel_rfl) (by simp) ?_
      refine AllReadyH.cons (by simp only [List.getElem?_toArray, List.getElem?_cons_succ, List.getElem?_cons_zero]; rfl) (fun K hK => ?_) AllReadyH.nil
      skip
      refine wp_cells _ _ 23 rfl x1.heap.size 29 _ 1 24 Tryd.underlying23 info29 rfl (by decide) (.slice gs i gc) i _ rfl (ownsRow_below (RW6.out) BY6.out) (some ⟨w5.heap.size, 0, none⟩) 1 1 [.slice (some ⟨g5, 0, none⟩) l.length c5] rfl rfl ⟨fun k u hu => ⟨w5.heap.size, 0, rfl, (Array.getElem?_eq_some_iff.1 RY6.out).1, by rw [Nat.zero_add, cell_row RY6.out]; simpa using hu⟩⟩ (fun e => by cases e) (fun u hu => by simp at hu; subst hu; rfl) (by unfold maxLen; omega) (by omega) (Nat.le_trans BR.out.size BY6.out.size) ?_
      intro v7 w7 o7 f7
      obtain ⟨s7, c7, rfl⟩ := own_shape o7
      have N7 : Hid (∃ vs2, RunOut w7 x1.heap.size (.slice s7 (i + 1) c7) vs2 ∧ vs2.length = i + 1 ∧ vs2.map Prod.snd = is.take (i + 1) ∧ Below x1.heap.size x1 w7) := NX.out w5 Y6 w7 g5 c5 s7 c7 B5.out B56.out O5.out o7 f7
      have KS7 : w7.cell? ⟨gi, oi + i, none⟩ = some (.slice sb l.length cb) := KS2.out Y6 w7 s7 c7 BY6.out f7 
      clear o7 f7 RY6 O5
      clear hHeld
      refine hK.out _ _ KS7 (fun hHeld => ?_)
      clear hK K
      try simp only [Act.put, List.setIfInBounds_toArray, List.set_cons_zero, List.set_cons_succ]
      refine wpAnyH_take (i := 14) (v := ?_) (by simp only [List.getElem?_toArray, List.getElem?_cons_succ, List.getElem?_cons_zero]; rfl) (by kernel_rfl) (by kernel_rfl) (by kernel_rfl) (fun _ _ _ h => h) (Or.inl ⟨by rfl, ?_⟩) (by assumption) ?_
      rotate_left 1
      · intro w hSw; (try dsimp only at hSw); go_simp; (try with_reducible rfl)
      try simp only [Act.put, List.setIfInBounds_toArray, List.set_cons_zero, List.set_cons_succ]
      refine wpAnyH_done (by kernel_rfl) ?_ _
      refine NoPanic.normal ?_
      go_wp2
      go_roundg (is.length - (i + 1))
      case measure => omega
      case rel => exact ⟨i + 1, _, _, hlt, rfl, by go_num, rfl, N7.out⟩
    · have hin : i = is.length := by omega
      subst hin
      obtain ⟨wG, hwG⟩ : ∃ wG, wG = wr := ⟨_, rfl⟩
      subst hwG
      have GV : Hid (vs.map Prod.snd = is) := by
        show _ = _
        rw [VS.out.2, List.take_length]
      have RN : Hid (∀ W, Below wG.heap.size wG W → Calls Tryd.prog 13 #[.agg #[.string c.name, .slice (some ⟨gg, 0, none⟩) c.gates.length kg, .slice (some ⟨go, 0, none⟩) c.outs.length ko], .slice gs is.length gc] W fun e w' => RunSays c is W.heap.size e w' ∧ Below W.heap.size W w') := fun W hW => by
        have h1 : Below x1.heap.size x1 W := BR.out.trans (hW.mono BR.out.size)
        exact RT.out c W _ gg kg go ko gs gc is rfl rfl rfl LIM.out.2.1 (TWA.out W h1) (BW.out W h1) (by have := (RO.out.below hW).lists; rw [GV.out] at this; exact this) rfl
      have EG : Hid (∀ W, Below wG.heap.size wG W → (∀ j, W.cell? ⟨w.heap.size, j, none⟩ = (#[Value.string c.name, Value.slice sg c.gates.length cg, Value.slice so c.outs.length co] : Array Value)[j]?) ∧ (∀ j, W.cell? ⟨w1.heap.size, j, none⟩ = (#[Value.string c.name, Value.slice (some ⟨gg, 0, none⟩) c.gates.length kg, Value.slice (some ⟨go, 0, none⟩) c.outs.length ko] : Array Value)[j]?) ∧ w.heap.size < W.heap.size ∧ w1.heap.size < W.heap.size) := fun W hW => CE.out W (BR.out.trans (hW.mono BR.out.size))
      have BWG : Hid (∀ W, Below wG.heap.size wG W → Below x1.heap.size x1 W ∧ Below w.heap.size w W) := fun W hW => ⟨BR.out.trans (hW.mono BR.out.size), BW.out W (BR.out.trans (hW.mono BR.out.size))⟩
      obtain ⟨aG, eG, hsG, htG⟩ := EG.out wG (Below.refl _ _)
      clear hlt hi
      go_wp2_with (first
        | (have q := LK; clear q; go_at_call 18; fail)
        | (have q := OM; clear q; go_at_call 36; refine Calls.mono (RS.out w3 (BWG.out w3 BG3.out).2) ?_; rintro e w4 ⟨⟨kv, vsk, r4, hR4, rfl, lsk⟩, b4⟩; obtain ⟨hosk, rfl⟩ := HR.out.one hR4; have EK : Hid (vsl.map Prod.snd = vsk.map Prod.snd) := hosk; have nk : vsk.length = vsl.length := (by simpa using (congrArg List.length hosk).symm); obtain ⟨sk, ck, hkv⟩ := own_shape lsk.row.own; rw [nk] at hkv; subst hkv; have LK : Hid (KOut w4 w3.heap.size (.slice sk vsl.length ck) vsk) := ⟨lsk.row.own, lsk.each⟩; have NK := hid nk; have B34 := hid b4; clear hR4 hosk nk lsk b4)
        | (have q := OL; clear q; go_at_call 13; refine Calls.mono (RN.out w2 BG2.out) ?_; rintro e w3 ⟨⟨mv, vsm, r3, hR3, rfl, om⟩, b3⟩; obtain ⟨hosm, rfl⟩ := HR.out.one hR3; have EM : Hid (vsl.map Prod.snd = vsm.map Prod.snd) := hosm; have nm : vsm.length = vsl.length := (by simpa using (congrArg List.length hosm).symm); obtain ⟨sm, cm, hmv⟩ := own_shape om.row; rw [nm] at hmv; subst hmv; have OM := hid om; have NM := hid nm; have B23 := hid b3; have BG3 : Hid (Below wG.heap.size wG w3) := BG2.out.trans (b3.mono BG2.out.size); obtain ⟨a3, e3, hs3, ht3⟩ := EG.out w3 BG3.out; clear hR3 hosm nm om b3)
        | (go_at_call 13; refine Calls.mono (RN.out wG (Below.refl _ _)) ?_; rintro e w2 ⟨⟨lv, vsl, r, hR, rfl, ol⟩, b2⟩; have HR := hid hR; obtain ⟨sl, cl, hlv⟩ := own_shape ol.row; subst hlv; have OL := hid ol; have BG2 : Hid (Below wG.heap.size wG w2) := b2; obtain ⟨a2, e2, hs2, ht2⟩ := EG.out w2 BG2.out; clear hR ol b2))
      have BG4 : Hid (Below wG.heap.size wG w4) := BG3.out.trans (B34.out.mono BG3.out.size)
      have B24 : Hid (Below w2.heap.size w2 w4) := B23.out.trans (B34.out.mono B23.out.size)
      have FEW : Hid (vsl.length ≤ is.length ∧ ∀ l ∈ vsl.map Prod.snd, l.length ≤ 65536) := by
        have h := HR.out.few
        rw [List.length_map] at h
        exact h
      have LSK : Hid (∀ W, Below w4.heap.size w4 W → ListsAt W sk (vsl.map Prod.snd)) := fun W hW => by
        have h := (LK.out.below hW).lists
        rw [← EK.out] at h
        exact h
      have T1 : Hid (∀ W, Below w4.heap.size w4 W → Calls Tryd.prog 18 #[.slice sl vsl.length cl, .slice sk vsl.length ck] W fun e w' => e = .returned (.bool true) ∧ Below W.heap.size W w') := fun W hW => by
        have h := lists_true (vsl.map Prod.snd) sl sk cl ck W ((OL.out.below B24.out).below hW).lists (LSK.out W hW) (by rw [List.length_map]; have := FEW.out.1; omega) (fun l hl => by have := FEW.out.2 l hl; omega)
        rw [List.length_map] at h
        exact h
      have T2 : Hid (∀ W, Below w4.heap.size w4 W → Calls Tryd.prog 18 #[.slice sm vsl.length cm, .slice sk vsl.length ck] W fun e w' => e = .returned (.bool true) ∧ Below W.heap.size W w') := fun W hW => by
        have h := lists_true (vsl.map Prod.snd) sm sk cm ck W (by rw [EM.out]; exact ((OM.out.below B34.out).below hW).lists) (LSK.out W hW) (by rw [List.length_map]; have := FEW.out.1; omega) (fun l hl => by have := FEW.out.2 l hl; omega)
        rw [List.length_map] at h
        exact h
      have T3 : Hid (∀ W, Below w4.heap.size w4 W → Calls Tryd.prog 18 #[.slice gs is.length gc, .slice si is.length ci] W fun e w' => e = .returned (.bool true) ∧ Below W.heap.size W w') := fun W hW => by
        have hb : Below wG.heap.size wG W := BG4.out.trans (hW.mono BG4.out.size)
        exact lists_true is gs si gc ci W (by have h := (RO.out.below hb).lists; rw [GV.out] at h; exact h) (AW.out W (BWG.out W hb).2) (by omega) (fun l hl => by have := LL.out l hl; omega)
      clear aG eG hsG htG a2 e2 hs2 ht2 a3 e3 hs3 ht3
      refine Calls.mono (T1.out w4 (Below.refl _ _)) ?_
      rintro e w5 ⟨rfl, b5⟩
      have B45 := hid b5
      clear b5
      dsimp only
      go_wp2_with (first
        | (have q := B47; clear q; go_at_call 24; refine Calls.mono (KT.out w7 _ _ _ _ _ (TWA.out w7 (BWG.out w7 BG7.out).1) (BWG.out w7 BG7.out).2) ?_; rintro e wD ⟨rfl, b8⟩; have B4D : Hid (Below w4.heap.size w4 wD) := B47.out.trans (b8.mono B47.out.size); clear b8)
        | (have q := B46; clear q; go_at_call 18; refine Calls.mono (T3.out w6 B46.out) ?_; rintro e w7 ⟨rfl, b7⟩; have B47 : Hid (Below w4.heap.size w4 w7) := B46.out.trans (b7.mono B46.out.size); have BG7 : Hid (Below wG.heap.size wG w7) := BG4.out.trans (B47.out.mono BG4.out.size); obtain ⟨a7, e7, hs7, ht7⟩ := EG.out w7 BG7.out; clear b7)
        | (go_at_call 18; refine Calls.mono (T2.out w5 B45.out) ?_; rintro e w6 ⟨rfl, b6⟩; have B46 : Hid (Below w4.heap.size w4 w6) := B45.out.trans (b6.mono B45.out.size); clear b6))
      clear a7 e7 hs7 ht7 T1 T2 T3 B45 B46 B47 BG7 KT
      have B2D : Hid (Below w2.heap.size w2 wD) := B24.out.trans (B4D.out.mono B24.out.size)
      have B3D : Hid (Below w3.heap.size w3 wD) := B34.out.trans (B4D.out.mono B34.out.size)
      have BGD : Hid (Below wG.heap.size wG wD) := BG4.out.trans (B4D.out.mono BG4.out.size)
      have hvl : vsl.length ≤ 1099511627776 := by have := FEW.out.1; omega
      go_loopg [14, 15, 16] vsl.length (fun k av wv iv W => ∃ (i : Nat) (sa : Option Addr) (ca : Nat) (sw : Option Addr) (cw : Nat), i ≤ vsl.length ∧ i ≤ 200 ∧ k = vsl.length - i ∧ iv = .int .i64 (i : Int) ∧ av = .slice sa (2 * i) ca ∧ wv = .slice sw (2 * i) cw ∧ Hid ((i = 0 → sa = none ∧ ca = 0 ∧ sw = none ∧ cw = 0) ∧ Fam W wD.heap.size 29 1 [(.slice sa (2 * i) ca, 2 * i, (inter vsl vsm i).map Prod.fst), (.slice sw (2 * i) cw, 2 * i, (inter vsk vsk i).map Prod.fst)] ∧ Below wD.heap.size wD W))
      case atStart => exact ⟨0, none, 0, none, 0, Nat.zero_le _, by omega, rfl, rfl, rfl, rfl, fun _ => ⟨rfl, rfl, rfl, rfl⟩, fam_pushNil (fam_pushNil (Fam.nil wD wD.heap.size 29 1) (Nat.le_refl _)) (Nat.le_refl _), Below.refl _ _⟩
      case round =>
        obtain ⟨i, sa, ca, sw, cw, hi, hi2, hgk, rfl, rfl, rfl, HR2⟩ := hrel
        subst hgk
        have NIL := hid HR2.out.1
        have FA := hid HR2.out.2.1
        have BD := hid HR2.out.2.2
        clear HR2
        by_cases hlt : i < vsl.length ∧ i < 200
        · obtain ⟨hl1, hl2⟩ := hlt
          obtain ⟨y1, hy1⟩ : ∃ y, vsl[i]? = some y := ⟨_, List.getElem?_eq_getElem hl1⟩
          obtain ⟨y2, hy2⟩ : ∃ y, vsm[i]? = some y := ⟨_, List.getElem?_eq_getElem (by rw [NM.out]; exact hl1)⟩
          obtain ⟨y3, hy3⟩ : ∃ y, vsk[i]? = some y := ⟨_, List.getElem?_eq_getElem (by rw [NK.out]; exact hl1)⟩
          have q12 : y2.2 = y1.2 := by
            have h1 : (vsl.map Prod.snd)[i]? = some y1.2 := by rw [List.getElem?_map, hy1]; rfl
            rw [EM.out, List.getElem?_map, hy2] at h1
            exact Option.some.inj h1
          have q13 : y3.2 = y1.2 := by
            have h1 : (vsl.map Prod.snd)[i]? = some y1.2 := by rw [List.getElem?_map, hy1]; rfl
            rw [EK.out, List.getElem?_map, hy3] at h1
            exact Option.some.inj h1
          obtain ⟨s1, c1, h1⟩ := own_shape (OL.out.fam.own i (rwOf y1) (by rw [List.getElem?_map, hy1]; rfl))
          obtain ⟨s2, c2, h2⟩ := own_shape (OM.out.fam.own i (rwOf y2) (by rw [List.getElem?_map, hy2]; rfl))
          obtain ⟨s3, c3, h3⟩ := own_shape (LK.out.each y3 (List.mem_of_getElem? hy3))
          have h1 : y1.1 = .slice s1 y1.2.length c1 := h1
          have h2 : y2.1 = .slice s2 y1.2.length c2 := by rw [← q12]; exact h2
          have h3 : y3.1 = .slice s3 y1.2.length c3 := by rw [← q13]; exact h3
          obtain ⟨gl, cl', hv1, _, hgl, k1, _⟩ := own_cell OL.out.row (j := i) (x := y1.1) (by rw [List.getElem?_map, hy1]; rfl)
          obtain ⟨gm, cm', hv2, _, hgm, k2, _⟩ := own_cell OM.out.row (j := i) (x := y2.1) (by rw [List.getElem?_map, hy2]; rfl)
          obtain ⟨gk, ck', hv3, _, hgk2, k3, _⟩ := own_cell LK.out.row (j := i) (x := y3.1) (by rw [List.getElem?_map, hy3]; rfl)
          simp only [Value.slice.injEq] at hv1 hv2 hv3
          obtain ⟨rfl, z1, rfl⟩ := hv1
          obtain ⟨rfl, z2, rfl⟩ := hv2
          obtain ⟨rfl, z3, rfl⟩ := hv3
          clear z1 z2 z3
          obtain ⟨n1, hn1⟩ : ∃ n1, n1 = y1.2.length := ⟨_, rfl⟩
          rw [← hn1] at h1 h2 h3
          rw [h1] at k1
          rw [h2] at k2
          rw [h3] at k3
          have KD1 : Hid (∀ W, Below wD.heap.size wD W → W.cell? ⟨gl, i, none⟩ = some (.slice s1 n1 c1) ∧ W.cell? ⟨gm, i, none⟩ = some (.slice s2 n1 c2)) := fun W hW => ⟨below_cell (B2D.out.trans (hW.mono B2D.out.size)) hgl k1, below_cell (B3D.out.trans (hW.mono B3D.out.size)) hgm k2⟩
          have KD2 : Hid (∀ W, Below wD.heap.size wD W → W.cell? ⟨gk, i, none⟩ = some (.slice s3 n1 c3)) := fun W hW => below_cell (B4D.out.trans (hW.mono B4D.out.size)) hgk2 k3
          have HQ1 : Hid ((inter vsl vsm (i + 1)).map Prod.fst = (inter vsl vsm i).map Prod.fst ++ [.slice s1 n1 c1, .slice s2 n1 c2]) := by
            show _ = _
            rw [inter_succ hy1 hy2, List.map_append, ← h1, ← h2]
            rfl
          have HQ2 : Hid ((inter vsk vsk (i + 1)).map Prod.fst = (inter vsk vsk i).map Prod.fst ++ [.slice s3 n1 c3, .slice s3 n1 c3]) := by
            show _ = _
            rw [inter_succ hy3 hy3, List.map_append, ← h3]
            rfl
          clear hy1 hy2 hy3 q12 q13 h1 h2 h3 k1 k2 k3 hn1
          go_wp2
          refine wp_region_noPanic ?_
          refine wp_region_held_drew (S := fun W => W.cell? ⟨gl, i, none⟩ = some (.slice s1 n1 c1) ∧ W.cell? ⟨gm, i, none⟩ = some (.slice s2 n1 c2)) (by kernel_rfl) (KD1.out _ BD.out.drew) (fun hHeld => ?_)
          refine wpAnyH_take (i := 0) (v := ?_) (by simp only [List.getElem?_toArray, List.getElem?_cons_zero]; rfl) (by kernel_rfl) (by kernel_rfl) (by kernel_rfl) (fun _ _ _ h => h) (Or.inl ⟨by rfl, ?_⟩) (by assumption) ?_
          rotate_left 1
          · intro w hSw; (try dsimp only at hSw); go_simp; (try with_reducible rfl)
          try simp only [Act.put, List.setIfInBounds_toArray, List.set_cons_zero, List.set_cons_succ]
          refine wpAnyH_take (i := 1) (v := ?_) (by simp only [List.getElem?_toArray, List.getElem?_cons_succ, List.getElem?_cons_zero]; rfl) (by kernel_rfl) (by kernel_rfl) (by kernel_rfl) (fun _ _ _ h => h) (Or.inl ⟨by rfl, ?_⟩) (by assumption) ?_
          rotate_left 1
          · intro w hSw; (try dsimp only at hSw); go_simp; (try with_reducible rfl)
          try simp only [Act.put, List.setIfInBounds_toArray, List.set_cons_zero, List.set_cons_succ]
          refine wpAnyH_take (i := 2) (v := ?_) (by simp only [List.getElem?_toArray, List.getElem?_cons_succ, List.getElem?_cons_zero]; rfl) (by kernel_rfl) (by kernel_rfl) (by kernel_rfl) (fun _ _ _ h => h) (Or.inl ⟨by rfl, ?_⟩) (by assumption) ?_
          rotate_left 1
          · intro w hSw; (try dsimp only at hSw); go_simp; (try with_reducible rfl)
          try simp only [Act.put, List.setIfInBounds_toArray, List.set_cons_zero, List.set_cons_succ]
          refine wpAnyH_take (i := 3) (v := ?_) (by simp only [List.getElem?_toArray, List.getElem?_cons_succ, List.getElem?_cons_zero]; rfl) (by kernel_rfl) (by kernel_rfl) (by kernel_rfl) (fun _ _ _ h => h) (Or.inl ⟨by rfl, ?_⟩) (by assumption) ?_
          rotate_left 1
          · intro w hSw; (try dsimp only at hSw); go_simp; (try with_reducible rfl)
          try simp only [Act.put, List.setIfInBounds_toArray, List.set_cons_zero, List.set_cons_succ]
          refine wpAnyH_take (i := 4) (v := ?_) (by simp only [List.getElem?_toArray, List.getElem?_cons_succ, List.getElem?_cons_zero]; rfl) (by kernel_rfl) (by kernel_rfl) (by kernel_rfl) (fun _ _ _ h => h) (Or.inl ⟨by rfl, ?_⟩) (by assumption) ?_
          rotate_left 1
          · intro w hSw; (try dsimp only at hSw); go_simp; (try with_reducible rfl)
          try simp only [Act.put, List.setIfInBounds_toArray, List.set_cons_zero, List.set_cons_succ]
          refine wpAnyH_take (i := 5) (v := ?_) (by simp only [List.getElem?_toArray, List.getElem?_cons_succ, List.getElem?_cons_zero]; rfl) (by kernel_rfl) (by kernel_rfl) (by kernel_rfl) (fun _ _ _ h => h) (Or.inl ⟨by rfl, ?_⟩) (by assumption) ?_
          rotate_left 1
          · intro w hSw; (try dsimp only at hSw); go_simp; (try with_reducible rfl)
          try simp only [Act.put, List.setIfInBounds_toArray, List.set_cons_zero, List.set_cons_succ]
          refine wpAnyH_take (i := 6) (v := ?_) (by simp only [List.getElem?_toArray, List.getElem?_cons_succ, List.getElem?_cons_zero]; rfl) (by kernel_rfl) (by kernel_rfl) (by kernel_rfl) (fun _ _ _ h => h) (Or.inl ⟨by rfl, ?_⟩) (by assumption) ?_
          rotate_left 1
          · intro w hSw; (try dsimp only at hSw); go_simp; (try with_reducible rfl)
          try simp only [Act.put, List.setIfInBounds_toArray, List.set_cons_zero, List.set_cons_succ]
          refine wpAnyH_take (i := 7) (v := ?_) (by simp only [List.getElem?_toArray, List.getElem?_cons_succ, List.getElem?_cons_zero]; rfl) (by kernel_rfl) (by kernel_rfl) (by kernel_rfl) (fun _ _ _ h => h) (Or.inl ⟨by rfl, ?_⟩) (by assumption) ?_
          rotate_left 1
          · intro w hSw; (try dsimp only at hSw); go_simp; (try with_reducible rfl)
          try simp only [Act.put, List.setIfInBounds_toArray, List.set_cons_zero, List.set_cons_succ]
          refine wpAnyH_take (i := 8) (v := ?_) (by simp only [List.getElem?_toArray, List.getElem?_cons_succ, List.getElem?_cons_zero]; rfl) (by kernel_rfl) (by kernel_rfl) (by kernel_rfl) (fun _ _ _ h => h) (Or.inl ⟨by rfl, ?_⟩) (by assumption) ?_
          rotate_left 1
          · intro w hSw; (try dsimp only at hSw); go_simp; (try with_reducible rfl)
          try simp only [Act.put, List.setIfInBounds_toArray, List.set_cons_zero, List.set_cons_succ]
          refine wpAnyH_ready (rs := [9]) (by kernel_rfl) (by simp) ?_
          refine AllReadyH.cons (by simp only [List.getElem?_toArray, List.getElem?_cons_succ, List.getElem?_cons_zero]; rfl) (fun K hK => ?_) AllReadyH.nil
          go_simp
          obtain ⟨Y14, hY14⟩ : ∃ Y, Y = World.drew (World.alloc wr (Obj.cells #[.slice s1 n1 c1, .slice s2 n1 c2] 29)) := ⟨_, rfl⟩
          rw [← hY14]
          have BY14 : Hid (Below wr.heap.size wr Y14) := by rw [hY14]; exact ((Below.refl wr.heap.size wr).alloc (Nat.le_refl _) _).drew
          have RY14 : Hid (Y14.heap[wr.heap.size]? = some (.cells #[.slice s1 n1 c1, .slice s2 n1 c2] 29 (0, 0))) := by rw [hY14]; exact heap_alloc_new wr _
          have BDY14 : Hid (Below wD.heap.size wD Y14) := BD.out.trans (BY14.out.mono BD.out.size)
          clear hY14
          clear hHeld
          refine hK.out _ _ (KD1.out _ BDY14.out) (fun hHeld => ?_)
          clear hK K
          try simp only [Act.put, List.setIfInBounds_toArray, List.set_cons_zero, List.set_cons_succ]
          refine wpAnyH_ready (rs := [10]) (by kernel_rfl) (by simp) ?_
          refine AllReadyH.cons (by simp only [List.getElem?_toArray, List.getElem?_cons_succ, List.getElem?_cons_zero]; rfl) (fun K hK => ?_) AllReadyH.nil
          skip
          refine wp_cells _ _ 23 rfl wD.heap.size 29 _ 1 24 Tryd.underlying23 info29 rfl (by decide) (.slice sa (2 * i) ca) (2 * i) _ rfl ((FA.out.below BY14.out).own 0 (.slice sa (2 * i) ca, 2 * i, (inter vsl vsm i).map Prod.fst) rfl) (some ⟨wr.heap.size, 0, none⟩) 2 2 [.slice s1 n1 c1, .slice s2 n1 c2] rfl rfl ⟨fun k u hu => ⟨wr.heap.size, 0, rfl, (Array.getElem?_eq_some_iff.1 RY14.out).1, by rw [Nat.zero_add, cell_row RY14.out]; simpa using hu⟩⟩ (fun e => by cases e) (fun u hu => by simp at hu; rcases hu with rfl | rfl <;> rfl) (by unfold maxLen; omega) (by omega) BDY14.out.size ?_
          intro vw15 w15 ow15 fw15
          rw [show 2 * i + 2 = 2 * (i + 1) by omega] at ow15
          obtain ⟨sw15, cw15, rfl⟩ := own_shape ow15
          have FB := hid ((FA.out.below BY14.out).turn (i := 0) (y := (.slice sw15 (2 * (i + 1)) cw15, 2 * (i + 1), _)) rfl ow15 fw15)
          have BD15 : Hid (Below wD.heap.size wD w15) := fw15.below BDY14.out BDY14.out.size (fun g hg => (ShfKit.own_block ((FA.out.below BY14.out).own 0 (.slice sa (2 * i) ca, 2 * i, (inter vsl vsm i).map Prod.fst) rfl) hg).1)
          clear ow15 fw15 RY14
          clear hHeld
          refine hK.out _ _ (KD1.out _ BD15.out) (fun hHeld => ?_)
          clear hK K
          try simp only [Act.put, List.setIfInBounds_toArray, List.set_cons_zero, List.set_cons_succ]
          refine wpAnyH_take (i := 11) (v := ?_) (by simp only [List.getElem?_toArray, List.getElem?_cons_succ, List.getElem?_cons_zero]; rfl) (by kernel_rfl) (by kernel_rfl) (by kernel_rfl) (fun _ _ _ h => h) (Or.inl ⟨by rfl, ?_⟩) (by assumption) ?_
          rotate_left 1
          · intro w hSw; (try dsimp only at hSw); go_simp; (try with_reducible rfl)
          try simp only [Act.put, List.setIfInBounds_toArray, List.set_cons_zero, List.set_cons_succ]
          refine wpAnyH_done (by kernel_rfl) ?_ _
          refine NoPanic.normal ?_
          go_wp2
          refine wp_region_noPanic ?_
          refine wp_region_held_drew (S := fun W => W.cell? ⟨gk, i, none⟩ = some (.slice s3 n1 c3)) (by kernel_rfl) (KD2.out _ BD15.out.drew) (fun hHeld => ?_)
          refine wpAnyH_take (i := 0) (v := ?_) (by simp only [List.getElem?_toArray, List.getElem?_cons_zero]; rfl) (by kernel_rfl) (by kernel_rfl) (by kernel_rfl) (fun _ _ _ h => h) (Or.inl ⟨by rfl, ?_⟩) (by assumption) ?_
          rotate_left 1
          · intro w hSw; (try dsimp only at hSw); go_simp; (try with_reducible rfl)
          try simp only [Act.put, List.setIfInBounds_toArray, List.set_cons_zero, List.set_cons_succ]
          refine wpAnyH_take (i := 1) (v := ?_) (by simp only [List.getElem?_toArray, List.getElem?_cons_succ, List.getElem?_cons_zero]; rfl) (by kernel_rfl) (by kernel_rfl) (by kernel_rfl) (fun _ _ _ h => h) (Or.inl ⟨by rfl, ?_⟩) (by assumption) ?_
          rotate_left 1
          · intro w hSw; (try dsimp only at hSw); go_simp; (try with_reducible rfl)
          try simp only [Act.put, List.setIfInBounds_toArray, List.set_cons_zero, List.set_cons_succ]
          refine wpAnyH_take (i := 2) (v := ?_) (by simp only [List.getElem?_toArray, List.getElem?_cons_succ, List.getElem?_cons_zero]; rfl) (by kernel_rfl) (by kernel_rfl) (by kernel_rfl) (fun _ _ _ h => h) (Or.inl ⟨by rfl, ?_⟩) (by assumption) ?_
          rotate_left 1
          · intro w hSw; (try dsimp only at hSw); go_simp; (try with_reducible rfl)
          try simp only [Act.put, List.setIfInBounds_toArray, List.set_cons_zero, List.set_cons_succ]
          refine wpAnyH_take (i := 3) (v := ?_) (by simp only [List.getElem?_toArray, List.getElem?_cons_succ, List.getElem?_cons_zero]; rfl) (by kernel_rfl) (by kernel_rfl) (by kernel_rfl) (fun _ _ _ h => h) (Or.inl ⟨by rfl, ?_⟩) (by assumption) ?_
          rotate_left 1
          · intro w hSw; (try dsimp only at hSw); go_simp; (try with_reducible rfl)
          try simp only [Act.put, List.setIfInBounds_toArray, List.set_cons_zero, List.set_cons_succ]
          refine wpAnyH_take (i := 4) (v := ?_) (by simp only [List.getElem?_toArray, List.getElem?_cons_succ, List.getElem?_cons_zero]; rfl) (by kernel_rfl) (by kernel_rfl) (by kernel_rfl) (fun _ _ _ h => h) (Or.inl ⟨by rfl, ?_⟩) (by assumption) ?_
          rotate_left 1
          · intro w hSw; (try dsimp only at hSw); go_simp; (try with_reducible rfl)
          try simp only [Act.put, List.setIfInBounds_toArray, List.set_cons_zero, List.set_cons_succ]
          refine wpAnyH_take (i := 5) (v := ?_) (by simp only [List.getElem?_toArray, List.getElem?_cons_succ, List.getElem?_cons_zero]; rfl) (by kernel_rfl) (by kernel_rfl) (by kernel_rfl) (fun _ _ _ h => h) (Or.inl ⟨by rfl, ?_⟩) (by assumption) ?_
          rotate_left 1
          · intro w hSw; (try dsimp only at hSw); go_simp; (try with_reducible rfl)
          try simp only [Act.put, List.setIfInBounds_toArray, List.set_cons_zero, List.set_cons_succ]
          refine wpAnyH_take (i := 6) (v := ?_) (by simp only [List.getElem?_toArray, List.getElem?_cons_succ, List.getElem?_cons_zero]; rfl) (by kernel_rfl) (by kernel_rfl) (by kernel_rfl) (fun _ _ _ h => h) (Or.inl ⟨by rfl, ?_⟩) (by assumption) ?_
          rotate_left 1
          · intro w hSw; (try dsimp only at hSw); go_simp; (try with_reducible rfl)
          try simp only [Act.put, List.setIfInBounds_toArray, List.set_cons_zero, List.set_cons_succ]
          refine wpAnyH_take (i := 7) (v := ?_) (by simp only [List.getElem?_toArray, List.getElem?_cons_succ, List.getElem?_cons_zero]; rfl) (by kernel_rfl) (by kernel_rfl) (by kernel_rfl) (fun _ _ _ h => h) (Or.inl ⟨by rfl, ?_⟩) (by assumption) ?_
          rotate_left 1
          · intro w hSw; (try dsimp only at hSw); go_simp; (try with_reducible rfl)
          try simp only [Act.put, List.setIfInBounds_toArray, List.set_cons_zero, List.set_cons_succ]
          refine wpAnyH_take (i := 8) (v := ?_) (by simp only [List.getElem?_toArray, List.getElem?_cons_succ, List.getElem?_cons_zero]; rfl) (by kernel_rfl) (by kernel_rfl) (by kernel_rfl) (fun _ _ _ h => h) (Or.inl ⟨by rfl, ?_⟩) (by assumption) ?_
          rotate_left 1
          · intro w hSw; (try dsimp only at hSw); go_simp; (try with_reducible rfl)
          try simp only [Act.put, List.setIfInBounds_toArray, List.set_cons_zero, List.set_cons_succ]
          refine wpAnyH_ready (rs := [9]) (by kernel_rfl) (by simp) ?_
          refine AllReadyH.cons (by simp only [List.getElem?_toArray, List.getElem?_cons_succ, List.getElem?_cons_zero]; rfl) (fun K hK => ?_) AllReadyH.nil
          go_simp
          obtain ⟨Y16, hY16⟩ : ∃ Y, Y = World.drew (World.alloc w15 (Obj.cells #[.slice s3 n1 c3, .slice s3 n1 c3] 29)) := ⟨_, rfl⟩
          rw [← hY16]
          have BY16 : Hid (Below w15.heap.size w15 Y16) := by rw [hY16]; exact ((Below.refl w15.heap.size w15).alloc (Nat.le_refl _) _).drew
          have RY16 : Hid (Y16.heap[w15.heap.size]? = some (.cells #[.slice s3 n1 c3, .slice s3 n1 c3] 29 (0, 0))) := by rw [hY16]; exact heap_alloc_new w15 _
          have BDY16 : Hid (Below wD.heap.size wD Y16) := BD15.out.trans (BY16.out.mono BD15.out.size)
          clear hY16
          clear hHeld
          refine hK.out _ _ (KD2.out _ BDY16.out) (fun hHeld => ?_)
          clear hK K
          try simp only [Act.put, List.setIfInBounds_toArray, List.set_cons_zero, List.set_cons_succ]
          refine wpAnyH_ready (rs := [10]) (by kernel_rfl) (by simp) ?_
          refine AllReadyH.cons (by simp only [List.getElem?_toArray, List.getElem?_cons_succ, List.getElem?_cons_zero]; rfl) (fun K hK => ?_) AllReadyH.nil
          skip
          refine wp_cells _ _ 23 rfl wD.heap.size 29 _ 1 24 Tryd.underlying23 info29 rfl (by decide) (.slice sw (2 * i) cw) (2 * i) _ rfl ((FB.out.below BY16.out).own 1 (.slice sw (2 * i) cw, 2 * i, (inter vsk vsk i).map Prod.fst) rfl) (some ⟨w15.heap.size, 0, none⟩) 2 2 [.slice s3 n1 c3, .slice s3 n1 c3] rfl rfl ⟨fun k u hu => ⟨w15.heap.size, 0, rfl, (Array.getElem?_eq_some_iff.1 RY16.out).1, by rw [Nat.zero_add, cell_row RY16.out]; simpa using hu⟩⟩ (fun e => by cases e) (fun u hu => by simp at hu; rcases hu with rfl | rfl <;> rfl) (by unfold maxLen; omega) (by omega) BDY16.out.size ?_
          intro vw17 w17 ow17 fw17
          rw [show 2 * i + 2 = 2 * (i + 1) by omega] at ow17
          obtain ⟨sw17, cw17, rfl⟩ := own_shape ow17
          have FC := hid ((FB.out.below BY16.out).turn (i := 1) (y := (.slice sw17 (2 * (i + 1)) cw17, 2 * (i + 1), _)) rfl ow17 fw17)
          have BD17 : Hid (Below wD.heap.size wD w17) := fw17.below BDY16.out BDY16.out.size (fun g hg => (ShfKit.own_block ((FB.out.below BY16.out).own 1 (.slice sw (2 * i) cw, 2 * i, (inter vsk vsk i).map Prod.fst) rfl) hg).1)
          clear ow17 fw17 RY16
          clear hHeld
          refine hK.out _ _ (KD2.out _ BD17.out) (fun hHeld => ?_)
          clear hK K
          try simp only [Act.put, List.setIfInBounds_toArray, List.set_cons_zero, List.set_cons_succ]
          refine wpAnyH_take (i := 11) (v := ?_) (by simp only [List.getElem?_toArray, List.getElem?_cons_succ, List.getElem?_cons_zero]; rfl) (by kernel_rfl) (by kernel_rfl) (by kernel_rfl) (fun _ _ _ h => h) (Or.inl ⟨by rfl, ?_⟩) (by assumption) ?_
          rotate_left 1
          · intro w hSw; (try dsimp only at hSw); go_simp; (try with_reducible rfl)
          try simp only [Act.put, List.setIfInBounds_toArray, List.set_cons_zero, List.set_cons_succ]
          refine wpAnyH_done (by kernel_rfl) ?_ _
          refine NoPanic.normal ?_
          have FD : Hid (Fam w17 wD.heap.size 29 1 [(.slice sw15 (2 * (i + 1)) cw15, 2 * (i + 1), (inter vsl vsm (i + 1)).map Prod.fst), (.slice sw17 (2 * (i + 1)) cw17, 2 * (i + 1), (inter vsk vsk (i + 1)).map Prod.fst)]) := by
            rw [HQ1.out, HQ2.out]
            exact FC.out
          go_wp2
          go_roundg (vsl.length - (i + 1))
          case measure => omega
          case rel => exact ⟨i + 1, _, _, _, _, hl1, by omega, rfl, by go_num, rfl, rfl, fun h => absurd h (Nat.succ_ne_zero i), FD.out, BD17.out⟩
        · obtain ⟨wE, hwE⟩ : ∃ wE, wE = wr := ⟨_, rfl⟩
          subst hwE
          have BGE : Hid (Below wG.heap.size wG wE) := BGD.out.trans (BD.out.mono BGD.out.size)
          have B4E : Hid (Below w4.heap.size w4 wE) := B4D.out.trans (BD.out.mono B4D.out.size)
          have B3E : Hid (Below w3.heap.size w3 wE) := B3D.out.trans (BD.out.mono B3D.out.size)
          have AL : Hid (Calls Tryd.prog 33 #[.slice sa (2 * i) ca, .slice sw (2 * i) cw] wE fun e w' => e = .returned (.bool true) ∧ Below wG.heap.size wE w' ∧ ∀ g, w3.heap.size ≤ g → g < wE.heap.size → w'.heap[g]? = wE.heap[g]?) := by
            show Calls _ _ _ _ _
            by_cases h0 : i = 0
            · obtain ⟨e1, e2, e3, e4⟩ := NIL.out h0
              rw [e1, e2, e3, e4, h0]
              refine (alone_none wE).mono ?_
              rintro e w' ⟨rfl, rfl⟩
              exact ⟨rfl, Below.refl _ _, fun _ _ _ => rfl⟩
            · have oA : wE.ownsRow wD.heap.size 29 1 (.slice sa (2 * i) ca) (2 * i) ((inter vsl vsm i).map Prod.fst) := FA.out.own 0 (.slice sa (2 * i) ca, 2 * i, (inter vsl vsm i).map Prod.fst) rfl
              have oW : wE.ownsRow wD.heap.size 29 1 (.slice sw (2 * i) cw) (2 * i) ((inter vsk vsk i).map Prod.fst) := FA.out.own 1 (.slice sw (2 * i) cw, 2 * i, (inter vsk vsk i).map Prod.fst) rfl
              obtain ⟨gA, cA, hvA, _, hgA, _⟩ := own_some oA (by omega)
              obtain ⟨gW, cW, hvW, _, hgW, _⟩ := own_some oW (by omega)
              simp only [Value.slice.injEq, true_and] at hvA hvW
              obtain ⟨rfl, rfl⟩ := hvA
              obtain ⟨rfl, rfl⟩ := hvW
              have hhi : ∀ y ∈ vsl ++ vsm, ∀ b, y.1.ownBlock = some b → b < w3.heap.size := fun y hy b hb => by
                rcases List.mem_append.1 hy with h | h
                · have := (OL.out.blk (.inr ⟨y, h, hb⟩)).2; have := B23.out.size; omega
                · exact (OM.out.blk (.inr ⟨y, h, hb⟩)).2
              have AS := as_runs (W := wE) (lo := wG.heap.size) (hi := w3.heap.size) (l := vsl) (m := vsm) (k := vsk) (i := i) (by rw [List.map_append]; exact (fam_join OL.out.fam B23.out OM.out.fam BG2.out.size).below B3E.out) hhi (own_at oA) (fun b o sp e => by cases e; have := B3D.out.size; omega) (own_at oW) (fun b o sp e => by cases e; have := B3D.out.size; omega) (fun y hy => by
                obtain ⟨s, c, e, hc, _, _, hb⟩ := own_cells ((LK.out.below B4E.out).each y hy)
                exact ⟨s, c, e, hc, hb⟩) EK.out (EM.out.symm.trans EK.out) (by rw [NK.out]; exact hi)
              refine (alone_kept (2 * i) ca cw wG.heap.size gA 0 gW 0 _ _ wE AS BGE.out.size (by omega) (fun x hx => FEW.out.2 x.2 (by
                rw [EK.out]
                exact List.mem_map.2 ⟨x, by rcases inter_mem hx with h | h <;> exact h, rfl⟩))).mono ?_
              rintro e w' ⟨rfl, hb, hk⟩
              refine ⟨rfl, hb, fun g h1 h2 => hk g h2 fun x hx hin => ?_⟩
              obtain ⟨y, hy, rfl⟩ := List.mem_map.1 hx
              have h3 : y.1.ownBlock = some g := by rcases hin with h | h <;> exact h
              have := hhi y (by rcases inter_mem hy with h | h <;> simp [h]) g h3
              omega
          clear NIL FA
          obtain ⟨c2, hc2⟩ : ∃ c2 : Net, c2 = { c with gates := c.gates.map turnO } := ⟨_, rfl⟩
          have L2 : Hid (c2.gates.length = c.gates.length ∧ c2.outs.length = c.outs.length ∧ c2.name = c.name) := by rw [hc2]; exact ⟨by simp, rfl, rfl⟩
          have N2 : Hid (∀ g ∈ c2.gates, g.name.size ≤ 140737488351232) := by
            rw [hc2]
            intro g hg
            obtain ⟨g1, hg1, rfl⟩ := List.mem_map.1 hg
            have : (turnO g1).name = g1.name := by unfold turnO; split <;> rfl
            rw [this]
            exact LIM.out.2.1 g1 hg1
          have TU : Hid (∀ W, Below wG.heap.size wG W → Calls Tryd.prog 29 #[cirV c (some ⟨gg, 0, none⟩) kg (some ⟨go, 0, none⟩) ko] W fun e w' => ∃ sg3 kg3 so3 ko3, e = .returned (.agg #[.string c.name, .slice sg3 c.gates.length kg3, .slice so3 c.outs.length ko3]) ∧ TwinAt w' x0.heap.size c2 gg kg go ko ∧ CirAt w' c2 sg3 so3 ∧ W.grownBy w' (some gg) ∧ (∀ b o sp, sg3 = some ⟨b, o, sp⟩ → W.heap.size ≤ b) ∧ (∀ b o sp, so3 = some ⟨b, o, sp⟩ → W.heap.size ≤ b)) := fun W hW => by
            refine (turned_any c x0.heap.size gg kg go ko W (TWA.out W (BWG.out W hW).1) LIM.out.2.2.1 LIM.out.2.2.2).mono ?_
            rintro e w' ⟨sg3, kg3, so3, ko3, rfl, h1, h2, h3, h4, h5⟩
            rw [← hc2] at h1 h2
            refine ⟨sg3, kg3, so3, ko3, ?_, h1, h2, h3, h4, h5⟩
            simp [cirV]
          have TBK : Hid ((x0.heap.size ≤ gg ∧ gg < w1.heap.size) ∧ x0.heap.size ≤ go ∧ go < w1.heap.size) := TW1.out.blocks
          have hx : ¬ i < vsl.length ∨ (i < vsl.length ∧ ¬ i < 200) := by omega
          clear hc2 hlt
          rcases hx with hx | ⟨hx, hx2⟩
          all_goals (
            go_wp2_with (first
              | (have q := HX12; clear q; rw [← HX12.out]; clear HX12)
              | (have q := BG11; clear q; go_at_call 29; refine Calls.mono (TU.out w11 BG11.out) ?_; rintro e w12 ⟨sg3, kg3, so3, ko3, rfl, tw12, ci12, g12, hbg, hbo⟩; obtain ⟨x12, hx12⟩ : ∃ x, x = w12.alloc (Obj.cells (#[Value.string c.name, Value.slice sg3 c.gates.length kg3, Value.slice so3 c.outs.length ko3] : Array Value) 26) := ⟨_, rfl⟩; have HX12 := hid hx12; have R12 : Hid (x12.heap[w12.heap.size]? = some (.cells (#[Value.string c.name, Value.slice sg3 c.gates.length kg3, Value.slice so3 c.outs.length ko3] : Array Value) 26 (0, 0))) := (by rw [hx12]; exact heap_alloc_new w12 _); have BX12 : Hid (Below w12.heap.size w12 x12) := (by rw [hx12]; exact (Below.refl _ _).alloc (Nat.le_refl _) _); have T12 := hid tw12; have C12 := hid ci12; have G12 := hid g12; have HB3 := hid (And.intro hbg hbo); clear hx12 tw12 ci12 g12 hbg hbo)
              | (have q := LT; clear q; go_at_call 18; refine Calls.mono LT.out ?_; rintro e w11 ⟨rfl, b11⟩; have BG11 : Hid (Below wG.heap.size wG w11) := BG10.out.trans (b11.mono BG10.out.size); obtain ⟨a11, e11, hs11, ht11⟩ := EG.out w11 BG11.out; clear b11)
              | (have q := KO9; clear q; go_at_call 13; refine Calls.mono (RN.out w9 BG9.out) ?_; rintro e w10 ⟨⟨lv2, vs2, r2, hR2, rfl, ol2⟩, b10⟩; obtain ⟨ho2, rfl⟩ := HR.out.one hR2; have n2 : vs2.length = vsl.length := (by simpa using (congrArg List.length ho2).symm); obtain ⟨sl2, cl2, hlv2⟩ := own_shape ol2.row; rw [n2] at hlv2; subst hlv2; have BG10 : Hid (Below wG.heap.size wG w10) := BG9.out.trans (b10.mono BG9.out.size); have LT : Hid (Calls Tryd.prog 18 #[.slice sl2 vsl.length cl2, .slice sk vsl.length ck] w10 fun e w' => e = .returned (.bool true) ∧ Below w10.heap.size w10 w') := (by
                      have h := lists_true (vsl.map Prod.snd) sl2 sk cl2 ck w10 (by rw [ho2]; exact ol2.lists) (by rw [EK.out]; exact (KO9.out.below b10).lists) (by rw [List.length_map]; have := FEW.out.1; omega) (fun l hl => by have := FEW.out.2 l hl; omega)
                      rw [List.length_map] at h
                      exact h); clear hR2 ho2 n2 ol2 b10)
              | (go_at_call 33; refine Calls.mono AL.out ?_; rintro e w9 ⟨rfl, b9, k9⟩; have BG9 : Hid (Below wG.heap.size wG w9) := BGE.out.trans b9; have KO9 : Hid (KOut w9 w3.heap.size (.slice sk vsl.length ck) vsk) := (LK.out.below B4E.out).kept (fun g h1 h2 => k9 g h1 h2); obtain ⟨a9, e9, hs9, ht9⟩ := EG.out w9 BG9.out; clear b9 k9))
            clear a9 e9 hs9 ht9 a11 e11 hs11 ht11 LT KO9 BG10 AL TU RN OL OM LK EM EK NM NK LSK BG9 B23 B34 BG2 BG3 BG4 B24 B4D B2D B3D BGD BGE B4E B3E BD FEW HR RS hx
            have NUM : Hid (w.heap.size + 1 = x0.heap.size ∧ x0.heap.size ≤ gg ∧ gg < w1.heap.size ∧ x0.heap.size ≤ go ∧ go < w1.heap.size ∧ x1.heap.size = w1.heap.size + 1 ∧ x1.heap.size ≤ wG.heap.size ∧ wG.heap.size ≤ w11.heap.size ∧ w11.heap.size ≤ w12.heap.size ∧ w12.heap.size < x12.heap.size) := ⟨S0.out.symm, TBK.out.1.1, TBK.out.1.2, TBK.out.2.1, TBK.out.2.2, S1.out, BR.out.size, BG11.out.size, G12.out.size, (Array.getElem?_eq_some_iff.1 R12.out).1⟩
            have BW12 : Hid (Below w.heap.size w x12) := by
              have hz := NUM.out
              have h1 := (BWG.out w11 BG11.out).2
              have h2 := h1.grown G12.out h1.size (fun k e => by cases e; omega)
              exact h2.trans (BX12.out.mono h2.size)
            have GO : Hid (RunOut x12 x1.heap.size (.slice gs is.length gc) vs) := by
              have hz := NUM.out
              have h1 := RO.out.below BG11.out
              have h2 : RunOut w12 x1.heap.size (.slice gs is.length gc) vs := h1.kept fun g hg => G12.out.block g (h1.blk hg).2 (fun e => by have := (h1.blk hg).1; have := Option.some.inj e; omega)
              exact h2.below BX12.out
            have GB : Hid (∀ g, ((Value.slice gs is.length gc).ownBlock = some g ∨ ∃ y ∈ vs, y.1.ownBlock = some g) → g < wG.heap.size) := fun g hg => (RO.out.blk hg).2
            have GB2 : Hid (∀ v ∈ vs.map Prod.fst, ∀ g, v.ownBlock = some g → g < wG.heap.size) := fun v hv g e => by
              obtain ⟨y, hy, rfl⟩ := List.mem_map.1 hv
              exact GB.out g (.inr ⟨y, hy, e⟩)
            have LOHI : Hid (wG.heap.size ≤ x12.heap.size ∧ x1.heap.size ≤ x12.heap.size ∧ w.heap.size ≤ x1.heap.size) := by
              have hz := NUM.out
              exact ⟨by omega, by omega, by omega⟩
            have FL0 : Hid (Fl x12 x12 x1.heap.size wG.heap.size (.slice gs is.length gc) (.slice none 0 0) is 0 0 vs vs []) := ⟨GO.out, rfl, by rw [GV.out]; simp, RunOut.nil _ _, by simp, rfl, fun _ _ _ => rfl, Below.refl _ _⟩
            go_loopg [18, 19] is.length (fun k ov iv W => ∃ (j : Nat) (s2 : Option Addr) (k2 : Nat), j ≤ is.length ∧ k = is.length - j ∧ iv = .int .i64 (j : Int) ∧ ov = .slice s2 j k2 ∧ Hid (∃ vt ws, Fl x12 W x1.heap.size wG.heap.size (.slice gs is.length gc) (.slice s2 j k2) is j j vs vt ws))
            case atStart => exact ⟨0, none, 0, Nat.zero_le _, rfl, rfl, rfl, vs, [], FL0.out⟩
            case round =>
              obtain ⟨j, s2, k2, hj, hgk, rfl, rfl, HR3⟩ := hrel
              subst hgk
              obtain ⟨vt, ws, hfl⟩ := HR3.out
              have F3 := hid hfl
              clear HR3 hfl FL0 GO
              have BW3 : Hid (Below w.heap.size w wr) := BW12.out.trans (F3.out.bel.mono LOHI.out.2.2)
              by_cases hjl : j < is.length
              · obtain ⟨l, hl⟩ : ∃ l, is[j]? = some l := ⟨_, List.getElem?_eq_getElem hjl⟩
                have hlb : l.length ≤ 1099511627776 := LL.out l (List.mem_of_getElem? hl)
                obtain ⟨y, hy, hyl⟩ : ∃ y, vt[j]? = some y ∧ y.2 = l := by
                  have h1 : (vt.map Prod.snd)[j]? = some l := by rw [F3.out.snd_]; exact turn_at (List.map not) is j l hl
                  rw [List.getElem?_map, Option.map_eq_some_iff] at h1
                  exact h1
                obtain ⟨v, l'⟩ := y
                have hyl : l' = l := hyl
                subst hyl
                have how : wr.ownsRow x1.heap.size 4 1 v l'.length (bo l') := F3.out.giv.fam.own j (rwOf (v, l')) (by rw [List.getElem?_map, hy]; rfl)
                obtain ⟨s1, c1, h1⟩ := own_shape how
                subst h1
                obtain ⟨g6, c6, hv6, _, hg6, k6, _⟩ := own_cell F3.out.giv.row (j := j) (x := .slice s1 l'.length c1) (by rw [List.getElem?_map, hy]; rfl)
                simp only [Value.slice.injEq] at hv6
                obtain ⟨rfl, z6, rfl⟩ := hv6
                clear z6
                obtain ⟨gi, oi, sb, cb, rfl, hgi, p0, hcl, hnl⟩ := (AW.out w (Below.refl _ _)).at_ j l' hl
                have FP := hid (flip_any l' s1 c1 x1.heap.size wr how (by omega))
                have NX : Hid (∀ wA, wA.ownsRow x1.heap.size 4 1 (.slice s1 l'.length c1) l'.length (bo (l'.map not)) → wr.grownBy wA (Value.slice s1 l'.length c1).ownBlock → Fl x12 wA x1.heap.size wG.heap.size _ _ is (j + 1) j vs _ ws) := fun wA h1 h2 => F3.out.flip LOHI.out.1 LOHI.out.2.1 GB2.out hy hl h1 h2
                have KI : Hid (∀ W, Below w.heap.size w W → W.cell? ⟨gi, oi + j, none⟩ = some (.slice sb l'.length cb) ∧ gi < W.heap.size) := fun W hW => ⟨below_cell hW hgi p0, Nat.lt_of_lt_of_le hgi hW.size⟩
                have FLC : Hid (∀ W, Below w.heap.size w W → Calls Tryd.prog 35 #[.slice sb l'.length cb] W fun e w' => ∃ v, e = .returned v ∧ Mk W w' 4 1 v l'.length (bo (l'.map not))) := fun W hW => flipped_any l' sb cb W (hcl.below hW) (by omega)
                have HL := hid hl
                clear hl hy how hcl hnl p0 hgi
                go_wp2_with (first
                  | (have q := M35; clear q; at_builtin; refine wpl_one rfl _ _ 23 rfl x12.heap.size 29 _ 1 24 Tryd.underlying23 info29 rfl (by decide) (.slice s2 j k2) j _ rfl OWB.out [.slice s5 l'.length c5] 29 _ rfl rfl rfl (fun u hu => by simp at hu; subst hu; rfl) (by omega) (by omega) SZB.out ?_; intro v8 w8 o8 f8; obtain ⟨sy, cy, rfl⟩ := own_shape o8; have O8 := hid o8; have F8 := hid f8; clear o8 f8)
                  | (have q := FA3; clear q; go_at_call 35; refine Calls.mono (FLC.out wA BWA.out) ?_; rintro e wB ⟨v5, rfl, hm5⟩; obtain ⟨s5, c5, rfl⟩ := own_shape hm5.own; have M35 := hid hm5; have OWB : Hid (wB.ownsRow x12.heap.size 29 1 (.slice s2 j k2) j (ws.map Prod.fst)) := (by have h := ownsRow_below FA3.out.oth.row hm5.below; rw [FA3.out.olen] at h; exact h); have SZB : Hid (x12.heap.size ≤ wB.heap.size) := Nat.le_trans FA3.out.bel.size hm5.below.size; clear hm5)
                  | (go_at_call 34; refine Calls.mono FP.out ?_; rintro e wA ⟨⟨u2, rfl⟩, ho2, hg2⟩; have FA3 := hid (NX.out wA ho2 hg2); have BWA : Hid (Below w.heap.size w wA) := BW12.out.trans (FA3.out.bel.mono LOHI.out.2.2); obtain ⟨kiA, hsA⟩ := KI.out wA BWA.out; clear ho2 hg2))
                have N8 := hid (FA3.out.push LOHI.out.1 LOHI.out.2.1 GB.out HL.out M35.out.below M35.out.own ((Below.refl wB.heap.size wB).alloc (Nat.le_refl _) (.cells #[.slice s5 l'.length c5] 29)) O8.out F8.out)
                go_roundg (is.length - (j + 1))
                case measure => omega
                case rel => exact ⟨j + 1, _, _, hjl, rfl, by go_num, rfl, _, _, N8.out⟩
              · have hjn : j = is.length := by omega
                subst hjn
                obtain ⟨wH, hwH⟩ : ∃ wH, wH = wr := ⟨_, rfl⟩
                subst hwH
                have IN : Hid (ListsAt wH gs (is.map (List.map not))) := by
                  have h := F3.out.giv.lists
                  rw [F3.out.snd_, List.take_length, List.drop_length, List.append_nil] at h
                  exact h
                have IOx : Hid (ListsAt wH s2 (is.map (List.map not))) := by
                  have h := F3.out.oth.lists
                  rw [F3.out.osnd, List.take_length] at h
                  exact h
                have lm : (is.map (List.map not)).length = is.length := by simp
                have TWH : Hid (TwinAt wH x0.heap.size c2 gg kg go ko) := by
                  have h := T12.out.below BX12.out
                  have hz := NUM.out
                  have hb := h.blocks
                  exact ⟨ShfKit.own_kept h.gates fun g hg => F3.out.kp g (ShfKit.own_block h.gates hg).2 (.inl (by simp [Value.ownBlock] at hg; omega)), ShfKit.own_kept h.outs fun g hg => F3.out.kp g (ShfKit.own_block h.outs hg).2 (.inl (by simp [Value.ownBlock] at hg; omega))⟩
                have CIH : Hid (CirAt wH c2 sg3 so3) := by
                  have h := C12.out.below BX12.out
                  have hz := NUM.out
                  exact ⟨cells_kept h.gates F3.out.bel.size (fun b o sp e hb => F3.out.kp b hb (.inr (by have := HB3.out.1 b o sp e; omega))), cells_kept h.outs F3.out.bel.size (fun b o sp e hb => F3.out.kp b hb (.inr (by have := HB3.out.2 b o sp e; omega)))⟩
                have R7 : Hid (wH.heap[w1.heap.size]? = some (.cells (#[Value.string c.name, Value.slice (some ⟨gg, 0, none⟩) c.gates.length kg, Value.slice (some ⟨go, 0, none⟩) c.outs.length ko] : Array Value) 26 (0, 0))) := by
                  have hz := NUM.out
                  have h1 := ((BWG.out w11 BG11.out).1.block _ (Array.getElem?_eq_some_iff.1 R1.out).1).trans R1.out
                  have h2 := (G12.out.block _ (Array.getElem?_eq_some_iff.1 h1).1 (fun e => by have := Option.some.inj e; omega)).trans h1
                  have h3 := (BX12.out.block _ (Array.getElem?_eq_some_iff.1 h2).1).trans h2
                  exact (F3.out.kp _ (Array.getElem?_eq_some_iff.1 h3).1 (.inl (by omega))).trans h3
                have R8 : Hid (wH.heap[w12.heap.size]? = some (.cells (#[Value.string c.name, Value.slice sg3 c.gates.length kg3, Value.slice so3 c.outs.length ko3] : Array Value) 26 (0, 0))) := (F3.out.kp _ (Array.getElem?_eq_some_iff.1 R12.out).1 (.inr (by have hz := NUM.out; omega))).trans R12.out
                have E9 : Hid (∀ W, Below wH.heap.size wH W → (∀ j, W.cell? ⟨w1.heap.size, j, none⟩ = (#[Value.string c.name, Value.slice (some ⟨gg, 0, none⟩) c.gates.length kg, Value.slice (some ⟨go, 0, none⟩) c.outs.length ko] : Array Value)[j]?) ∧ (∀ j, W.cell? ⟨w12.heap.size, j, none⟩ = (#[Value.string c.name, Value.slice sg3 c.gates.length kg3, Value.slice so3 c.outs.length ko3] : Array Value)[j]?) ∧ w1.heap.size < W.heap.size ∧ w12.heap.size < W.heap.size) := fun W hW => by
                  have h1 := (hW.block _ (Array.getElem?_eq_some_iff.1 R7.out).1).trans R7.out
                  have h2 := (hW.block _ (Array.getElem?_eq_some_iff.1 R8.out).1).trans R8.out
                  exact ⟨fun j => cell_row h1 j, fun j => cell_row h2 j, (Array.getElem?_eq_some_iff.1 h1).1, (Array.getElem?_eq_some_iff.1 h2).1⟩
                have SPH : Hid (Calls Tryd.prog 13 #[.agg #[.string c.name, .slice (some ⟨gg, 0, none⟩) c.gates.length kg, .slice (some ⟨go, 0, none⟩) c.outs.length ko], .slice gs is.length gc] wH fun e w' => RunSays c2 (is.map (List.map not)) wH.heap.size e w' ∧ Below wH.heap.size wH w') := RT.out c2 wH _ gg kg go ko gs gc (is.map (List.map not)) L2.out.1 L2.out.2.1 L2.out.2.2 N2.out TWH.out BW3.out IN.out lm
                have RSH : Hid (∀ W, Below wH.heap.size wH W → Calls Tryd.prog 36 #[.agg #[.string c.name, .slice sg3 c.gates.length kg3, .slice so3 c.outs.length ko3], .slice s2 is.length k2] W fun e w' => RRunSays c2 (is.map (List.map not)) W e w' ∧ Below W.heap.size W w') := fun W hW => by
                  have h := rrun_gen c2 sg3 so3 kg3 ko3 (is.map (List.map not)) s2 k2 W (CIH.out.below hW) (by rw [L2.out.2.2]; exact LIM.out.1) N2.out (by rw [L2.out.1]; exact LIM.out.2.2.1) (by rw [L2.out.2.1]; exact LIM.out.2.2.2) (IOx.out.below hW) (by rw [lm]; omega)
                  rw [cirV, L2.out.1, L2.out.2.1, L2.out.2.2, lm] at h
                  exact h
                obtain ⟨eH, fH, hsH, htH⟩ := E9.out wH (Below.refl _ _)
                clear hjl hj F3 NUM BW12 GB GB2 LOHI IN IOx lm TWH CIH R7 R8 T12 C12 G12 HB3 R12 BX12 BG11 RT EG BWG TWA CE BW RO VS GV BR TW1 B1 B11 AW L2 N2 TBK
                go_wp2_with (first
                  | (have q := LTF; clear q; go_at_call 18; refine Calls.mono LTF.out ?_; rintro e w15 ⟨rfl, b15⟩; have B1415 := hid b15; clear b15)
                  | (have q := OLF; clear q; go_at_call 36; refine Calls.mono (RSH.out w13 BH13.out) ?_; rintro e w14 ⟨⟨kv, vsq, r4, hR4, rfl, lsq⟩, b14⟩; obtain ⟨hosq, rfl⟩ := HRF.out.one hR4; have nq : vsq.length = vsp.length := (by simpa using (congrArg List.length hosq).symm); obtain ⟨sq, cq, hqv⟩ := own_shape lsq.row.own; rw [nq] at hqv; subst hqv; have BH14 : Hid (Below wH.heap.size wH w14) := BH13.out.trans (b14.mono BH13.out.size); have LTF : Hid (Calls Tryd.prog 18 #[.slice sp vsp.length cp, .slice sq vsp.length cq] w14 fun e w' => e = .returned (.bool true) ∧ Below w14.heap.size w14 w') := (by
                          have hfw := HRF.out.few
                          rw [List.length_map] at hfw
                          have h := lists_true (vsp.map Prod.snd) sp sq cp cq w14 ((OLF.out.below b14).lists) (by rw [hosq]; exact lsq.lists) (by rw [List.length_map]; have := hfw.1; simp at this; omega) (fun l hl => by have := hfw.2 l hl; omega)
                          rw [List.length_map] at h
                          exact h); clear hR4 hosq nq lsq b14)
                  | (go_at_call 13; refine Calls.mono SPH.out ?_; rintro e w13 ⟨⟨pv, vsp, rp, hRp, rfl, olp⟩, b13⟩; have HRF := hid hRp; obtain ⟨sp, cp, hpv⟩ := own_shape olp.row; subst hpv; have OLF := hid olp; have BH13 : Hid (Below wH.heap.size wH w13) := b13; obtain ⟨e13, f13, hs13, ht13⟩ := E9.out w13 BH13.out; clear hRp olp b13))
                go_ret
                refine ⟨rfl, ?_⟩
                have h1 := BW3.out.trans (BH14.out.mono BW3.out.size)
                exact h1.trans (B1415.out.mono h1.size))
end Go.Proofs.YtfmmmhcpdinhgaaDoor
