import Derived.Test.YtcpncfngadablaaGreatDoorZ17
/-
  The document's disk: State.
-/
namespace Go.Proofs.YtcpncfngadablaaGreatDoor
open Go.RowKit Go.Deep ShfKit
set_option maxRecDepth 100000
theorem own_shows {W : World} {base B : Nat} {v : Value} {bl : List UInt8} (ho : W.ownsRow base 5 1 v B (Lib.byteCells bl)) (hl : bl.length = B) (hB : 0 < B) : ∃ g c, v = .slice (some ⟨g, 0, none⟩) B c ∧ base ≤ g ∧ (∃ cs fz, W.heap[g]? = some (Obj.cells cs 5 fz)) ∧ Shows W (some ⟨g, 0, none⟩) B c bl := by
  obtain ⟨g, c, hv, hg, hc⟩ := own_at ho (by rw [Lib.byteCells_length]; omega)
  refine ⟨g, c, hv, (own_block ho (by rw [hv]; rfl)).1, Lib.ownsRow_kind ho g (by rw [hv]; rfl), ⟨hl, ?_, fun _ => ⟨_, rfl, hg, fun j u hu => ?_⟩, fun e => by cases e⟩⟩
  · subst hv
    exact own_cap ho
  · rw [add_zero_addr]
    exact hc j u hu
theorem NewB.fr {w W : World} {B : Nat} {v : Value} {vs : List Value} {blocks : List (List UInt8)} (h : NewB w W B v vs blocks) (hl : ∀ b ∈ blocks, b.length = B) (hB : 0 < B) : BlocksFr W w.heap.size v blocks := by
  refine ⟨sh_slice h.own, fun i hi => ?_⟩
  have hvl := h.vlen
  obtain ⟨x, hx⟩ : ∃ x, vs[i]? = some x := ⟨_, List.getElem?_eq_getElem (by omega)⟩
  obtain ⟨G, gc, hG, hb, _, hcell, _⟩ := own_cell h.own hx
  have hz : ((vs.zip blocks).map fun x => ((x.1, B, Lib.byteCells x.2) : Rw))[i]? = some (x, B, Lib.byteCells blocks[i]) := by
    have hz0 : (vs.zip blocks)[i]? = some (x, blocks[i]) := List.getElem?_zip_eq_some.2 ⟨hx, List.getElem?_eq_getElem hi⟩
    rw [List.getElem?_map, hz0]
    rfl
  have hz1 : W.ownsRow w.heap.size 5 1 x B (Lib.byteCells blocks[i]) := h.fam.own i _ hz
  obtain ⟨g, c, hv, hgb, hkind, hsh⟩ := own_shows hz1 (hl _ (List.getElem_mem hi)) hB
  subst hv
  exact ⟨G, gc, ⟨g, 0, none⟩, B, c, hG, hb, hgb, Lib.ownsRow_kind h.own G (by rw [hG]; rfl), hkind, hcell, hsh⟩
theorem RefAt.blocksSh {w : World} {R : RefD} (h : RefAt w R) {k : Nat} {e : RFile} (he : R.fs[k]? = some e) (hB : 0 < R.B) : BlocksSh w e.sv e.file.blocks ∧ ∀ b ∈ e.file.blocks, b.length = R.B := by
  refine ⟨⟨sh_slice (h.f31.own k _ (by rw [List.getElem?_map, he]; rfl) : w.ownsRow 0 31 1 e.sv e.file.blocks.length e.vs), fun i hi => ?_⟩, fun b hb => ?_⟩
  · obtain ⟨v, hv, ho, hlen, G, c, hs, hcell, _⟩ := h.block he (List.getElem?_eq_getElem hi)
    obtain ⟨g, c2, hv2, _, _, hsh⟩ := own_shows ho hlen hB
    subst hv2
    exact ⟨G, c, _, _, _, hs, hcell, hsh⟩
  · obtain ⟨i, hi, rfl⟩ := List.getElem_of_mem hb
    obtain ⟨v, hv, ho, hlen, _⟩ := h.block he (List.getElem?_eq_getElem hi)
    exact hlen
structure RSt (w1 W : World) (sb k : Nat) (R : RefD) (fv : Value) (l : List SFile) : Prop where
  touch : Touch [sb] w1 W
  box : W.heap[sb]? = some (.cells #[.int .i64 R.B, fv] 47 (0, 0))
  st : StateFr W w1.heap.size fv l
  pub : l.map SFile.pub = (R.fs.take k).map RFile.pub
theorem RSt.len {w1 W : World} {sb k : Nat} {R : RefD} {fv : Value} {l : List SFile} (h : RSt w1 W sb k R fv l) (hk : k ≤ R.fs.length) : l.length = k := by
  have := congrArg List.length h.pub
  simpa [Nat.min_eq_left hk] using this
theorem RSt.next {w1 W Wa w2 w3 : World} {sb k : Nat} {R : RefD} {fv fv' v : Value} {vs : List Value} {l : List SFile} {e : RFile} {o : Obj} (h : RSt w1 W sb k R fv l) (hsb : sb < w1.heap.size) (he : R.fs[k]? = some e) (hl : ∀ b ∈ e.file.blocks, b.length = R.B) (hB : 0 < R.B) (ha : Below W.heap.size W Wa) (hn : NewB Wa w2 R.B v vs e.file.blocks)
    {n : Nat} (hln : n = l.length + 1) (ho : w3.ownsRow w1.heap.size 71 3 fv' n (l.flatMap SFile.cells ++ [encStr e.name, .bool e.file.shut, v])) (hg : (w2.alloc o).grownBy w3 fv.ownBlock) :
    w3.heap[sb]? = some (.cells #[.int .i64 R.B, fv] 47 (0, 0)) ∧ RSt w1 (w3.setCell ⟨sb, 1, none⟩ fv') sb (k + 1) R fv' (l ++ [⟨e.name, e.file, v, []⟩]) := by
  have s0 := h.touch.size
  have s1 := ha.size
  have s2 := hn.low.size
  have b2 : Below W.heap.size W w2 := ha.trans (hn.low.mono s1)
  have hfb : ∀ g, fv.ownBlock = some g → w1.heap.size ≤ g ∧ ∃ c fz, w2.heap[g]? = some (Obj.cells c 71 fz) := fun g hgg => by
    obtain ⟨h1, h2⟩ := own_block h.st.own hgg
    obtain ⟨c, fz, h3⟩ := Lib.ownsRow_kind h.st.own g hgg
    exact ⟨h1, c, fz, (b2.block g h2).trans h3⟩
  have box3 : w3.heap[sb]? = some (.cells #[.int .i64 R.B, fv] 47 (0, 0)) := by
    have h1 : (w2.alloc o).heap[sb]? = some (.cells #[.int .i64 R.B, fv] 47 (0, 0)) := (Below.heap_alloc _ _ _ (by omega)).trans ((b2.block sb (by omega)).trans h.box)
    rw [hg.block sb (by simp; omega) (fun e1 => by have := (hfb sb e1.symm).1; omega)]
    exact h1
  have kp : ∀ b c t fz, w2.heap[b]? = some (Obj.cells c t fz) → t = 31 ∨ t = 5 → b ≠ sb → (w3.setCell ⟨sb, 1, none⟩ fv').heap[b]? = w2.heap[b]? := fun b c t fz hb ht hbs => by
    have hlt := (Array.getElem?_eq_some_iff.1 hb).1
    rw [Below.heap_setCell _ _ _ _ (by simpa using hbs), hg.block b (by simp; omega) (fun e1 => by
      obtain ⟨_, c2, f2, h2⟩ := hfb b e1.symm
      rw [hb] at h2
      simp only [Option.some.injEq, Obj.cells.injEq] at h2
      rcases ht with rfl | rfl
      · exact absurd h2.2.1 (by decide)
      · exact absurd h2.2.1 (by decide)), Below.heap_alloc _ _ _ hlt]
  refine ⟨box3, ⟨?_, ?_, ⟨?_, fun x hx => ?_⟩, ?_⟩⟩
  · refine Touch.setCell ?_ (by simp) _
    refine Touch.grown ?_ hg (fun g hgg => .inr (hfb g hgg).1)
    exact Touch.alloc (h.touch.trans (Touch.of_below (F := []) b2 (Nat.le_refl _)) (by simp)) _
  · rw [heap_setCell_row box3 1]
    rfl
  · have e1 : (l ++ [(⟨e.name, e.file, v, []⟩ : SFile)]).flatMap SFile.cells = l.flatMap SFile.cells ++ [encStr e.name, .bool e.file.shut, v] := by simp [SFile.cells]
    have e2 : (l ++ [(⟨e.name, e.file, v, []⟩ : SFile)]).length = n := by simp [hln]
    rw [e1, e2]
    exact own_kept ho fun g hgg => Below.heap_setCell _ _ _ _ (by have := (own_block ho hgg).1; show g ≠ sb; omega)
  · rcases List.mem_append.1 hx with hx | hx
    · refine ((h.st.each x hx).kept fun b c t fz hb hw ht => ?_)
      have hlt := (Array.getElem?_eq_some_iff.1 hw).1
      have e3 := b2.block b hlt
      exact (kp b c t fz (e3.trans hw) ht (by omega)).trans e3
    · simp at hx
      subst hx
      refine ((hn.fr hl hB).kept (fun b c t fz hb hw ht => kp b c t fz hw ht (by omega))).mono (by omega)
  · rw [List.map_append, h.pub, List.take_add_one, he, List.map_append]
    rfl
theorem wp_file {o : Oper} {a : Act} {w : World} {K : Act → World → Prop} {Q : Exit → Act → World → Prop}
    (hg : o.guard = none) (s x : Operand) (hop : o.op = Op.call { callee := Callee.builtin Builtin.append, args := #[s, x], argTypes := #[45, 45] })
    (base : Nat) (v : Value) (n : Nat) (xs : List Value) (b : Nat) (c0 c1 c2 : Value) (hs : a.eval s = v) (hx : a.eval x = .slice (some ⟨b, 0, none⟩) 1 1) (hown : w.ownsRow base 71 3 v n xs) (hb : w.heap[b]? = some (.cells #[c0, c1, c2] 71 (0, 0))) (h0 : c0.oneCell' = true) (h1 : c1.oneCell' = true) (h2 : c2.oneCell' = true) (hn : n ≤ 1099511627776) (hbase : base ≤ w.heap.size)
    (hK : ∀ g cap w', w'.ownsRow base 71 3 (.slice (some ⟨g, 0, none⟩) (n + 1) cap) (n + 1) (xs ++ [c0, c1, c2]) → w.grownBy w' v.ownBlock → K (a.put o.dst (.slice (some ⟨g, 0, none⟩) (n + 1) cap)) w') :
    Oper.wp Tryz.prog o a w K Q := by
  have hw : Region.wanted o (yielded #[] a.tmps) = true := by simp [Region.wanted, hg]
  have := step_append_file (ops := #[]) (X := False) hg s x hop base v n xs b c0 c1 c2 hs hx hown hb h0 h1 h2 hn hbase hK (Q := Q)
  rw [if_pos hw] at this
  exact this
set_option maxHeartbeats 4000000 in
theorem rState_any {w : World} {R : RefD} (h : RefAt w R) (hn : R.fs.length ≤ 1099511627776) (hB : 0 < R.B) (hB2 : R.B ≤ 65536) (hbl : ∀ e ∈ R.fs, e.file.blocks.length ≤ 1099511627776) :
    Calls Tryz.prog 50 #[.pointer (some ⟨R.p, 0, none⟩)] w fun e w' => ∃ fv l, e = .returned (.agg #[.int .i64 (R.B : Int), fv]) ∧ StateFr w' w.heap.size fv l ∧ l.map SFile.pub = R.pub.files ∧ Below w.heap.size w w' := by
  obtain ⟨p, hp⟩ : ∃ p, p = R.p := ⟨_, rfl⟩
  obtain ⟨n, hnn⟩ : ∃ n, n = R.fs.length := ⟨_, rfl⟩
  obtain ⟨B, hBB⟩ : ∃ B, B = R.B := ⟨_, rfl⟩
  obtain ⟨fa, fc, hfv⟩ := sh_slice h.own
  have hpl : p < w.heap.size := by rw [hp]; exact lt_of_block h.row
  have p0 : w.cell? ⟨p, 0, none⟩ = some (.int .i64 (B : Int)) := by rw [hp, cell_row h.row, hBB]; rfl
  obtain ⟨W, hW⟩ : ∃ W, W = (w.alloc (.cells #[.int .i64 0, .slice none 0 0] 47)).alloc (.cells #[.int .i64 (B : Int), .slice none 0 0] 47) := ⟨_, rfl⟩
  have hW1 : W.heap[w.heap.size]? = some (.cells #[.int .i64 0, .slice none 0 0] 47) ∧ W.heap[w.heap.size + 1]? = some (.cells #[.int .i64 (B : Int), .slice none 0 0] 47) := by rw [hW]; exact heap_two w _ _
  have hTW : Touch [] w W := by rw [hW]; exact ((Touch.refl [] w).alloc _).alloc _
  have RW := h.touch hTW (by simp)
  have hnf : Hid (w.heap.size + 1 ∉ R.foot) := fun hm => by have := h.lt _ hm; omega
  have HR := hid RW
  have HE := hid hW
  have HW := hid hW1
  have HTW := hid hTW
  have HP := hid hp
  have HNN := hid hnn
  have HBB := hid hBB
  have HFV := hid hfv
  have HBL := hid hbl
  rw [← hnn] at hn
  rw [← hBB] at hB hB2
  rw [← hp, ← hBB]
  clear h hp hnn hBB hfv hW hW1 hTW RW hbl
  go_enter Tryz.func50, Tryz.ntmps50
  go_wp2_with fail
  rw [← HE.out]
  go_loopw [4] (fun iv wr => Hid (∃ (k : Nat) (fv : Value) (l : List SFile), iv = .int .i64 (k : Int) ∧ k ≤ n ∧ RSt W wr (w.heap.size + 1) k R fv l)) (fun iv _ => match iv with | .int _ i => n + 1 - i.toNat | _ => 0)
  case atStart =>
    refine ⟨0, .slice none 0 0, [], rfl, Nat.zero_le _, Touch.refl _ _, ?_, ⟨World.ownsRow_nil _ _ _ _, by simp⟩, rfl⟩
    have := HBB.out
    rw [← this]
    exact HW.out.2
  case round =>
    obtain ⟨X, hX⟩ : ∃ X, X = wr := ⟨_, rfl⟩
    rw [← hX] at hrel ⊢
    clear hX
    obtain ⟨k, fv, l, rfl, hk, hinv⟩ := hrel.out
    clear hrel
    have hsb : w.heap.size + 1 < W.heap.size := lt_of_block HW.out.2
    have RX : RefAt X R := HR.out.touch hinv.touch (fun b hb => by simp; intro e; subst e; exact hnf.out hb)
    have q0 : X.cell? ⟨p, 2, none⟩ = some (.slice fa n fc) := by
      have h2 : X.cell? ⟨R.p, 2, none⟩ = some R.fv := cell_row RX.row 2
      have e1 := HP.out
      have e2 := HFV.out
      have e3 := HNN.out
      rw [e1, h2, e2, e3]
    have hll : l.length = k := hinv.len (by have := HNN.out; omega)
    by_cases hlt : k < n
    · obtain ⟨e0, he0⟩ : ∃ e0, R.fs[k]? = some e0 := ⟨_, List.getElem?_eq_getElem (by have := HNN.out; omega)⟩
      obtain ⟨G, gc, hGv, hG, c0, c1, c2, _⟩ := RX.file he0
      have hBp : 0 < R.B := by have := HBB.out; omega
      obtain ⟨hbs, hbl⟩ := RX.blocksSh he0 hBp
      have e9 := HFV.out
      rw [e9] at hGv
      simp only [Value.slice.injEq] at hGv
      obtain ⟨hfa, _, hfc⟩ := hGv
      subst hfa
      obtain ⟨sa, sc, hsv⟩ := hbs.sl
      obtain ⟨mm, hmm⟩ : ∃ mm, mm = e0.file.blocks.length := ⟨_, rfl⟩
      obtain ⟨FB, hFB⟩ : ∃ FB, FB = X.alloc (.cells #[encStr e0.name, .bool e0.file.shut, .slice sa mm sc] 71) := ⟨_, rfl⟩
      rw [hsv, ← hmm] at c2
      have bFB : Below X.heap.size X FB := by rw [hFB]; exact (Below.refl _ _).alloc (Nat.le_refl _) _
      have HCP : Hid (∀ d, Calls Tryz.prog 61 #[.slice sa mm sc] (FB.drewN d) fun e w' => ∃ v vs, e = .returned v ∧ NewB (FB.drewN d) w' R.B v vs e0.file.blocks) := fun d => by
        have := copied_any (w := FB.drewN d) (sv := e0.sv) (B := R.B) (blocks := e0.file.blocks) ((hbs.below bFB).below ⟨rfl, rfl, rfl, Nat.le_refl _, fun _ _ => rfl⟩) hBp (by have := HBB.out; omega) hbl (HBL.out e0 (List.mem_of_getElem? he0))
        rw [hsv, ← hmm] at this
        exact this
      have cb := cell_row hinv.box 1
      simp at cb
      have lsb := lt_of_block hinv.box
      obtain ⟨va, vc, hfvs⟩ := sh_slice hinv.st.own
      have zW := hinv.touch.size
      have rowFB : FB.heap[X.heap.size]? = some (.cells #[encStr e0.name, .bool e0.file.shut, .slice sa mm sc] 71) := by rw [hFB]; exact heap_alloc_new _ _
      have zFB : FB.heap.size = X.heap.size + 1 := by rw [hFB]; simp
      have UP : Hid (∀ d v vs w2, NewB (FB.drewN d) w2 R.B v vs e0.file.blocks → (w2.cell? ⟨w.heap.size + 1, 1, none⟩ = some fv ∧ w2.frozen? ⟨w.heap.size + 1, 1, none⟩ = false ∧ (w2.cell? ⟨X.heap.size, 0, none⟩ = some (encStr e0.name) ∧ w2.cell? ⟨X.heap.size, 1, none⟩ = some (.bool e0.file.shut) ∧ w2.cell? ⟨X.heap.size, 2, none⟩ = some (.slice sa mm sc)) ∧ w.heap.size + 1 < w2.heap.size ∧ X.heap.size < w2.heap.size) ∧ (∃ ga gn gcc, v = .slice ga gn gcc) ∧ (∀ o, (w2.alloc o).ownsRow W.heap.size 71 3 fv k (l.flatMap SFile.cells)) ∧ (∀ o, W.heap.size ≤ (w2.alloc o).heap.size) ∧
          (∀ o fv' n' w3, n' = k + 1 → w3.ownsRow W.heap.size 71 3 fv' n' (l.flatMap SFile.cells ++ [encStr e0.name, .bool e0.file.shut, v]) → (w2.alloc o).grownBy w3 fv.ownBlock → w3.heap[w.heap.size + 1]? = some (.cells #[.int .i64 R.B, fv] 47 (0, 0)) ∧ RSt W (w3.setCell ⟨w.heap.size + 1, 1, none⟩ fv') (w.heap.size + 1) (k + 1) R fv' (l ++ [⟨e0.name, e0.file, v, []⟩])) ∧ (∀ o, ((w2.alloc o).cell? ⟨X.heap.size, 0, none⟩ = some (encStr e0.name) ∧ (w2.alloc o).cell? ⟨X.heap.size, 1, none⟩ = some (.bool e0.file.shut) ∧ (w2.alloc o).cell? ⟨X.heap.size, 2, none⟩ = some (.slice sa mm sc)) ∧ (∀ w3, (w2.alloc o).grownBy w3 fv.ownBlock → w3.cell? ⟨X.heap.size, 0, none⟩ = some (encStr e0.name) ∧ w3.cell? ⟨X.heap.size, 1, none⟩ = some (.bool e0.file.shut) ∧ w3.cell? ⟨X.heap.size, 2, none⟩ = some (.slice sa mm sc)) ∧ ∀ w3 u, (w2.alloc o).grownBy w3 fv.ownBlock → (w3.setCell ⟨w.heap.size + 1, 1, none⟩ u).cell? ⟨X.heap.size, 0, none⟩ = some (encStr e0.name) ∧ (w3.setCell ⟨w.heap.size + 1, 1, none⟩ u).cell? ⟨X.heap.size, 1, none⟩ = some (.bool e0.file.shut) ∧ (w3.setCell ⟨w.heap.size + 1, 1, none⟩ u).cell? ⟨X.heap.size, 2, none⟩ = some (.slice sa mm sc))) := fun d v vs w2 hnb => by
        have bd : Below FB.heap.size FB (FB.drewN d) := ⟨rfl, rfl, rfl, Nat.le_refl _, fun _ _ => rfl⟩
        have b2 : Below X.heap.size X w2 := bFB.trans ((bd.trans hnb.low).mono (by omega))
        have bx := (b2.block _ lsb).trans hinv.box
        have fx := (hnb.low.block X.heap.size (by show X.heap.size < FB.heap.size; omega)).trans rowFB
        obtain ⟨ga, gcc, hv⟩ := sh_slice hnb.own
        have ow : ∀ o, (w2.alloc o).ownsRow W.heap.size 71 3 fv k (l.flatMap SFile.cells) := fun o => by
          have h1 := hinv.st.own
          rw [hll] at h1
          exact own_kept h1 fun g hg => (Below.heap_alloc _ _ _ (by have := (own_block h1 hg).2; have := b2.size; omega)).trans (b2.block g (own_block h1 hg).2)
        have cc : ∀ V : World, V.heap[X.heap.size]? = some (.cells #[encStr e0.name, .bool e0.file.shut, .slice sa mm sc] 71) → V.cell? ⟨X.heap.size, 0, none⟩ = some (encStr e0.name) ∧ V.cell? ⟨X.heap.size, 1, none⟩ = some (.bool e0.file.shut) ∧ V.cell? ⟨X.heap.size, 2, none⟩ = some (.slice sa mm sc) := fun V hV => ⟨cell_row hV 0, cell_row hV 1, cell_row hV 2⟩
        have fa2 : ∀ o, (w2.alloc o).heap[X.heap.size]? = some (.cells #[encStr e0.name, .bool e0.file.shut, .slice sa mm sc] 71) := fun o => (Below.heap_alloc _ _ _ (lt_of_block fx)).trans fx
        have fg : ∀ o w3, (w2.alloc o).grownBy w3 fv.ownBlock → w3.heap[X.heap.size]? = some (.cells #[encStr e0.name, .bool e0.file.shut, .slice sa mm sc] 71) := fun o w3 hg => (hg.block _ (lt_of_block (fa2 o)) (fun e1 => by have := (own_block hinv.st.own e1.symm).2; omega)).trans (fa2 o)
        refine ⟨⟨cell_row bx 1, unfrozen_row bx 1, cc _ fx, lt_of_block bx, lt_of_block fx⟩, ⟨_, _, _, hv⟩, ow, fun o => by have := b2.size; simp; omega, fun o fv' n' w3 hn' ho hg => ?_, fun o => ⟨cc _ (fa2 o), fun w3 hg => cc _ (fg o w3 hg), fun w3 u hg => cc _ ((Below.heap_setCell _ _ _ _ (by show X.heap.size ≠ w.heap.size + 1; omega)).trans (fg o w3 hg))⟩⟩
        exact hinv.next hsb he0 hbl hBp (bFB.trans (bd.mono (by omega))) hnb (by rw [hll]; exact hn') ho hg
      have hlt1 : (k : Int) < (n : Int) := by omega
      have k0 : (0 : Int) ≤ (k : Int) := by omega
      have V2 : IntKind.i64.wrap ((k : Int) + 1) = (k : Int) + 1 := by rw [IntKind.wrap_i64]; omega
      have hkn : Hid (k + 1 ≤ n) := hid (by omega)
      have hkb : k ≤ 1099511627776 := by omega
      have HFB := hid hFB
      have cF0 : FB.cell? ⟨X.heap.size, 0, none⟩ = some (encStr e0.name) := cell_row rowFB 0
      have cF1 : FB.cell? ⟨X.heap.size, 1, none⟩ = some (.bool e0.file.shut) := cell_row rowFB 1
      have cF2 : FB.cell? ⟨X.heap.size, 2, none⟩ = some (.slice sa mm sc) := cell_row rowFB 2
      have cB : FB.cell? ⟨w.heap.size + 1, 1, none⟩ = some fv := (bFB.cell (p := ⟨w.heap.size + 1, 1, none⟩) lsb).trans cb
      have lF : X.heap.size < FB.heap.size := by omega
      have lB : w.heap.size + 1 < FB.heap.size := by omega
      clear hinv RX he0 hbs hbl e9 hsv hmm hFB bFB hfc hfvs rowFB zFB hll cb
      go_wp2
      rw [← HFB.out]
      refine wp_region_noPanic ?_
      refine wp_region_held_drew (S := fun V => V.cell? ⟨X.heap.size, 0, none⟩ = some (encStr e0.name) ∧ V.cell? ⟨X.heap.size, 1, none⟩ = some (.bool e0.file.shut) ∧ V.cell? ⟨X.heap.size, 2, none⟩ = some (.slice sa mm sc)) (by kernel_rfl) ⟨cF0, cF1, cF2⟩ (fun hHeld => ?_)
      refine wpAnyH_take (i := 0) (v := ?_) (by simp only [List.getElem?_toArray, List.getElem?_cons_zero]; rfl) (by kernel_rfl) (by kernel_rfl) (by kernel_rfl) (fun _ _ _ h => h) (Or.inl ⟨by rfl, ?_⟩) (by assumption) ?_
      rotate_left 1
      · intro w hSw; (try dsimp only at hSw); go_simp; (try with_reducible rfl)
      try simp only [Act.put, List.setIfInBounds_toArray, List.set_cons_zero, List.set_cons_succ]
      refine wpAnyH_take (i := 2) (v := ?_) (by simp only [List.getElem?_toArray, List.getElem?_cons_succ, List.getElem?_cons_zero]; rfl) (by kernel_rfl) (by kernel_rfl) (by kernel_rfl) (fun _ _ _ h => h) (Or.inl ⟨by rfl, ?_⟩) (by assumption) ?_
      rotate_left 1
      · intro w hSw; (try dsimp only at hSw); go_simp; (try with_reducible rfl)
      try simp only [Act.put, List.setIfInBounds_toArray, List.set_cons_zero, List.set_cons_succ]
      refine wpAnyH_take (i := 3) (v := ?_) (by simp only [List.getElem?_toArray, List.getElem?_cons_succ, List.getElem?_cons_zero]; rfl) (by kernel_rfl) (by kernel_rfl) (by kernel_rfl) (fun _ _ _ h => h) (Or.inl ⟨by rfl, ?_⟩) (by assumption) ?_
      rotate_left 1
      · intro w hSw; (try dsimp only at hSw); go_simp; (try with_reducible rfl)
      try simp only [Act.put, List.setIfInBounds_toArray, List.set_cons_zero, List.set_cons_succ]
      refine wpAnyH_take (i := 4) (v := ?_) (by simp only [List.getElem?_toArray, List.getElem?_cons_succ, List.getElem?_cons_zero]; rfl) (by kernel_rfl) (by kernel_rfl) (by kernel_rfl) (fun _ _ _ h => h) (Or.inl ⟨by rfl, ?_⟩) (by assumption) ?_
      rotate_left 1
      · intro w hSw; (try dsimp only at hSw); go_simp; (try with_reducible rfl)
      try simp only [Act.put, List.setIfInBounds_toArray, List.set_cons_zero, List.set_cons_succ]
      refine wpAnyH_take (i := 5) (v := ?_) (by simp only [List.getElem?_toArray, List.getElem?_cons_succ, List.getElem?_cons_zero]; rfl) (by kernel_rfl) (by kernel_rfl) (by kernel_rfl) (fun _ _ _ h => h) (Or.inl ⟨by rfl, ?_⟩) (by assumption) ?_
      rotate_left 1
      · intro w hSw; (try dsimp only at hSw); go_simp; (try with_reducible rfl)
      try simp only [Act.put, List.setIfInBounds_toArray, List.set_cons_zero, List.set_cons_succ]
      refine wpAnyH_take (i := 6) (v := ?_) (by simp only [List.getElem?_toArray, List.getElem?_cons_succ, List.getElem?_cons_zero]; rfl) (by kernel_rfl) (by kernel_rfl) (by kernel_rfl) (fun _ _ _ h => h) (Or.inl ⟨by rfl, ?_⟩) (by assumption) ?_
      rotate_left 1
      · intro w hSw; (try dsimp only at hSw); go_simp; (try with_reducible rfl)
      try simp only [Act.put, List.setIfInBounds_toArray, List.set_cons_zero, List.set_cons_succ]
      refine wpAnyH_take (i := 7) (v := ?_) (by simp only [List.getElem?_toArray, List.getElem?_cons_succ, List.getElem?_cons_zero]; rfl) (by kernel_rfl) (by kernel_rfl) (by kernel_rfl) (fun _ _ _ h => h) (Or.inl ⟨by rfl, ?_⟩) (by assumption) ?_
      rotate_left 1
      · intro w hSw; (try dsimp only at hSw); go_simp; (try with_reducible rfl)
      try simp only [Act.put, List.setIfInBounds_toArray, List.set_cons_zero, List.set_cons_succ]
      refine wpAnyH_ready (rs := [1, 8]) (by kernel_rfl) (by simp) ?_
      refine AllReadyH.cons (by simp only [List.getElem?_toArray, List.getElem?_cons_succ, List.getElem?_cons_zero]; rfl) (fun K hK => ?_) (AllReadyH.cons (by simp only [List.getElem?_toArray, List.getElem?_cons_succ, List.getElem?_cons_zero]; rfl) (fun K hK => ?_) AllReadyH.nil)
      · go_simp
        clear hHeld
        refine hK.out _ _ ⟨cF0, cF1, cF2⟩ (fun hHeld => ?_)
        clear hK K
        try simp only [Act.put, List.setIfInBounds_toArray, List.set_cons_zero, List.set_cons_succ]
        refine wpAnyH_ready (rs := [8]) (by kernel_rfl) (by simp) ?_
        refine AllReadyH.cons (by simp only [List.getElem?_toArray, List.getElem?_cons_succ, List.getElem?_cons_zero]; rfl) (fun K hK => ?_) AllReadyH.nil
        go_simp
        go_at_call 61
        refine (HCP.out _).mono ?_
        rintro e w2 ⟨v, vs, rfl, hnb⟩
        obtain ⟨⟨y1, y2, y3, y4, y5⟩, ⟨ga, gn, gcc, rfl⟩, ow, os, nx, af⟩ := UP.out _ _ _ _ hnb
        have OW := hid ow
        have OS := hid os
        have NX := hid nx
        have AF := hid af
        clear hnb ow os nx af
        clear hHeld
        refine hK.out _ _ y3 (fun hHeld => ?_)
        clear hK K
        try simp only [Act.put, List.setIfInBounds_toArray, List.set_cons_zero, List.set_cons_succ]
        refine wpAnyH_take (i := 9) (v := ?_) (by simp only [List.getElem?_toArray, List.getElem?_cons_succ, List.getElem?_cons_zero]; rfl) (by kernel_rfl) (by kernel_rfl) (by kernel_rfl) (fun _ _ _ h => h) (Or.inl ⟨by rfl, ?_⟩) (by assumption) ?_
        rotate_left 1
        · intro w hSw; (try dsimp only at hSw); go_simp; (try with_reducible rfl)
        try simp only [Act.put, List.setIfInBounds_toArray, List.set_cons_zero, List.set_cons_succ]
        refine wpAnyH_ready (rs := [10]) (by kernel_rfl) (by simp) ?_
        refine AllReadyH.cons (by simp only [List.getElem?_toArray, List.getElem?_cons_succ, List.getElem?_cons_zero]; rfl) (fun K hK => ?_) AllReadyH.nil
        go_simp
        clear hHeld
        refine hK.out _ _ (AF.out _).1 (fun hHeld => ?_)
        clear hK K
        try simp only [Act.put, List.setIfInBounds_toArray, List.set_cons_zero, List.set_cons_succ]
        refine wpAnyH_ready (rs := [11]) (by kernel_rfl) (by simp) ?_
        refine AllReadyH.cons (by simp only [List.getElem?_toArray, List.getElem?_cons_succ, List.getElem?_cons_zero]; rfl) (fun K hK => ?_) AllReadyH.nil
        skip
        refine wp_file rfl _ _ rfl W.heap.size fv k (l.flatMap SFile.cells) w2.heap.size (encStr e0.name) (.bool e0.file.shut) (.slice ga gn gcc) rfl rfl (OW.out _) (heap_alloc_new w2 _) rfl rfl rfl (by omega) (OS.out _) (fun g cap w3 r1 r2 => ?_)
        obtain ⟨q3, hnx⟩ := NX.out _ _ _ w3 rfl r1 r2
        have cf3 := (AF.out _).2.1 w3 r2
        have cf4 := (AF.out (.cells #[encStr e0.name, .bool e0.file.shut, .slice ga gn gcc] 71)).2.2 w3 (.slice (some ⟨g, 0, none⟩) (k + 1) cap) r2
        have z3 := cell_row q3 1
        have f3 := unfrozen_row q3 1
        simp at z3
        have l3 := lt_of_block q3
        have HNX := hid hnx
        clear r1 r2 q3 hnx
        clear hHeld
        refine hK.out _ _ cf3 (fun hHeld => ?_)
        clear hK K
        try simp only [Act.put, List.setIfInBounds_toArray, List.set_cons_zero, List.set_cons_succ]
        refine wpAnyH_take (i := 12) (v := ?_) (by simp only [List.getElem?_toArray, List.getElem?_cons_succ, List.getElem?_cons_zero]; rfl) (by kernel_rfl) (by kernel_rfl) (by kernel_rfl) (fun _ _ _ h => h) (Or.inl ⟨by rfl, ?_⟩) (by assumption) ?_
        rotate_left 1
        · intro w hSw; (try dsimp only at hSw); go_simp; (try with_reducible rfl)
        try simp only [Act.put, List.setIfInBounds_toArray, List.set_cons_zero, List.set_cons_succ]
        refine wpAnyH_ready (rs := [13]) (by kernel_rfl) (by simp) ?_
        refine AllReadyH.cons (by simp only [List.getElem?_toArray, List.getElem?_cons_succ, List.getElem?_cons_zero]; rfl) (fun K hK => ?_) AllReadyH.nil
        go_simp
        clear hHeld
        refine hK.out _ _ cf4 (fun hHeld => ?_)
        clear hK K
        try simp only [Act.put, List.setIfInBounds_toArray, List.set_cons_zero, List.set_cons_succ]
        refine wpAnyH_done (by kernel_rfl) ?_ _
        refine NoPanic.normal ?_
        go_wp2
        refine ⟨⟨k + 1, _, _, by simp, hkn.out, HNX.out⟩, by simp; omega⟩
      · go_simp
        go_at_call 61
        refine (HCP.out _).mono ?_
        rintro e w2 ⟨v, vs, rfl, hnb⟩
        obtain ⟨⟨y1, y2, y3, y4, y5⟩, ⟨ga, gn, gcc, rfl⟩, ow, os, nx, af⟩ := UP.out _ _ _ _ hnb
        have OW := hid ow
        have OS := hid os
        have NX := hid nx
        have AF := hid af
        clear hnb ow os nx af
        clear hHeld
        refine hK.out _ _ y3 (fun hHeld => ?_)
        clear hK K
        try simp only [Act.put, List.setIfInBounds_toArray, List.set_cons_zero, List.set_cons_succ]
        refine wpAnyH_take (i := 9) (v := ?_) (by simp only [List.getElem?_toArray, List.getElem?_cons_succ, List.getElem?_cons_zero]; rfl) (by kernel_rfl) (by kernel_rfl) (by kernel_rfl) (fun _ _ _ h => h) (Or.inl ⟨by rfl, ?_⟩) (by assumption) ?_
        rotate_left 1
        · intro w hSw; (try dsimp only at hSw); go_simp; (try with_reducible rfl)
        try simp only [Act.put, List.setIfInBounds_toArray, List.set_cons_zero, List.set_cons_succ]
        refine wpAnyH_ready (rs := [1, 10]) (by kernel_rfl) (by simp) ?_
        refine AllReadyH.cons (by simp only [List.getElem?_toArray, List.getElem?_cons_succ, List.getElem?_cons_zero]; rfl) (fun K hK => ?_) (AllReadyH.cons (by simp only [List.getElem?_toArray, List.getElem?_cons_succ, List.getElem?_cons_zero]; rfl) (fun K hK => ?_) AllReadyH.nil)
        · go_simp
          clear hHeld
          refine hK.out _ _ y3 (fun hHeld => ?_)
          clear hK K
          try simp only [Act.put, List.setIfInBounds_toArray, List.set_cons_zero, List.set_cons_succ]
          refine wpAnyH_ready (rs := [10]) (by kernel_rfl) (by simp) ?_
          refine AllReadyH.cons (by simp only [List.getElem?_toArray, List.getElem?_cons_succ, List.getElem?_cons_zero]; rfl) (fun K hK => ?_) AllReadyH.nil
          go_simp
          clear hHeld
          refine hK.out _ _ (AF.out _).1 (fun hHeld => ?_)
          clear hK K
          try simp only [Act.put, List.setIfInBounds_toArray, List.set_cons_zero, List.set_cons_succ]
          refine wpAnyH_ready (rs := [11]) (by kernel_rfl) (by simp) ?_
          refine AllReadyH.cons (by simp only [List.getElem?_toArray, List.getElem?_cons_succ, List.getElem?_cons_zero]; rfl) (fun K hK => ?_) AllReadyH.nil
          skip
          refine wp_file rfl _ _ rfl W.heap.size fv k (l.flatMap SFile.cells) w2.heap.size (encStr e0.name) (.bool e0.file.shut) (.slice ga gn gcc) rfl rfl (OW.out _) (heap_alloc_new w2 _) rfl rfl rfl (by omega) (OS.out _) (fun g cap w3 r1 r2 => ?_)
          obtain ⟨q3, hnx⟩ := NX.out _ _ _ w3 rfl r1 r2
          have cf3 := (AF.out _).2.1 w3 r2
          have cf4 := (AF.out (.cells #[encStr e0.name, .bool e0.file.shut, .slice ga gn gcc] 71)).2.2 w3 (.slice (some ⟨g, 0, none⟩) (k + 1) cap) r2
          have z3 := cell_row q3 1
          have f3 := unfrozen_row q3 1
          simp at z3
          have l3 := lt_of_block q3
          have HNX := hid hnx
          clear r1 r2 q3 hnx
          clear hHeld
          refine hK.out _ _ cf3 (fun hHeld => ?_)
          clear hK K
          try simp only [Act.put, List.setIfInBounds_toArray, List.set_cons_zero, List.set_cons_succ]
          refine wpAnyH_take (i := 12) (v := ?_) (by simp only [List.getElem?_toArray, List.getElem?_cons_succ, List.getElem?_cons_zero]; rfl) (by kernel_rfl) (by kernel_rfl) (by kernel_rfl) (fun _ _ _ h => h) (Or.inl ⟨by rfl, ?_⟩) (by assumption) ?_
          rotate_left 1
          · intro w hSw; (try dsimp only at hSw); go_simp; (try with_reducible rfl)
          try simp only [Act.put, List.setIfInBounds_toArray, List.set_cons_zero, List.set_cons_succ]
          refine wpAnyH_ready (rs := [13]) (by kernel_rfl) (by simp) ?_
          refine AllReadyH.cons (by simp only [List.getElem?_toArray, List.getElem?_cons_succ, List.getElem?_cons_zero]; rfl) (fun K hK => ?_) AllReadyH.nil
          go_simp
          clear hHeld
          refine hK.out _ _ cf4 (fun hHeld => ?_)
          clear hK K
          try simp only [Act.put, List.setIfInBounds_toArray, List.set_cons_zero, List.set_cons_succ]
          refine wpAnyH_done (by kernel_rfl) ?_ _
          refine NoPanic.normal ?_
          go_wp2
          refine ⟨⟨k + 1, _, _, by simp, hkn.out, HNX.out⟩, by simp; omega⟩
        · go_simp
          clear hHeld
          refine hK.out _ _ (AF.out _).1 (fun hHeld => ?_)
          clear hK K
          try simp only [Act.put, List.setIfInBounds_toArray, List.set_cons_zero, List.set_cons_succ]
          refine wpAnyH_ready (rs := [1]) (by kernel_rfl) (by simp) ?_
          refine AllReadyH.cons (by simp only [List.getElem?_toArray, List.getElem?_cons_succ, List.getElem?_cons_zero]; rfl) (fun K hK => ?_) AllReadyH.nil
          go_simp
          clear hHeld
          refine hK.out _ _ (AF.out _).1 (fun hHeld => ?_)
          clear hK K
          try simp only [Act.put, List.setIfInBounds_toArray, List.set_cons_zero, List.set_cons_succ]
          refine wpAnyH_ready (rs := [11]) (by kernel_rfl) (by simp) ?_
          refine AllReadyH.cons (by simp only [List.getElem?_toArray, List.getElem?_cons_succ, List.getElem?_cons_zero]; rfl) (fun K hK => ?_) AllReadyH.nil
          skip
          refine wp_file rfl _ _ rfl W.heap.size fv k (l.flatMap SFile.cells) w2.heap.size (encStr e0.name) (.bool e0.file.shut) (.slice ga gn gcc) rfl rfl (OW.out _) (heap_alloc_new w2 _) rfl rfl rfl (by omega) (OS.out _) (fun g cap w3 r1 r2 => ?_)
          obtain ⟨q3, hnx⟩ := NX.out _ _ _ w3 rfl r1 r2
          have cf3 := (AF.out _).2.1 w3 r2
          have cf4 := (AF.out (.cells #[encStr e0.name, .bool e0.file.shut, .slice ga gn gcc] 71)).2.2 w3 (.slice (some ⟨g, 0, none⟩) (k + 1) cap) r2
          have z3 := cell_row q3 1
          have f3 := unfrozen_row q3 1
          simp at z3
          have l3 := lt_of_block q3
          have HNX := hid hnx
          clear r1 r2 q3 hnx
          clear hHeld
          refine hK.out _ _ cf3 (fun hHeld => ?_)
          clear hK K
          try simp only [Act.put, List.setIfInBounds_toArray, List.set_cons_zero, List.set_cons_succ]
          refine wpAnyH_take (i := 12) (v := ?_) (by simp only [List.getElem?_toArray, List.getElem?_cons_succ, List.getElem?_cons_zero]; rfl) (by kernel_rfl) (by kernel_rfl) (by kernel_rfl) (fun _ _ _ h => h) (Or.inl ⟨by rfl, ?_⟩) (by assumption) ?_
          rotate_left 1
          · intro w hSw; (try dsimp only at hSw); go_simp; (try with_reducible rfl)
          try simp only [Act.put, List.setIfInBounds_toArray, List.set_cons_zero, List.set_cons_succ]
          refine wpAnyH_ready (rs := [13]) (by kernel_rfl) (by simp) ?_
          refine AllReadyH.cons (by simp only [List.getElem?_toArray, List.getElem?_cons_succ, List.getElem?_cons_zero]; rfl) (fun K hK => ?_) AllReadyH.nil
          go_simp
          clear hHeld
          refine hK.out _ _ cf4 (fun hHeld => ?_)
          clear hK K
          try simp only [Act.put, List.setIfInBounds_toArray, List.set_cons_zero, List.set_cons_succ]
          refine wpAnyH_done (by kernel_rfl) ?_ _
          refine NoPanic.normal ?_
          go_wp2
          refine ⟨⟨k + 1, _, _, by simp, hkn.out, HNX.out⟩, by simp; omega⟩
    · have hkk : k = n := by omega
      obtain ⟨va, vc, hfvs⟩ := sh_slice hinv.st.own
      have hbx := hinv.box
      have rr := (hinv.touch.block w.heap.size (by omega) (by simp)).trans HW.out.1
      have q1 := cell_row hbx 0
      have q2 := cell_row hbx 1
      have r0 := cell_row rr 0
      have r1 := cell_row rr 1
      have f0 := unfrozen_row rr 0
      have f1 := unfrozen_row rr 1
      have e9 := HBB.out
      rw [← e9] at q1
      rw [hfvs] at q2
      simp at q1 q2 r0 r1
      have lsb := lt_of_block hbx
      have lrr := lt_of_block rr
      have hnlt : ¬ (k : Int) < (n : Int) := by omega
      have rz : ((X.setCell ⟨w.heap.size, 0, none⟩ (.int .i64 (B : Int))).setCell ⟨w.heap.size, 1, none⟩ (.slice va l.length vc)).heap[w.heap.size]? = some (.cells #[.int .i64 (B : Int), .slice va l.length vc] 47 (0, 0)) := by
        rw [heap_setCell_row (heap_setCell_row rr 0 _) 1]
        rfl
      have z0 := cell_row rz 0
      have z1 := cell_row rz 1
      simp at z0 z1
      have FIN : Hid (∀ u0 u1, StateFr ((X.setCell ⟨w.heap.size, 0, none⟩ u0).setCell ⟨w.heap.size, 1, none⟩ u1) w.heap.size fv l ∧ Below w.heap.size w ((X.setCell ⟨w.heap.size, 0, none⟩ u0).setCell ⟨w.heap.size, 1, none⟩ u1)) := fun u0 u1 => by
        have k1 : StateFr ((X.setCell ⟨w.heap.size, 0, none⟩ u0).setCell ⟨w.heap.size, 1, none⟩ u1) W.heap.size fv l := hinv.st.kept fun b hb hlb => by
          rw [Below.heap_setCell _ _ _ _ (by show b ≠ w.heap.size; omega), Below.heap_setCell _ _ _ _ (by show b ≠ w.heap.size; omega)]
        have t1 : Touch [w.heap.size + 1] w X := (HTW.out.mono (by simp)).trans hinv.touch (fun b hb => .inl hb)
        refine ⟨⟨own_base k1.own (by omega), fun e he => (k1.each e he).mono (by omega)⟩, ?_⟩
        have b1 : Below w.heap.size w X := t1.below (Nat.le_refl _) (by simp)
        exact (b1.setCell (Nat.le_refl _) _).setCell (Nat.le_refl _) _
      have HI := hid hinv
      have HVS := hid hfvs
      have HKK := hid hkk
      clear hinv RX hll hbx rr e9 hfvs hkk rz
      go_wp2
      refine bodyPost_ret (v := .agg #[.int .i64 (B : Int), .slice va l.length vc]) (by simp [results, Tryz.results50, go_sem, z0, z1]) rfl ?_
      have e8 := HVS.out
      rw [← e8]
      refine ⟨fv, rfl, l, (FIN.out _ _).1, ?_, (FIN.out _ _).2⟩
      have e7 := HI.out.pub
      rw [e7, HKK.out, HNN.out, List.take_length]
      rfl
end Go.Proofs.YtcpncfngadablaaGreatDoor
