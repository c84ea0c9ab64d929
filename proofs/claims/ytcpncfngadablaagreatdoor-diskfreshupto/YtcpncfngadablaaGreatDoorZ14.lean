import Derived.Test.YtcpncfngadablaaGreatDoorZ13
namespace Go.Proofs.YtcpncfngadablaaGreatDoor
open Go.RowKit Go.Deep

theorem FreshB.mono {n m : Nat} {sv : Value} {bs : List Nat} (h : FreshB n sv bs) (hm : m ≤ n) : FreshB m sv bs := ⟨fun x hx => Nat.le_trans hm (h.1 x hx), fun b hb => Nat.le_trans hm (h.2.1 b hb), h.2.2⟩

section
variable {w w' : World} {E : Nat → Addr} {lo p mf mt : Nat} {D : DiskC}

theorem BlocksAt.own_slice {B : Nat} {sv : Value} {bs : List Nat} {blocks : List (List UInt8)} (h : BlocksAt w B sv bs blocks) : ∃ a n c, sv = .slice a n c := by
  rcases h.own.2 with ⟨h1, _⟩ | ⟨g, cap, cur, h1, _⟩
  · exact ⟨none, 0, 0, h1⟩
  · exact ⟨_, _, cap, h1⟩

theorem told_facts {a b : Nat} {u v : Value} {w2 : World} {o : Array Value} (h0 : w.cell? ⟨a, 0, none⟩ = some u) (h1 : w.cell? ⟨a, 1, none⟩ = some v) (ht : Below (w.alloc (.cells o b)).drew.heap.size (w.alloc (.cells o b)).drew w2) :
    w2.cell? ⟨a, 0, none⟩ = some u ∧ w2.cell? ⟨a, 1, none⟩ = some v ∧ (w2.cell? ⟨w.heap.size, 0, none⟩ = o[0]? ∧ w2.cell? ⟨w.heap.size, 1, none⟩ = o[1]? ∧ w2.cell? ⟨w.heap.size, 2, none⟩ = o[2]?) ∧
      (w2.frozen? ⟨w.heap.size, 0, none⟩ = false ∧ w2.frozen? ⟨w.heap.size, 1, none⟩ = false ∧ w2.frozen? ⟨w.heap.size, 2, none⟩ = false) := by
  have la := World.block_lt_of_cell? w _ h0
  have hs : (w.alloc (.cells o b)).drew.heap.size = w.heap.size + 1 := by simp
  have hr : w2.heap[w.heap.size]? = some (.cells o b (0, 0)) := (ht.block _ (by omega)).trans (heap_alloc_new w _)
  have hc : ∀ i x, w.cell? ⟨a, i, none⟩ = some x → w2.cell? ⟨a, i, none⟩ = some x := fun i x h => (ht.cell (p := ⟨a, i, none⟩) (by have : a < w.heap.size := la; show a < _; omega)).trans ((World.cell?_of_block (Below.heap_alloc w _ a la)).trans h)
  exact ⟨hc 0 u h0, hc 1 v h1, ⟨cell_row hr 0, cell_row hr 1, cell_row hr 2⟩, ⟨unfrozen_row hr 0, unfrozen_row hr 1, unfrozen_row hr 2⟩⟩

set_option maxRecDepth 100000 in
set_option maxHeartbeats 400000 in
theorem told_any {B : Nat} {L : Lay} {f : FileA} (hat : FileAt w B L f) (s : ByteArray) (hB1 : 64 ≤ B) (hB2 : B ≤ 65536) (hn : f.blocks.length ≤ 1099511627776) :
    Calls Tryz.prog 38 #[ptr L.fb, .string s] w fun e w' => ∃ sv' bs', e = .returned (.agg #[.string s, .bool f.shut, sv']) ∧ BlocksAt w' B sv' bs' f.blocks ∧ FreshB w.heap.size sv' bs' ∧ Below w.heap.size w w' := by
  have hrow := hat.row
  have lfb := lt_of_block hrow
  have c0 := cell_row hrow 0
  have c1 := cell_row hrow 1
  simp at c0 c1
  have HC := hid (fun (o : Obj) => copyBlocks_any (w := (w.alloc o).drew) (((hat.kept fun b hb => Below.heap_alloc w o b (hat.lt b hb)).blocksAt).kept fun _ _ => rfl) hB1 hB2 hn)
  clear hat hrow
  obtain ⟨x, hx, c0'⟩ : ∃ x : Int, (x == 1) = f.shut ∧ w.cell? ⟨L.fb, 0, none⟩ = some (.int .i64 x) := by
    cases hs : f.shut
    · rw [hs] at c0; exact ⟨0, by decide, by simpa using c0⟩
    · rw [hs] at c0; exact ⟨1, by decide, by simpa using c0⟩
  clear c0
  have hnw := World.new_ne w ⟨L.fb, 0, none⟩ c0'
  have hnw1 := World.new_ne w ⟨L.fb, 1, none⟩ c1
  go_enter Tryz.func38, Tryz.ntmps38
  go_wp2
  go_region_held3 (fun W => W.cell? ⟨L.fb, 0, none⟩ = some (.int .i64 x) ∧ W.cell? ⟨L.fb, 1, none⟩ = some L.sv) (go_keep)
    (first | (go_at_call 75; refine (HC.out _).mono ?_; rintro e w2 ⟨sv', bs', rfl, hb2, hf2, ht2⟩; have HB2 := hid hb2; have HF2 := hid hf2; have HT2 := hid ht2; obtain ⟨v0, v1, ⟨q0, q1, q2⟩, ⟨z0, z1, z2⟩⟩ := told_facts c0' c1 ht2; obtain ⟨ga, gn, gc, hsv'⟩ := hb2.own_slice; clear hb2 hf2 ht2))
  go_wp2
  refine bodyPost_ret (v := .agg #[.string s, .bool f.shut, .slice ga gn gc]) (by simp [results, Tryz.results38, go_sem, q0, q1, q2]) rfl ⟨sv', bs', by rw [hsv'], ?_, HF2.out.mono (by simp), ?_⟩
  · refine HB2.out.kept fun b hb => ?_
    have hbn : b ≠ w.heap.size := by
      have h1 := HF2.out.1 b
      have h2 := HF2.out.2.1 b
      have hz : (w.alloc (.cells #[.string ⟨#[]⟩, .bool false, .slice none 0 0] 71)).drew.heap.size = w.heap.size + 1 := by simp
      rcases hb with h | h
      · have := h1 h; omega
      · have := h2 h; omega
    rw [Below.heap_setCell _ _ _ _ hbn, Below.heap_setCell _ _ _ _ hbn, Below.heap_setCell _ _ _ _ hbn]
  · have hb0 : Below w.heap.size w w2 := ((Below.refl _ w).alloc (Nat.le_refl _) _).drew.trans (HT2.out.mono (by simp))
    exact ((hb0.setCell (Nat.le_refl _) _).setCell (Nat.le_refl _) _).setCell (Nat.le_refl _) _
end
end Go.Proofs.YtcpncfngadablaaGreatDoor
namespace Go.Proofs.YtcpncfngadablaaGreatDoor
open Go.RowKit Go.Deep

/-- a file of a state: its name, what it holds, where its blocks lie. -/
structure SFile where
  name : List UInt8
  file : FileA
  sv : Value
  bs : List Nat

def SFile.cells (e : SFile) : List Value := [encStr e.name, .bool e.file.shut, e.sv]
def SFile.pub (e : SFile) : List UInt8 × FileA := (e.name, e.file)

/-- Files of a state lie behind a slice, from n on. -/
structure StateAt (w : World) (n B : Nat) (fv : Value) (l : List SFile) : Prop where
  own : w.ownsRow n 71 3 fv l.length (l.flatMap SFile.cells)
  each : ∀ e ∈ l, BlocksAt w B e.sv e.bs e.file.blocks
  from_ : ∀ e ∈ l, FreshB n e.sv e.bs

theorem Tryz.info71 : (Tryz.prog.info? 71).map (fun i => (i.zero, i.size, i.bytes)) = some (some (.agg #[.string ⟨#[]⟩, .bool false, .slice none 0 0]), 3, 48) := by kernel_rfl

/-- append of one file, as a step of a region that draws. -/
theorem step_append_file {ops : Array Oper} {o : Oper} {a : Act} {w : World} {K : Act → World → Prop} {Q : Exit → Act → World → Prop} {X : Prop}
    (hg : o.guard = none) (s x : Operand) (hop : o.op = Op.call { callee := Callee.builtin Builtin.append, args := #[s, x], argTypes := #[45, 45] })
    (base : Nat) (v : Value) (n : Nat) (xs : List Value) (b : Nat) (c0 c1 c2 : Value) (hs : a.eval s = v) (hx : a.eval x = .slice (some ⟨b, 0, none⟩) 1 1) (hown : w.ownsRow base 71 3 v n xs) (hb : w.heap[b]? = some (.cells #[c0, c1, c2] 71 (0, 0))) (h0 : c0.oneCell' = true) (h1 : c1.oneCell' = true) (h2 : c2.oneCell' = true) (hn : n ≤ 1099511627776) (hbase : base ≤ w.heap.size)
    (hK : ∀ g cap w', w'.ownsRow base 71 3 (.slice (some ⟨g, 0, none⟩) (n + 1) cap) (n + 1) (xs ++ [c0, c1, c2]) → w.grownBy w' v.ownBlock → K (a.put o.dst (.slice (some ⟨g, 0, none⟩) (n + 1) cap)) w') :
    if Region.wanted o (yielded ops a.tmps) = true then Oper.wp Tryz.prog o a w K Q else X := by
  have hw : Region.wanted o (yielded ops a.tmps) = true := by simp [Region.wanted, hg]
  rw [if_pos hw]
  obtain ⟨i, hi, hz0, hz1, hz2⟩ := info_parts Tryz.info71
  have hnews : ∀ j u, [c0, c1, c2][j]? = some u → w.cell? ((⟨b, 0, none⟩ : Addr).add j) = some u := by
    intro j u hu
    have hadd : (⟨b, 0, none⟩ : Addr).add j = ⟨b, j, none⟩ := by unfold Addr.add; split <;> simp_all
    rw [hadd, cell_row hb j]
    simpa using hu
  have hone : ∀ u ∈ [c0, c1, c2], u.oneCell' = true := by simp [h0, h1, h2]
  obtain ⟨v', w', hrun, r1, r2, _⟩ := run_append_own (P := Tryz.prog) w base 45 o.type 71 i _ 3 48 Tryz.underlying45 hi hz0 hz1 hz2 rfl (by decide) v n xs hown ⟨b, 0, none⟩ 1 1 [c0, c1, c2] rfl hnews hone (by unfold maxLen; omega) (by omega) hbase
  have hv : ∃ g cap, v' = .slice (some ⟨g, 0, none⟩) (n + 1) cap := by
    rcases r1.2 with ⟨_, h⟩ | ⟨g, cap, _, h, _⟩
    · omega
    · exact ⟨g, cap, h⟩
  obtain ⟨g, cap, rfl⟩ := hv
  unfold Oper.wp
  simp [execOp, hop, resolve, invoke, builtin, hs, hx, hrun, Result.andThen]
  exact hK g cap w' r1 r2

theorem BlocksAt.ne_row {w : World} {B : Nat} {sv : Value} {bs : List Nat} {blocks : List (List UInt8)} (h : BlocksAt w B sv bs blocks) {g : Nat} {c : Array Value} (hg : w.heap[g]? = some (.cells c 71 (0, 0))) : sv.ownBlock ≠ some g ∧ g ∉ bs := by
  refine ⟨fun e => ?_, fun hm => ?_⟩
  · rcases h.own.2 with ⟨h1, _⟩ | ⟨g', cap, cur, h1, _, hg', _⟩
    · rw [h1] at e; simp [Value.ownBlock] at e
    · rw [h1] at e; simp [Value.ownBlock] at e; subst e; rw [hg] at hg'; simp at hg'
  · obtain ⟨i, hi, rfl⟩ := List.getElem_of_mem hm
    have := (h.bytes i _ (blocks[i]'(by rw [← h.len]; exact hi)) (List.getElem?_eq_getElem hi) (List.getElem?_eq_getElem _)).2
    unfold BytesAt at this
    rw [hg] at this
    simp at this

/-- one file more. -/
theorem StateAt.snoc {w w2 w3 : World} {n B : Nat} {fv v' : Value} {l : List SFile} {e : SFile} {o : Obj} (h : StateAt w n B fv l) (hn : n ≤ w.heap.size) (hb : Below w.heap.size w w2) (he : BlocksAt w2 B e.sv e.bs e.file.blocks) (hef : FreshB w.heap.size e.sv e.bs)
    (hown : w3.ownsRow n 71 3 v' (l.length + 1) (l.flatMap SFile.cells ++ e.cells)) (hgr : (w2.alloc o).grownBy w3 fv.ownBlock) : StateAt w3 n B v' (l ++ [e]) ∧ Below n w w3 := by
  have hs := hb.size
  have hsz : (w2.alloc o).heap.size = w2.heap.size + 1 := by simp
  have hrow : ∀ g, fv.ownBlock = some g → n ≤ g ∧ g < w.heap.size ∧ ∃ c, w.heap[g]? = some (.cells c 71 (0, 0)) := by
    intro g hg
    rcases h.own.2 with ⟨h1, _⟩ | ⟨g', cap, cur, h1, hb', hg', _⟩
    · rw [h1] at hg; simp [Value.ownBlock] at hg
    · rw [h1] at hg; simp [Value.ownBlock] at hg; subst hg; exact ⟨hb', lt_of_block hg', cur, hg'⟩
  refine ⟨⟨?_, ?_, ?_⟩, ?_⟩
  · simpa [List.flatMap_append] using hown
  · intro x hx
    rcases List.mem_append.1 hx with hx | hx
    · refine (h.each x hx).kept fun b hb' => ?_
      have hlt : b < w.heap.size := by rcases hb' with h' | h'; exact (h.each x hx).lt.1 b h'; exact (h.each x hx).lt.2 b h'
      have hne : some b ≠ fv.ownBlock := fun e' => by
        obtain ⟨_, _, c, hc⟩ := hrow b e'.symm
        have := (h.each x hx).ne_row hc
        rcases hb' with h' | h'
        · exact this.1 h'
        · exact this.2 h'
      rw [hgr.block b (by omega) hne, Below.heap_alloc _ _ _ (by omega), hb.block b hlt]
    · simp at hx
      subst hx
      refine he.kept fun b hb' => ?_
      have hge : w.heap.size ≤ b := by rcases hb' with h' | h'; exact hef.1 b h'; exact hef.2.1 b h'
      have hlt : b < w2.heap.size := by rcases hb' with h' | h'; exact he.lt.1 b h'; exact he.lt.2 b h'
      have hne : some b ≠ fv.ownBlock := fun e' => by have := (hrow b e'.symm).2.1; omega
      rw [hgr.block b (by omega) hne, Below.heap_alloc _ _ _ hlt]
  · intro x hx
    rcases List.mem_append.1 hx with hx | hx
    · exact h.from_ x hx
    · simp at hx; subst hx; exact hef.mono hn
  · exact ((hb.mono hn).alloc (by omega) o).grown hgr (by omega) (fun k hk => (hrow k hk).1)

section
variable {w w' : World} {E : Nat → Addr} {lo p mf mt : Nat} {D : DiskC}

theorem Rep.look1 (h : Rep w lo p mf mt D) {e0 : Ent} (he : e0 ∈ D.ents) :
    (Instr.lookup 88 (.map (some mf)) (encStr e0.name) false).run Tryz.prog w = .ok (ptr e0.lay.fb) w := by
  have hs : (⟨e0.name.toArray⟩ : ByteArray).size ≤ 32 := by
    show e0.name.toArray.size ≤ 32
    simpa using h.names e0 he
  obtain ⟨v, ps, hrun, hv⟩ := h.files.lookup (t := 88) (e := 92) (Maps.string_keyed Tryz.underlying9) Tryz.underlying88 (Tryz.zero92 w) (zd := .nil) (zp := []) rfl (WideMaps.keyOf_string_mk Tryz.underlying9 (s := ⟨e0.name.toArray⟩) (by unfold maxLen; omega))
  rw [at_map] at hv
  have hf : findE D.ents e0.name = some e0 := by
    cases hx : findE D.ents e0.name with
    | none =>
      have := List.find?_eq_none.1 hx e0 he
      simp at this
    | some e1 => rw [h.one hx e0 he rfl]
  dsimp only at hv
  rw [hf] at hv
  rw [hrun, ptrElem_inv hv]
end
end Go.Proofs.YtcpncfngadablaaGreatDoor
namespace Go.Proofs.YtcpncfngadablaaGreatDoor
open Go.RowKit Go.Deep

section
variable {w w' : World} {E : Nat → Addr} {lo p mf mt : Nat} {D : DiskC}

theorem StateAt.kept {w w' : World} {n B : Nat} {fv : Value} {l : List SFile} (h : StateAt w n B fv l) (hk : ∀ b, n ≤ b → b < w.heap.size → w'.heap[b]? = w.heap[b]?) : StateAt w' n B fv l := by
  refine ⟨⟨h.own.1, ?_⟩, fun e he => (h.each e he).kept fun b hb => ?_, h.from_⟩
  · rcases h.own.2 with hn | ⟨g, cap, cur, hv, hb, hg, rest⟩
    · exact .inl hn
    · exact .inr ⟨g, cap, cur, hv, hb, (hk g hb (lt_of_block hg)).trans hg, rest⟩
  · rcases hb with h' | h'
    · exact hk b ((h.from_ e he).1 b h') ((h.each e he).lt.1 b h')
    · exact hk b ((h.from_ e he).2.1 b h') ((h.each e he).lt.2 b h')

/-- what a round of State's loop needs of memory. -/
theorem state_facts {N sb : Nat} {wr : World} {fv : Value} {l : List SFile} {x : Value} (R : Rep wr lo p mf mt D) (hS : StateAt wr N D.B fv l) (hsb : wr.heap[sb]? = some (.cells #[x, fv] 47 (0, 0))) (hN : sb < N) (hN2 : N ≤ wr.heap.size) (k : Nat) (hk : l.length = k) :
    ∀ w2, Below wr.drew.heap.size wr.drew w2 → w2.cell? ⟨sb, 1, none⟩ = some fv ∧ w2.cell? ⟨p, 3, none⟩ = some (.map (some mf)) ∧ (sb < w2.heap.size ∧ p < w2.heap.size) ∧
      Hid (∀ o, (w2.alloc o).ownsRow N 71 3 fv k (l.flatMap SFile.cells) ∧ N ≤ (w2.alloc o).heap.size ∧ ∀ w3, (w2.alloc o).grownBy w3 fv.ownBlock → w3.heap[sb]? = some (.cells #[x, fv] 47 (0, 0))) := by
  intro w2 hb
  have hs : wr.heap.size ≤ w2.heap.size := hb.size
  have hsb2 : w2.heap[sb]? = some (.cells #[x, fv] 47 (0, 0)) := (hb.block sb (lt_of_block (w := wr) hsb)).trans hsb
  have hp2 : w2.cell? ⟨p, 3, none⟩ = some (.map (some mf)) := (hb.cell (p := ⟨p, 3, none⟩) (lt_of_block (w := wr) R.row)).trans (R.cell 3)
  refine ⟨cell_row hsb2 1, hp2, ⟨lt_of_block hsb2, Nat.lt_of_lt_of_le (lt_of_block R.row) hs⟩, fun o => ⟨?_, by simp; omega, fun w3 hg => ?_⟩⟩
  · have h := hS.own
    rw [hk] at h
    refine ⟨h.1, ?_⟩
    rcases h.2 with hn | ⟨g, cap, cur, hv, hb', hg, rest⟩
    · exact .inl hn
    · have hlt := lt_of_block hg
      exact .inr ⟨g, cap, cur, hv, hb', (Below.heap_alloc _ _ g (by omega)).trans ((hb.block g hlt).trans hg), rest⟩
  · have hne : some sb ≠ fv.ownBlock := fun e => by
      have := (hS.own.lt sb e.symm).1
      omega
    rw [hg.block sb (by have := lt_of_block hsb2; simp; omega) hne, Below.heap_alloc _ _ _ (lt_of_block hsb2)]
    exact hsb2

/-- State's loop, k files told. -/
structure StInv (w1 wr : World) (sb : Nat) (D : DiskC) (k : Nat) (fv : Value) (l : List SFile) : Prop where
  touch : Touch [sb] w1 wr
  box : wr.heap[sb]? = some (.cells #[.int .i64 D.B, fv] 47 (0, 0))
  files : StateAt wr w1.heap.size D.B fv l
  pubs : l.map SFile.pub = (D.ents.take k).map Ent.pub

theorem StInv.len {w1 wr : World} {sb k : Nat} {fv : Value} {l : List SFile} (h : StInv w1 wr sb D k fv l) (hk : k ≤ D.ents.length) : l.length = k := by
  have := congrArg List.length h.pubs
  simp at this
  omega

theorem StInv.next {w1 wr w2 w3 : World} {sb k g cap : Nat} {fv sv' : Value} {l : List SFile} {e0 : Ent} {bs' : List Nat} {o : Obj} {ga : Option Addr} {gn gc : Nat} (h : StInv w1 wr sb D k fv l) (hk : k ≤ D.ents.length) (he : D.ents[k]? = some e0) (hsb : sb < w1.heap.size) (hb2 : BlocksAt w2 D.B sv' bs' e0.file.blocks) (hf2 : FreshB wr.drew.heap.size sv' bs') (ht2 : Below wr.drew.heap.size wr.drew w2)
    (hsv : sv' = .slice ga gn gc) (h1 : w3.ownsRow w1.heap.size 71 3 (.slice (some ⟨g, 0, none⟩) (k + 1) cap) (k + 1) (l.flatMap SFile.cells ++ [encStr e0.name, .bool e0.file.shut, .slice ga gn gc])) (h2 : (w2.alloc o).grownBy w3 fv.ownBlock) (h3 : w3.heap[sb]? = some (.cells #[.int .i64 D.B, fv] 47 (0, 0))) :
    StInv w1 (w3.setCell ⟨sb, 1, none⟩ (.slice (some ⟨g, 0, none⟩) (k + 1) cap)) sb D (k + 1) (.slice (some ⟨g, 0, none⟩) (k + 1) cap) (l ++ [⟨e0.name, e0.file, sv', bs'⟩]) := by
  have hl := h.len hk
  subst hsv
  have hsz := h.touch.size
  have hs := h.files.snoc (e := ⟨e0.name, e0.file, .slice ga gn gc, bs'⟩) hsz (⟨ht2.os, ht2.tape, ht2.output, ht2.size, ht2.block⟩ : Below wr.heap.size wr w2) hb2 hf2 (by rw [hl]; exact h1) h2
  refine ⟨?_, ?_, ?_, ?_⟩
  · have t : Touch [sb] w1 w3 := ⟨hs.2.os.trans h.touch.os, hs.2.tape.trans h.touch.tape, hs.2.output.trans h.touch.output, by have := hs.2.size; omega, fun b hb hbn => (hs.2.block b hb).trans (h.touch.block b hb hbn)⟩
    exact t.setCell (by simp) _
  · rw [heap_setCell_row h3 1]
    rfl
  · refine hs.1.kept fun b hb _ => Below.heap_setCell _ _ _ _ (by show b ≠ sb; omega)
  · rw [List.map_append, h.pubs, List.take_succ_eq_append_getElem (by have := (List.getElem?_eq_some_iff.1 he).1; omega), List.map_append]
    have : D.ents[k]'((List.getElem?_eq_some_iff.1 he).1) = e0 := (List.getElem?_eq_some_iff.1 he).2
    simp [this, SFile.pub, Ent.pub]

theorem state_fin {W w1 wr : World} {k : Nat} {fv : Value} {l : List SFile} (h : StInv w1 wr (w.heap.size + 1) D k fv l) (hz1 : W.heap.size ≤ w1.heap.size) (hzW : w.heap.size + 1 < W.heap.size) (hW : W.heap[w.heap.size]? = some (.cells #[.int .i64 0, .slice none 0 0] 47)) (hTW : Touch [] w W) (hB : Below W.heap.size W w1) (hk : k = D.ents.length) :
    wr.heap[w.heap.size]? = some (.cells #[.int .i64 0, .slice none 0 0] 47) ∧ ∀ x y : Value, StateAt ((wr.setCell ⟨w.heap.size, 0, none⟩ x).setCell ⟨w.heap.size, 1, none⟩ y) w.heap.size D.B fv l ∧ l.map SFile.pub = D.ents.map Ent.pub ∧ Below w.heap.size w ((wr.setCell ⟨w.heap.size, 0, none⟩ x).setCell ⟨w.heap.size, 1, none⟩ y) := by
  have hbw : Below w.heap.size w wr := ((hTW.below (Nat.le_refl _) (by simp)).trans (hB.mono hTW.size)).trans (h.touch.below (by have := hTW.size; omega) (by simp))
  refine ⟨?_, fun x y => ⟨?_, ?_, (hbw.setCell (Nat.le_refl _) _).setCell (Nat.le_refl _) _⟩⟩
  · rw [h.touch.block _ (by omega) (by simp), hB.block _ (by omega)]
    exact hW
  · have hs : StateAt ((wr.setCell ⟨w.heap.size, 0, none⟩ x).setCell ⟨w.heap.size, 1, none⟩ y) w1.heap.size D.B fv l := h.files.kept fun b hb _ => by
      have hbn : b ≠ w.heap.size := by omega
      rw [Below.heap_setCell _ _ _ _ hbn, Below.heap_setCell _ _ _ _ hbn]
    refine ⟨⟨hs.own.1, ?_⟩, hs.each, fun e he => (hs.from_ e he).mono (by omega)⟩
    rcases hs.own.2 with hn | ⟨g, cap, cur, hv, hb, rest⟩
    · exact .inl hn
    · exact .inr ⟨g, cap, cur, hv, by omega, rest⟩
  · rw [h.pubs, hk, List.take_length]

set_option maxRecDepth 100000 in
set_option maxHeartbeats 1000000 in
theorem State_any (R : Rep w lo p mf mt D) (hS : Small D.pub) :
    Calls Tryz.prog 14 #[ptr p] w fun e w' => ∃ fv l, e = .returned (.agg #[.int .i64 D.B, fv]) ∧ StateAt w' w.heap.size D.B fv l ∧ l.map SFile.pub = D.ents.map Ent.pub ∧ Below w.heap.size w w' := by
  obtain ⟨W, hW⟩ : ∃ W, W = (w.alloc (.cells #[.int .i64 0, .slice none 0 0] 47)).alloc (.cells #[.int .i64 D.B, .slice none 0 0] 47) := ⟨_, rfl⟩
  have hW1 : W.heap[w.heap.size]? = some (.cells #[.int .i64 0, .slice none 0 0] 47) ∧ W.heap[w.heap.size + 1]? = some (.cells #[.int .i64 D.B, .slice none 0 0] 47) := by rw [hW]; exact heap_two w _ _
  have hTW : Touch [] w W := by rw [hW]; exact ((Touch.refl [] w).alloc _).alloc _
  have RW := R.touch hTW (by simp)
  have hfl : D.ents.length ≤ 1099511627776 := by have := hS.files; simpa [DiskC.pub] using this
  have HRI := hid (rising_any RW hfl)
  have hB := hS.size
  simp only [DiskC.pub] at hB
  obtain ⟨hB1, hB2⟩ := hB
  have k0 := R.cell 0
  simp only [dRow] at k0
  have hp := lt_of_block R.row
  have HE := hid hW
  have HW := hid hW1
  have HTW := hid hTW
  have HR := hid RW
  have HSM := hid hS
  have HNF := hid (show w.heap.size + 1 ∉ D.foot p mf mt from fun h => by have := R.lt _ h; omega)
  clear R RW hW hW1 hTW hS
  go_enter Tryz.func14, Tryz.ntmps14
  go_wp2_with fail
  rw [← HE.out]
  refine HRI.out.mono ?_
  rintro e w1 ⟨v, rfl, hrow, hnil, hb1⟩
  rcases hrow.2 with ⟨hv, h2⟩ | ⟨G, gc, _, hv, _⟩
  · rw [hv]
    have hD : D.ents = [] := List.eq_nil_of_length_eq_zero h2
    have hinv : StInv w1 w1 (w.heap.size + 1) D D.ents.length (.slice none 0 0) [] := ⟨Touch.refl _ _, (hb1.block _ (lt_of_block HW.out.2)).trans HW.out.2, ⟨World.ownsRow_nil _ _ _ _, by simp, by simp⟩, by rw [hD]; rfl⟩
    have hfin := hid (state_fin hinv hb1.size (lt_of_block HW.out.2) HW.out.1 HTW.out hb1 rfl)
    have c0 := cell_row hinv.box 0
    have c1 := cell_row hinv.box 1
    have hr := hfin.out.1
    have r0 := cell_row hr 0
    have r1 := cell_row hr 1
    have f0 := unfrozen_row hr 0
    have f1 := unfrozen_row hr 1
    simp at r0 r1 c0 c1
    clear hinv hr hrow hnil hb1 hv hD h2
    go_wp2
    refine wp_loop_rounds 1 ?_
    rw [rounds_succ]
    go_wp2
    refine bodyPost_ret (v := .agg #[.int .i64 D.B, .slice none 0 0]) (by simp [results, Tryz.results14, go_sem, r0, r1]) rfl ?_
    exact ⟨.slice none 0 0, [], rfl, (hfin.out.2 _ _).1, (hfin.out.2 (.int .i64 D.B) (.slice none 0 0)).2.1, (hfin.out.2 _ _).2.2⟩
  · rw [hv]
    have HROW := hid hrow
    have HV := hid hv
    have HB1 := hid hb1
    clear hrow hnil hb1 hv
    go_wp2
    go_loopw [14] (fun i wr => ∃ (k : Nat) (fv : Value) (l : List SFile), k ≤ D.ents.length ∧ i = .int .i64 k ∧ StInv w1 wr (w.heap.size + 1) D k fv l) (fun i _ => D.ents.length - (intOf i).toNat)
    case atStart => exact ⟨0, .slice none 0 0, [], Nat.zero_le _, rfl, Touch.refl _ _, (HB1.out.block _ (lt_of_block HW.out.2)).trans HW.out.2, ⟨World.ownsRow_nil _ _ _ _, by simp, by simp⟩, rfl⟩
    case round =>
      obtain ⟨k, fv, l, hk, rfl, hinv⟩ := hrel
      have hz1 : W.heap.size ≤ w1.heap.size := HB1.out.size
      have hzW : w.heap.size + 1 < W.heap.size := lt_of_block HW.out.2
      have R1 : Rep w1 lo p mf mt D := HR.out.touch (F := []) (Touch.of_below HB1.out (Nat.le_refl _)) (by simp)
      have Rr : Rep wr lo p mf mt D := R1.touch hinv.touch (fun b hb => by
        have h1 := HR.out.lt b hb
        have h2 : b < w.heap.size ∨ w.heap.size ≤ b := by omega
        simp
        intro e
        subst e
        exact HNF.out hb)
      by_cases hlt : k < D.ents.length
      · obtain ⟨e0, he0⟩ : ∃ e0, D.ents[k]? = some e0 := ⟨D.ents[k], List.getElem?_eq_getElem hlt⟩
        have hm : e0 ∈ D.ents := List.mem_of_getElem? he0
        have hrow0 := HROW.out
        have hGb : W.heap.size ≤ G ∧ G < w1.heap.size := hrow0.lt G (by rw [HV.out]; rfl)
        have cG : wr.cell? ⟨G, k, none⟩ = some (encStr e0.name) := by
          have h1 := hrow0.cells (g := G) (by rw [HV.out]; rfl) k (encStr e0.name) (by simp [he0])
          have hadd : (⟨G, 0, none⟩ : Addr).add k = ⟨G, k, none⟩ := by unfold Addr.add; split <;> simp_all
          rw [hadd] at h1
          exact (hinv.touch.cell (p := ⟨G, k, none⟩) hGb.2 (by simp; omega)).trans h1
        have hlk := (Quiet.rep (w' := wr.drew) ⟨1, rfl⟩ Rr).look1 hm
        have kp := Rr.cell 3
        simp only [dRow] at kp
        have hat := (Quiet.rep (w' := wr.drew) ⟨1, rfl⟩ Rr).each e0 hm
        have hbn : e0.file.blocks.length ≤ 1099511627776 := HSM.out.blocks e0.pub (List.mem_map.2 ⟨e0, hm, rfl⟩)
        have HTD := hid (told_any hat ⟨e0.name.toArray⟩ hB1 hB2 hbn)
        have hll := hinv.len hk
        have hsz : w1.heap.size ≤ wr.heap.size := hinv.touch.size
        have HFA := hid (state_facts Rr hinv.files hinv.box (by omega) hsz k hll)
        have cb := cell_row hinv.box 1
        simp at cb
        have lb := lt_of_block hinv.box
        have lp := lt_of_block Rr.row
        have HI := hid hinv
        have HE0 := hid he0
        have HM := hid hm
        clear hinv he0 hm hrow0 hat Rr R1 hll
        go_wp2
        go_region_law (first
          | (refine step_append_file rfl _ _ rfl w1.heap.size fv k (l.flatMap SFile.cells) w2.heap.size (encStr e0.name) (.bool e0.file.shut) (.slice ga gn gcc) rfl rfl (ho2.out _).1 (heap_alloc_new w2 _) rfl rfl rfl (by omega) (ho2.out _).2.1 (fun g cap w3 r1 r2 => ?_); have q3 := (ho2.out _).2.2 w3 r2; have z3 := cell_row q3 1; have f3 := unfrozen_row q3 1; simp at z3; have H1 := hid r1; have H2 := hid r2; have HQ3 := hid q3; clear r1 r2 q3)
          | (go_simp; go_at_call 38; refine HTD.out.mono ?_; rintro e w2 ⟨sv', bs', rfl, hb2, hf2, ht2⟩; obtain ⟨ga, gn, gcc, hsv'⟩ := hb2.own_slice; obtain ⟨y1, y2, ⟨l1, l2⟩, ho2⟩ := HFA.out w2 ht2; have HB2 := hid hb2; have HF2 := hid hf2; have HT2 := hid ht2; clear hb2 hf2 ht2))
        all_goals
          have HN := hid (StInv.next HI.out hk HE0.out (by omega) HB2.out HF2.out HT2.out hsv' H1.out H2.out HQ3.out)
          clear hsv'
          go_wp2
          go_roundw
          case rel => first | exact ⟨k + 1, _, _, by omega, by go_num, HN.out⟩ | ((repeat apply Exists.intro); exact ⟨⟨k + 1, _, _, by omega, by go_num, HN.out⟩, rfl⟩)
          case measure => simp [intOf]; omega
      · have hkk : k = D.ents.length := by omega
        have hfin := hid (state_fin hinv hz1 hzW HW.out.1 HTW.out HB1.out hkk)
        have hfv : ∃ a n c, fv = .slice a n c := by
          rcases hinv.files.own.2 with ⟨h, _⟩ | ⟨g, cap, _, h, _⟩
          · exact ⟨none, 0, 0, h⟩
          · exact ⟨_, _, cap, h⟩
        obtain ⟨fa, fn, fc, hfv⟩ := hfv
        have c0 := cell_row hinv.box 0
        have c1 := cell_row hinv.box 1
        simp at c0 c1
        rw [hfv] at c1
        have hr := hfin.out.1
        have r0 := cell_row hr 0
        have r1 := cell_row hr 1
        have f0 := unfrozen_row hr 0
        have f1 := unfrozen_row hr 1
        simp at r0 r1
        have HFV := hid hfv
        clear hinv Rr R1 hr hfv hkk
        go_wp2
        refine bodyPost_ret (v := .agg #[.int .i64 D.B, .slice fa fn fc]) (by simp [results, Tryz.results14, go_sem, r0, r1]) rfl ?_
        rw [← HFV.out]
        exact ⟨fv, l, rfl, (hfin.out.2 _ _).1, (hfin.out.2 (.int .i64 D.B) fv).2.1, (hfin.out.2 _ _).2.2⟩
end
end Go.Proofs.YtcpncfngadablaaGreatDoor
