import Derived.Test.YtcpncfngadablaaGreatDoorZ03
namespace Go.Proofs.YtcpncfngadablaaGreatDoor
open Go.RowKit Go.Deep

section
variable {w w' : World} {E : Nat → Addr} {lo p mf mt : Nat} {D : DiskC}

/-- A block has been put behind a file's last one. -/
theorem Rep.put (R : Rep w lo p mf mt D) {k : List UInt8} {e0 : Ent} (hf : findE D.ents k = some e0) {nb : List UInt8} (hnb : nb.length = D.B) {w2 w3 : World} {g : Nat} {o : Obj} {v' : Value} (hg : w.heap.size ≤ g) (hg2 : g < w2.heap.size) (h2 : Touch [] w w2) (hb : BytesAt w2 g nb)
    (hown : w3.ownsRow 0 31 1 v' (e0.file.blocks.length + 1) ((e0.lay.bs.map fun b => sliceV b D.B) ++ [sliceV g D.B])) (hgr : (w2.alloc o).grownBy w3 e0.lay.sv.ownBlock) (hfr : v'.ownBlock = e0.lay.sv.ownBlock ∨ v'.ownBlock = some (w2.alloc o).heap.size) (hlo : lo ≤ w.heap.size) :
    Rep (w3.setCell ⟨e0.lay.fb, 1, none⟩ v') lo p mf mt { D with ents := setE k { e0.file with blocks := e0.file.blocks ++ [nb] } ⟨e0.lay.fb, v', e0.lay.bs ++ [g]⟩ D.ents } ∧ Touch e0.lay.foot w (w3.setCell ⟨e0.lay.fb, 1, none⟩ v') ∧
      ∀ b ∈ (⟨e0.lay.fb, v', e0.lay.bs ++ [g]⟩ : Lay).foot, b ∈ e0.lay.foot ∨ w.heap.size ≤ b := by
  obtain ⟨he0, hk0⟩ := findE_mem hf
  have hat := R.each e0 he0
  have hnd := R.parts.1 e0 he0
  have hfb := hat.lt e0.lay.fb (by simp [Lay.foot])
  have hs2 := h2.size
  have hsz : (w2.alloc o).heap.size = w2.heap.size + 1 := by simp
  have hfoot0 : e0.lay.foot = e0.lay.fb :: (e0.lay.sv.ownBlock.toList ++ e0.lay.bs) := rfl
  rw [hfoot0, List.nodup_cons] at hnd
  have hnd2 := hnd.2
  rw [List.nodup_append] at hnd2
  have hsub : ∀ b ∈ (⟨e0.lay.fb, v', e0.lay.bs ++ [g]⟩ : Lay).foot, b ∈ e0.lay.foot ∨ w.heap.size ≤ b := by
    intro b hb
    simp only [Lay.foot, List.mem_cons, List.mem_append, Option.mem_toList, List.not_mem_nil, or_false] at hb ⊢
    rcases hb with h | h | h | h
    · exact .inl (.inl h)
    · rcases hfr with e | e
      · rw [e] at h; exact .inl (.inr (.inl h))
      · rw [e] at h; simp at h; right; omega
    · exact .inl (.inr (.inr h))
    · right; omega
  have ht : Touch e0.lay.foot w (w3.setCell ⟨e0.lay.fb, 1, none⟩ v') := by
    refine (((h2.mono (by simp)).alloc o).grown hgr ?_).setCell (.inl (by simp [Lay.foot])) _
    intro x hx
    exact .inl (by simp [Lay.foot, hx])
  have hrow3 : w3.heap[e0.lay.fb]? = some (.cells #[.int .i64 (if e0.file.shut then 1 else 0), e0.lay.sv] 118 (0, 0)) := by
    rw [hgr.block _ (by omega) (fun e => hnd.1 (by simp [← e])), Below.heap_alloc _ _ _ (by omega), h2.block _ hfb (by simp)]
    exact hat.row
  have hvb : ∀ x, v'.ownBlock = some x → x ≠ e0.lay.fb := by
    intro x hx
    rcases hfr with e | e
    · rw [e] at hx; intro e2; subst e2; exact hnd.1 (by simp [hx])
    · rw [e] at hx; simp at hx; omega
  have hbytes : ∀ (i b : Nat) (bl : List UInt8), e0.lay.bs[i]? = some b → e0.file.blocks[i]? = some bl → bl.length = D.B ∧ BytesAt (w3.setCell ⟨e0.lay.fb, 1, none⟩ v') b bl := by
    intro i b bl hb' hbl
    have h1 := hat.bytes i b bl hb' hbl
    have hm : b ∈ e0.lay.bs := List.mem_of_getElem? hb'
    have hlt := hat.lt b (by simp [Lay.foot, hm])
    refine ⟨h1.1, ?_⟩
    show (w3.setCell _ _).heap[b]? = _
    rw [Below.heap_setCell _ _ _ _ (fun e => hnd.1 (by have e' : b = e0.lay.fb := e; simp [← e', hm])), hgr.block _ (by omega) (fun e => hnd2.2.2 b (by simp [← e]) b hm rfl), Below.heap_alloc _ _ _ (by omega), h2.block _ hlt (by simp)]
    exact h1.2
  refine ⟨R.setFile hf rfl ⟨?_, ⟨?_, ?_⟩, ?_⟩ hsub ?_ ht hlo, ht, hsub⟩
  · rw [heap_setCell_row hrow3 1]
    rfl
  · have := hat.len
    simp [this]
  · rcases hown.2 with ⟨h, h'⟩ | ⟨g', cap, cur, h, hb0, hgg, r1, r2, r3, r4⟩
    · omega
    · refine .inr ⟨g', cap, cur, by rw [h]; simp, hb0, ?_, by simpa using r1, r2, r3, ?_⟩
      · rw [Below.heap_setCell _ _ _ _ (fun e => hvb g' (by rw [h]; rfl) e)]
        exact hgg
      · simp only [List.length_append, List.length_cons, List.length_nil, List.map_append, List.map_cons, List.map_nil]
        exact r4
  · intro i b bl hb' hbl
    have hlen := hat.len
    by_cases hi : i < e0.lay.bs.length
    · rw [List.getElem?_append_left hi] at hb'
      rw [List.getElem?_append_left (by omega)] at hbl
      exact hbytes i b bl hb' hbl
    · have hi' : i = e0.lay.bs.length := by
        have := (List.getElem?_eq_some_iff.1 hb').1
        simp at this
        omega
      subst hi'
      simp at hb'
      rw [hlen] at hbl
      simp at hbl
      subst hb' hbl
      refine ⟨hnb, ?_⟩
      show (w3.setCell _ _).heap[g]? = _
      rw [Below.heap_setCell _ _ _ _ (by show g ≠ e0.lay.fb; omega), hgr.block _ (by omega) (fun e => by have := hat.lt g (by simp [Lay.foot, ← e]); omega), Below.heap_alloc _ _ _ hg2]
      exact hb
  · show (e0.lay.fb :: (v'.ownBlock.toList ++ (e0.lay.bs ++ [g]))).Nodup
    have hgn : g ∉ e0.lay.bs := fun h => by have := hat.lt g (by simp [Lay.foot, h]); omega
    rw [List.nodup_cons, List.nodup_append]
    refine ⟨?_, ?_, ?_, ?_⟩
    · simp only [List.mem_append, Option.mem_toList, List.mem_cons, List.not_mem_nil, or_false, not_or]
      refine ⟨fun h => hvb _ h rfl, fun h => hnd.1 (by simp [h]), by omega⟩
    · cases v'.ownBlock <;> simp
    · rw [List.nodup_append]
      exact ⟨hnd2.2.1, by simp, fun x hx y hy => by simp at hy; subst hy; exact fun e => hgn (e ▸ hx)⟩
    · intro x hx y hy
      simp only [Option.mem_toList] at hx
      simp only [List.mem_append, List.mem_cons, List.not_mem_nil, or_false] at hy
      rcases hfr with e | e
      · rw [e] at hx
        rcases hy with hy | hy
        · exact hnd2.2.2 x (by simp [hx]) y hy
        · have := hat.lt x (by simp [Lay.foot, hx]); omega
      · rw [e] at hx
        simp at hx
        rcases hy with hy | hy
        · have := hat.lt y (by simp [Lay.foot, hy]); omega
        · omega

theorem put1_facts (R : Rep w lo p mf mt D) {k : List UInt8} {e0 : Ent} (hf : findE D.ents k = some e0) {bl : List UInt8} (hbl : bl.length = D.B) {bf bb : Nat} {a : Addr} {c : Nat}
    (hbf : w.heap[bf]? = some (.cells #[ptr e0.lay.fb] 92 (0, 0))) (hbb : w.heap[bb]? = some (.cells #[.slice (some a) bl.length c] 31 (0, 0))) {bd : Nat} (hbd : w.heap[bd]? = some (.cells #[ptr p] 23 (0, 0))) :
    ∀ w2, Touch [] w.drew w2 → w2.cell? ⟨bf, 0, none⟩ = some (ptr e0.lay.fb) ∧ w2.cell? ⟨bb, 0, none⟩ = some (.slice (some a) bl.length c) ∧ w2.cell? ⟨e0.lay.fb, 1, none⟩ = some e0.lay.sv ∧ w2.frozen? ⟨e0.lay.fb, 1, none⟩ = false ∧ (bf < w2.heap.size ∧ bb < w2.heap.size ∧ e0.lay.fb < w2.heap.size) ∧
      Hid ((w2.alloc (.cells #[sliceV w.heap.size bl.length] 31)).ownsRow 0 31 1 e0.lay.sv e0.file.blocks.length (e0.lay.bs.map fun b => sliceV b bl.length) ∧ (w2.alloc (.cells #[sliceV w.heap.size bl.length] 31)).cell? ⟨w2.heap.size, 0, none⟩ = some (sliceV w.heap.size bl.length) ∧
        ∀ w3, (w2.alloc (.cells #[sliceV w.heap.size bl.length] 31)).grownBy w3 e0.lay.sv.ownBlock → w3.cell? ⟨bf, 0, none⟩ = some (ptr e0.lay.fb) ∧ w3.cell? ⟨e0.lay.fb, 1, none⟩ = some e0.lay.sv ∧ w3.frozen? ⟨e0.lay.fb, 1, none⟩ = false ∧ w3.cell? ⟨bd, 0, none⟩ = some (ptr p)) := by
  intro w2 ht
  obtain ⟨he0, hk0⟩ := findE_mem hf
  have hat := R.each e0 he0
  have hnd := R.parts.1 e0 he0
  have hfoot0 : e0.lay.foot = e0.lay.fb :: (e0.lay.sv.ownBlock.toList ++ e0.lay.bs) := rfl
  rw [hfoot0, List.nodup_cons] at hnd
  have hbf2 : w2.heap[bf]? = some (.cells #[ptr e0.lay.fb] 92 (0, 0)) := (ht.block _ (lt_of_block (w := w) hbf) (by simp)).trans hbf
  have hbb2 : w2.heap[bb]? = some (.cells #[.slice (some a) bl.length c] 31 (0, 0)) := (ht.block _ (lt_of_block (w := w) hbb) (by simp)).trans hbb
  have hrow := hat.row
  have hrow2 := (ht.block _ (lt_of_block (w := w) hrow) (by simp)).trans hrow
  have hnb : e0.lay.sv.ownBlock ≠ some bf := by
    intro e
    rcases hat.own.2 with ⟨h, _⟩ | ⟨g, cap, cur, h, _, hg, _⟩
    · rw [h] at e; simp [Value.ownBlock] at e
    · rw [h] at e; simp [Value.ownBlock] at e; subst e; rw [hbf] at hg; simp at hg
  have hbd2 : w2.heap[bd]? = some (.cells #[ptr p] 23 (0, 0)) := (ht.block _ (lt_of_block (w := w) hbd) (by simp)).trans hbd
  have hnd' : e0.lay.sv.ownBlock ≠ some bd := by
    intro e
    rcases hat.own.2 with ⟨h, _⟩ | ⟨g, cap, cur, h, _, hg, _⟩
    · rw [h] at e; simp [Value.ownBlock] at e
    · rw [h] at e; simp [Value.ownBlock] at e; subst e; rw [hbd] at hg; simp at hg
  have hnf : e0.lay.sv.ownBlock ≠ some e0.lay.fb := fun e => hnd.1 (by simp [e])
  refine ⟨cell_row hbf2 0, cell_row hbb2 0, cell_row hrow2 1, unfrozen_row hrow2 1, ⟨lt_of_block hbf2, lt_of_block hbb2, lt_of_block hrow2⟩, ?_, ?_, ?_⟩
  · have := ownsRow_touch (w := w.drew) hat.own ht (by simp)
    rw [← hbl] at this
    exact this.alloc _
  · exact cell_row (heap_alloc_new w2 _) 0
  · intro w3 hg
    have e1 : w3.heap[bf]? = some (.cells #[ptr e0.lay.fb] 92 (0, 0)) := by
      rw [hg.block _ (by simp; have := lt_of_block hbf2; omega) hnb.symm, Below.heap_alloc _ _ _ (lt_of_block hbf2)]; exact hbf2
    have e2 := (hg.block _ (by simp; have := lt_of_block hrow2; omega) hnf.symm).trans ((Below.heap_alloc _ _ _ (lt_of_block hrow2)).trans hrow2)
    have e3 : w3.heap[bd]? = some (.cells #[ptr p] 23 (0, 0)) := by
      rw [hg.block _ (by simp; have := lt_of_block hbd2; omega) hnd'.symm, Below.heap_alloc _ _ _ (lt_of_block hbd2)]; exact hbd2
    exact ⟨cell_row e1 0, cell_row e2 1, unfrozen_row e2 1, cell_row e3 0⟩

theorem put1_fin (R : Rep w lo p mf mt D) {n : List UInt8} {e0 : Ent} (hf : findE D.ents n = some e0) {bl : List UInt8} (hbl : bl.length = D.B) (hlo : lo ≤ w.heap.size) {k : Int} (w2 : World) (o : Obj) (g cap : Nat) (w3 : World)
    (hb : BytesAt w2 w.drew.heap.size (cutB k.toNat bl)) (ht : Touch [] w.drew w2) (hz : w2.heap.size = w.drew.heap.size + 1)
    (r1 : w3.ownsRow 0 31 1 (.slice (some ⟨g, 0, none⟩) (e0.file.blocks.length + 1) cap) (e0.file.blocks.length + 1) ((e0.lay.bs.map fun b => sliceV b bl.length) ++ [sliceV w.heap.size bl.length])) (r2 : (w2.alloc o).grownBy w3 e0.lay.sv.ownBlock) (r3 : some g = e0.lay.sv.ownBlock ∨ g = (w2.alloc o).heap.size) :
    Rep (w3.setCell ⟨e0.lay.fb, 1, none⟩ (.slice (some ⟨g, 0, none⟩) (e0.file.blocks.length + 1) cap)) lo p mf mt { D with ents := setE n { e0.file with blocks := e0.file.blocks ++ [cutB k.toNat bl] } ⟨e0.lay.fb, .slice (some ⟨g, 0, none⟩) (e0.file.blocks.length + 1) cap, e0.lay.bs ++ [w.heap.size]⟩ D.ents } ∧
      Touch e0.lay.foot w (w3.setCell ⟨e0.lay.fb, 1, none⟩ (.slice (some ⟨g, 0, none⟩) (e0.file.blocks.length + 1) cap)) ∧
      ∀ b ∈ (⟨e0.lay.fb, .slice (some ⟨g, 0, none⟩) (e0.file.blocks.length + 1) cap, e0.lay.bs ++ [w.heap.size]⟩ : Lay).foot, b ∈ e0.lay.foot ∨ w.heap.size ≤ b := by
  have ht' : Touch [] w w2 := ((Touch.refl [] w).drew).trans ht (by simp)
  rw [hbl] at r1
  refine R.put hf (by rw [cutB_length]; exact hbl) (Nat.le_refl _) ?_ ht' hb r1 r2 ?_ hlo
  · have : w.drew.heap.size = w.heap.size := rfl
    omega
  · rcases r3 with h | h
    · exact .inl h
    · right; rw [← h]; rfl

set_option maxRecDepth 100000 in
set_option maxHeartbeats 4000000 in
theorem put1_any (R : Rep w lo p mf mt D) {s : ByteArray} (k : Int) (hk : 0 ≤ k) (bf bb bd : Nat) {e0 : Ent} (hf : findE D.ents (nm s) = some e0) (hS : Small D.pub) {bl : List UInt8} (a : Addr) (c : Nat) (hbl : bl.length = D.B) (hc : bl.length ≤ c)
    (hsrc : ∀ j v, (Lib.byteCells bl)[j]? = some v → w.cell? (a.add j) = some v) (ha : a.block < w.heap.size) (hlo : lo ≤ w.heap.size)
    (hbf : w.heap[bf]? = some (.cells #[ptr e0.lay.fb] 92 (0, 0))) (hbb : w.heap[bb]? = some (.cells #[.slice (some a) bl.length c] 31 (0, 0))) (hbd : w.heap[bd]? = some (.cells #[ptr p] 23 (0, 0))) :
    Calls Tryz.prog 70 #[.int .i64 k, ptr bf, ptr bb, ptr bd] w fun e w' => e = .returned (.tuple #[]) ∧
      (∃ L, Rep w' lo p mf mt { D with ents := setE (nm s) { e0.file with blocks := e0.file.blocks ++ [cutB k.toNat bl] } L D.ents, c := { D.c with used := D.c.used + 1, most := max D.c.most (D.c.used + 1) } } ∧ ∀ b ∈ L.foot, b ∈ e0.lay.foot ∨ w.heap.size ≤ b) ∧ Touch (p :: e0.lay.foot) w w' := by
  have hat := R.each e0 (findE_mem hf).1
  have cf := cell_row hbf 0
  have cb := cell_row hbb 0
  have c1 := cell_row hat.row 1
  simp at cf cb c1
  have hB := hS.size
  simp only [DiskC.pub] at hB
  have hn := hS.blocks e0.pub (List.mem_map.2 ⟨e0, (findE_mem hf).1, rfl⟩)
  simp only [Ent.pub] at hn
  have lbf := lt_of_block hbf
  have lfb := lt_of_block hat.row
  have lbb := lt_of_block hbb
  have hpos : 0 < bl.length := by omega
  have HC := hid (copyBlock_any bl a c k w.drew hpos hc (by omega) hk (fun j v h => hsrc j v h) ha)
  have HK := hid (put1_facts R hf hbl hbf hbb hbd)
  have hne : bd ≠ e0.lay.fb := by intro e; have := hat.row; rw [← e, hbd] at this; simp at this
  have HFIN := hid (put1_fin (k := k) R hf hbl hlo)
  have hu1 := hS.used.1
  have hu2 := hS.used.2
  simp only [DiskC.pub] at hu1 hu2
  clear hat hbf hbb hbd hf hS hB hbl hsrc R
  go_enter Tryz.func70, Tryz.ntmps70
  go_wp2
  go_region_law (first
    | (refine step_append_fresh rfl _ _ rfl e0.lay.sv e0.file.blocks.length _ ⟨w2.heap.size, 0, none⟩ (sliceV w.heap.size bl.length) rfl rfl ho2.out.1 ho2.out.2.1 rfl hn (fun g cap w3 r1 r2 r3 => ?_); obtain ⟨z1, z2, z3, z4⟩ := ho2.out.2.2 w3 r2; have H1 := hid r1; have H2 := hid r2; have H3 := hid r3; clear r1 r2 r3)
    | (go_simp; go_at_call 71; refine HC.out.mono ?_; rintro e w2 ⟨rfl, hb2, ht2, hz2⟩; obtain ⟨y1, y2, y3, y4, ⟨l1, l2, l3⟩, ho2⟩ := HK.out w2 ht2; have HB2 := hid hb2; have HZ2 := hid hz2; have HT2 := hid ht2; clear hb2 hz2 ht2))
  all_goals
    obtain ⟨R4, t4, s4⟩ := HFIN.out w2 _ g cap w3 HB2.out HT2.out HZ2.out H1.out H2.out H3.out
    have HR4 := hid R4
    clear R4
    go_wp2_with (go_at_call 59; refine (use_any HR4.out 1 hu1 hu2 (by omega) (by omega)).mono ?_; rintro e w5 ⟨rfl, hR5, ht5⟩)
    go_end0
    exact ⟨rfl, ⟨_, hR5, s4⟩, (t4.mono (G := p :: e0.lay.foot) (fun b hb => List.mem_cons_of_mem _ hb)).trans ht5 (by simp)⟩
end
end Go.Proofs.YtcpncfngadablaaGreatDoor
namespace Go.Proofs.YtcpncfngadablaaGreatDoor
open Go.RowKit Go.Deep

section
variable {w w' : World} {E : Nat → Addr} {lo p mf mt : Nat} {D : DiskC}

/-! ### put -/
set_option maxHeartbeats 400000 in
theorem put_err (s : ByteArray) (i : Nat) (bv : Value)
    (hf : ∀ o1 o2 : Obj, Calls Tryz.prog 65 #[ptr p, .string s] ((w.alloc o1).alloc o2) fun e w' => e = .returned (.tuple #[.pointer none, errV E i]) ∧ ∃ n, w' = ((w.alloc o1).alloc o2).drewN n) {sa : Option Addr} {n c : Nat} (hbv : bv = .slice sa n c) :
    Calls Tryz.prog 35 #[ptr p, .string s, bv] w fun e w' => e = .returned (errV E i) ∧ Touch [] w w' := by
  subst hbv
  have H := hid hf
  clear hf
  go_enter Tryz.func35, Tryz.ntmps35
  go_wp2_with (go_at_call 65; refine (H.out _ _).mono ?_; rintro e w1 ⟨rfl, hq⟩; have HQ := hid (Quiet.touch hq []); clear hq)
  go_ret
  exact ⟨rfl, ((((Touch.refl [] w).alloc _).alloc _).trans HQ.out (by simp)).alloc _⟩

set_option maxRecDepth 100000 in
set_option maxHeartbeats 400000 in
theorem put_no (V : Env w lo E) (R : Rep w lo p mf mt D) (s : ByteArray) (ho : D.on = true) (hn : nameB s = true) {e0 : Ent} (hf : findE D.ents (nm s) = some e0) {sa : Option Addr} {n c : Nat} (j : Nat)
    (hj : (e0.file.shut = true ∧ j = 6) ∨ (e0.file.shut = false ∧ n ≠ D.B ∧ j = 8) ∨ (e0.file.shut = false ∧ n = D.B ∧ D.Bs ≤ D.c.used ∧ j = 9)) :
    Calls Tryz.prog 35 #[ptr p, .string s, .slice sa n c] w fun e w' => e = .returned (errV E j) ∧ Touch [] w w' := by
  obtain ⟨W, hW⟩ : ∃ W, W = (w.alloc (.cells #[ptr p] 23)).alloc (.cells #[.slice sa n c] 31) := ⟨_, rfl⟩
  have hW1 : W.heap[w.heap.size]? = some (.cells #[ptr p] 23) ∧ W.heap[w.heap.size + 1]? = some (.cells #[.slice sa n c] 31) := by rw [hW]; exact heap_two w _ _
  have hTW : Touch [] w W := by rw [hW]; exact ((Touch.refl [] w).alloc _).alloc _
  have VW : Env W lo E := V.touch hTW (by simp)
  have RW : Rep W lo p mf mt D := R.touch hTW (by simp)
  have H := hid (find_some RW s ho hn hf)
  have hat := RW.each e0 (findE_mem hf).1
  have hrow := hat.row
  have lfb := lt_of_block hrow
  have hp := lt_of_block RW.row
  have c0 := cell_row hrow 0
  simp at c0
  have x0 := RW.cell 0
  have x1 := RW.cell 1
  have x10 := RW.cell 10
  simp only [dRow] at x0 x1 x10
  have c6 := VW.sents.var 6 (by omega)
  have c8 := VW.sents.var 8 (by omega)
  have c9 := VW.sents.var 9 (by omega)
  have l9 : 9 < W.heap.size := by have := VW.vars; have := VW.room; omega
  have cd := cell_row hW1.1 0
  have cb := cell_row hW1.2 0
  have lz : w.heap.size + 1 < W.heap.size := lt_of_block hW1.2
  simp at cd cb
  have HE := hid hW
  have HTW := hid hTW
  clear hf R RW hW1 hTW hW V VW hat hrow
  rcases hj with ⟨hs, rfl⟩ | ⟨hs, hne, rfl⟩ | ⟨hs, rfl, hu, rfl⟩
  all_goals
    rw [hs] at c0
    simp at c0
    clear hs
  · go_enter Tryz.func35, Tryz.ntmps35
    go_wp2_with fail
    rw [← HE.out]
    refine H.out.mono ?_
    rintro e w1 ⟨rfl, hq⟩
    have d0 := (Quiet.cell hq _).trans c0
    have d6 := (Quiet.cell hq _).trans c6
    have ee := Quiet.heap hq
    have l1 : e0.lay.fb < w1.heap.size := by rw [ee]; exact lfb
    have l6 : 6 < w1.heap.size := by rw [ee]; omega
    have HQ := hid (Quiet.touch hq [])
    clear hq ee c0 c6 c8 c9 x0 x1 x10 cd cb lfb hp l9 lz
    go_wp2
    go_ret
    exact ⟨rfl, (HTW.out.trans HQ.out (by simp)).alloc _⟩
  · have hnb : ((n : Int) != (D.B : Int)) = true := by simp; omega
    go_enter Tryz.func35, Tryz.ntmps35
    go_wp2_with fail
    rw [← HE.out]
    refine H.out.mono ?_
    rintro e w1 ⟨rfl, hq⟩
    have d0 := (Quiet.cell hq _).trans c0
    have d8 := (Quiet.cell hq _).trans c8
    have y0 := (Quiet.cell hq _).trans x0
    have yd := (Quiet.cell hq _).trans cd
    have yb := (Quiet.cell hq _).trans cb
    have ee := Quiet.heap hq
    have l1 : e0.lay.fb < w1.heap.size := by rw [ee]; exact lfb
    have l2 : p < w1.heap.size := by rw [ee]; exact hp
    have l3 : w.heap.size < w1.heap.size := by rw [ee]; omega
    have l4 : w.heap.size + 1 < w1.heap.size := by rw [ee]; omega
    have l8 : 8 < w1.heap.size := by rw [ee]; omega
    have HQ := hid (Quiet.touch hq [])
    clear hq ee c0 c6 c8 c9 x0 x1 x10 cd cb lfb hp l9 lz hne
    go_wp2
    go_quiet (fail)
    go_wp2
    go_ret
    exact ⟨rfl, ((HTW.out.trans HQ.out (by simp)).alloc _).drewN _⟩
  · have hnb : ((D.B : Int) != (D.B : Int)) = false := by simp
    go_enter Tryz.func35, Tryz.ntmps35
    go_wp2_with fail
    rw [← HE.out]
    refine H.out.mono ?_
    rintro e w1 ⟨rfl, hq⟩
    have d0 := (Quiet.cell hq _).trans c0
    have d9 := (Quiet.cell hq _).trans c9
    have y0 := (Quiet.cell hq _).trans x0
    have y1 := (Quiet.cell hq _).trans x1
    have y10 := (Quiet.cell hq _).trans x10
    have yd := (Quiet.cell hq _).trans cd
    have yb := (Quiet.cell hq _).trans cb
    have ee := Quiet.heap hq
    have l1 : e0.lay.fb < w1.heap.size := by rw [ee]; exact lfb
    have l2 : p < w1.heap.size := by rw [ee]; exact hp
    have l3 : w.heap.size < w1.heap.size := by rw [ee]; omega
    have l4 : w.heap.size + 1 < w1.heap.size := by rw [ee]; omega
    have l9' : 9 < w1.heap.size := by rw [ee]; omega
    have HQ := hid (Quiet.touch hq [])
    clear hq ee c0 c6 c8 c9 x0 x1 x10 cd cb lfb hp l9 lz
    go_wp2
    go_quiet (fail)
    go_wp2
    go_quiet (fail)
    go_wp2
    go_ret
    exact ⟨rfl, (((HTW.out.trans HQ.out (by simp)).alloc _).drewN _)⟩
end
end Go.Proofs.YtcpncfngadablaaGreatDoor
namespace Go.Proofs.YtcpncfngadablaaGreatDoor
open Go.RowKit Go.Deep

section
variable {w w' : World} {E : Nat → Addr} {lo p mf mt : Nat} {D : DiskC}

set_option maxRecDepth 100000 in
set_option maxHeartbeats 400000 in
theorem carry_put (R : Rep w lo p mf mt D) {s : ByteArray} {x k y : Int} (bf bb bd : Nat) (hk1 : (k == 1) = false) (hk2 : (k == 2) = false) {e0 : Ent} (hf : findE D.ents (nm s) = some e0) (hS : Small D.pub) {bl : List UInt8} (a : Addr) (c : Nat) (hbl : bl.length = D.B) (hc : bl.length ≤ c)
    (hsrc : ∀ j v, (Lib.byteCells bl)[j]? = some v → w.cell? (a.add j) = some v) (ha : a.block < w.heap.size) (hlo : lo ≤ w.heap.size)
    (hbf : w.heap[bf]? = some (.cells #[ptr e0.lay.fb] 92 (0, 0))) (hbb : w.heap[bb]? = some (.cells #[.slice (some a) bl.length c] 31 (0, 0))) (hbd : w.heap[bd]? = some (.cells #[ptr p] 23 (0, 0))) :
    Calls Tryz.prog 67 #[ptr p, .agg #[.int .i64 x, .int .i64 k, .int .i64 y], .func (.func 70) #[] #[ptr bf, ptr bb, ptr bd]] w fun e w' => e = .returned .nilIface ∧
      (∃ L, Rep w' lo p mf mt { D with ents := setE (nm s) { e0.file with blocks := e0.file.blocks ++ [bl] } L D.ents, c := { D.c with used := D.c.used + 1, most := max D.c.most (D.c.used + 1) } } ∧ ∀ b ∈ L.foot, b ∈ e0.lay.foot ∨ w.heap.size ≤ b) ∧ Touch (p :: e0.lay.foot) w w' := by
  have k0 := R.cell 0
  simp only [dRow] at k0
  have hp := lt_of_block R.row
  have hcut : cutB ((D.B : Nat) : Int).toNat bl = bl := cutB_whole (by rw [hbl]; simp)
  have hadd : ∀ j, (a.add j).block = a.block := fun j => by unfold Addr.add; split <;> rfl
  have hsrc' : ∀ (o : Obj) j v, (Lib.byteCells bl)[j]? = some v → (w.alloc o).cell? (a.add j) = some v := fun o j v h => (World.cell?_of_block (Below.heap_alloc w o _ (by rw [hadd]; exact ha))).trans (hsrc j v h)
  have H := hid (fun o : Obj => put1_any (R.alloc o) (D.B : Int) (by omega) bf bb bd hf hS a c hbl hc (hsrc' o) (by simp; omega) (by simp; omega) ((Below.heap_alloc w o bf (lt_of_block hbf)).trans hbf) ((Below.heap_alloc w o bb (lt_of_block hbb)).trans hbb) ((Below.heap_alloc w o bd (lt_of_block hbd)).trans hbd))
  rw [hcut] at H
  clear hbf hbb hbd hf hS hsrc hsrc' hadd ha hbl hcut
  go_enter Tryz.func67, Tryz.ntmps67
  go_wp2_with (go_at_call 70; refine (H.out _).mono ?_; rintro e w1 ⟨rfl, ⟨L, hR, hL⟩, ht⟩)
  go_ret
  refine ⟨rfl, ⟨L, hR, fun b hb => ?_⟩, ((Touch.refl _ w).alloc _).trans ht (fun b hb => .inl hb)⟩
  rcases hL b hb with h | h
  · exact .inl h
  · right; simp at h; omega


theorem put_row {w1 w2 : World} {b n : Nat} {o o' : Obj} (hb : w1.heap[b]? = some o') (ht : Touch [p, mt] ((w1.alloc o).drewN n) w2) (h1 : p < b) (h2 : mt < b) : w2.heap[b]? = some o' :=
  (ht.block b (by show b < (w1.alloc o).heap.size; have := lt_of_block hb; simp; omega) (by simp; omega)).trans ((Below.heap_alloc w1 o b (lt_of_block hb)).trans hb)
theorem put_new {w1 w2 : World} {n : Nat} {o : Obj} (ht : Touch [p, mt] ((w1.alloc o).drewN n) w2) (h1 : p < w1.heap.size) (h2 : mt < w1.heap.size) : w2.heap[w1.heap.size]? = some o :=
  (ht.block _ (by show w1.heap.size < (w1.alloc o).heap.size; simp) (by simp; omega)).trans (heap_alloc_new w1 o)

theorem put_keeps {w2 w3 : World} {n : List UInt8} (Rw : Rep w lo p mf mt D) {e0 : Ent} (hf : findE D.ents n = some e0) (ht : Touch (p :: e0.lay.foot) w2 w3) (hl : w.heap.size < w2.heap.size) : w3.cell? ⟨w.heap.size, 0, none⟩ = w2.cell? ⟨w.heap.size, 0, none⟩ := by
  refine ht.cell (p := ⟨w.heap.size, 0, none⟩) hl ?_
  intro h
  rcases List.mem_cons.1 h with h | h
  · have := lt_of_block Rw.row
    have h' : w.heap.size = p := h
    omega
  · have := (Rw.ent_ne (findE_mem hf).1 h).2.2.2.1
    have h' : (⟨w.heap.size, 0, none⟩ : Addr).block = w.heap.size := rfl
    omega

theorem carry_put_at {W w1 w2 : World} {s : ByteArray} {x k y : Int} {bf bb bd n : Nat} {o : Obj} (R : Rep w2 lo p mf mt D) (hk1 : (k == 1) = false) (hk2 : (k == 2) = false) {e0 : Ent} (hf : findE D.ents (nm s) = some e0) (hS : Small D.pub) {bl : List UInt8} {a : Addr} {c : Nat} (hbl : bl.length = D.B) (hc : bl.length ≤ c)
    (hsrc : ∀ j v, (Lib.byteCells bl)[j]? = some v → w.cell? (a.add j) = some v) (ha : a.block < w.heap.size) (hlo : lo ≤ w.heap.size) (hTW : Touch [] w W) (hq : Quiet W w1) (ht : Touch [p, mt] ((w1.alloc o).drewN n) w2) (hp : a.block ≠ p) (hm : a.block ≠ mt)
    (hbf : w2.heap[bf]? = some (.cells #[ptr e0.lay.fb] 92 (0, 0))) (hbb : w2.heap[bb]? = some (.cells #[.slice (some a) D.B c] 31 (0, 0))) (hbd : w2.heap[bd]? = some (.cells #[ptr p] 23 (0, 0))) :
    Calls Tryz.prog 67 #[ptr p, .agg #[.int .i64 x, .int .i64 k, .int .i64 y], .func (.func 70) #[] #[ptr bf, ptr bb, ptr bd]] w2 fun e w' => e = .returned .nilIface ∧
      (∃ L, Rep w' lo p mf mt { D with ents := setE (nm s) { e0.file with blocks := e0.file.blocks ++ [bl] } L D.ents, c := { D.c with used := D.c.used + 1, most := max D.c.most (D.c.used + 1) } } ∧ ∀ b ∈ L.foot, b ∈ e0.lay.foot ∨ w2.heap.size ≤ b) ∧ Touch (p :: e0.lay.foot) w2 w' := by
  have t2 : Touch [p, mt] w w2 := (((((hTW.mono (by simp)).trans (Quiet.touch hq []) (by simp))).alloc _).drewN _).trans ht (by simp)
  have hadd : ∀ j, (a.add j).block = a.block := fun j => by unfold Addr.add; split <;> rfl
  rw [← hbl] at hbb
  refine carry_put R bf bb bd hk1 hk2 hf hS a c hbl hc (fun j v h => ?_) (by have := t2.size; omega) (Nat.le_trans hlo t2.size) hbf hbb hbd
  rw [t2.cell (p := a.add j) (by rw [hadd]; omega) (by rw [hadd]; simp [hp, hm])]
  exact hsrc j v h

set_option maxRecDepth 100000 in
set_option maxHeartbeats 400000 in
theorem put_ok (R : Rep w lo p mf mt D) (s : ByteArray) (ho : D.on = true) (hn : nameB s = true) {e0 : Ent} (hf : findE D.ents (nm s) = some e0) (hs : e0.file.shut = false) {bl : List UInt8} {a : Addr} {c : Nat} (hbl : bl.length = D.B) (hc : bl.length ≤ c)
    (hsrc : ∀ j v, (Lib.byteCells bl)[j]? = some v → w.cell? (a.add j) = some v) (ha : a.block < w.heap.size) (hpl : a.block ≠ p) (hml : a.block ≠ mt) (hlo : lo ≤ w.heap.size) (hu : D.c.used < D.Bs) {x k y : Int} (hT : TroubleIs D.T D.c.calls x k y) (hk1 : (k == 1) = false) (hk2 : (k == 2) = false) (hS : Small D.pub) (hcc : D.c.calls + 1 ≤ 1099511627776) :
    Calls Tryz.prog 35 #[ptr p, .string s, .slice (some a) D.B c] w fun e w' => e = .returned .nilIface ∧
      (∃ L, Rep w' lo p mf mt { D.numbered with ents := setE (nm s) { e0.file with blocks := e0.file.blocks ++ [bl] } L D.ents, c := { D.numbered.c with used := D.c.used + 1, most := max D.c.most (D.c.used + 1) } } ∧ ∀ b ∈ L.foot, b ∈ e0.lay.foot ∨ w.heap.size ≤ b) ∧ Touch (p :: mt :: e0.lay.foot) w w' := by
  obtain ⟨W, hW⟩ : ∃ W, W = (w.alloc (.cells #[ptr p] 23)).alloc (.cells #[.slice (some a) D.B c] 31) := ⟨_, rfl⟩
  have hW1 : W.heap[w.heap.size]? = some (.cells #[ptr p] 23) ∧ W.heap[w.heap.size + 1]? = some (.cells #[.slice (some a) D.B c] 31) := by rw [hW]; exact heap_two w _ _
  have hTW : Touch [] w W := by rw [hW]; exact ((Touch.refl [] w).alloc _).alloc _
  have RW : Rep W lo p mf mt D := R.touch hTW (by simp)
  have H := hid (find_some RW s ho hn hf)
  have hrow := (RW.each e0 (findE_mem hf).1).row
  have lfb := lt_of_block hrow
  have hp := lt_of_block RW.row
  have hpw := lt_of_block R.row
  have HR0 := hid R
  have hmw : mt < w.heap.size := R.lt mt (by simp [DiskC.foot])
  have c0 := cell_row hrow 0
  rw [hs] at c0
  simp at c0
  have x0 := RW.cell 0
  have x1 := RW.cell 1
  have x10 := RW.cell 10
  simp only [dRow] at x0 x1 x10
  have cd := cell_row hW1.1 0
  have cb := cell_row hW1.2 0
  have lz : w.heap.size + 1 < W.heap.size := lt_of_block hW1.2
  simp at cd cb
  have hnb : ((D.B : Int) != (D.B : Int)) = false := by simp
  have h0 := hS.calls.1
  have h1 := hS.calls.2
  simp only [DiskC.pub] at h0 h1
  have HE := hid hW
  have HTW := hid hTW
  have HR := hid RW
  have HF := hid hf
  have HS := hid (small_number hS hcc)
  have HW := hid hW1
  have HBL := hid hbl
  have HSRC := hid hsrc
  clear hf R RW hW1 hTW hW hrow hS hs hbl hsrc
  go_enter Tryz.func35, Tryz.ntmps35
  go_wp2_with fail
  rw [← HE.out]
  refine H.out.mono ?_
  rintro e w1 ⟨rfl, hq⟩
  have d0 := (Quiet.cell hq _).trans c0
  have y0 := (Quiet.cell hq _).trans x0
  have y1 := (Quiet.cell hq _).trans x1
  have y10 := (Quiet.cell hq _).trans x10
  have yd := (Quiet.cell hq _).trans cd
  have yb := (Quiet.cell hq _).trans cb
  have ee := Quiet.heap hq
  have l1 : e0.lay.fb < w1.heap.size := by rw [ee]; exact lfb
  have l2 : p < w1.heap.size := by rw [ee]; exact hp
  have l3 : w.heap.size < w1.heap.size := by rw [ee]; omega
  have l4 : w.heap.size + 1 < w1.heap.size := by rw [ee]; omega
  have hb1 : Hid (w1.heap[w.heap.size]? = some (.cells #[ptr p] 23)) := (congrArg (fun h => h[w.heap.size]?) ee).trans HW.out.1
  have hb2 : Hid (w1.heap[w.heap.size + 1]? = some (.cells #[.slice (some a) D.B c] 31)) := (congrArg (fun h => h[w.heap.size + 1]?) ee).trans HW.out.2
  have HQ := hid hq
  clear hq ee c0 x0 x1 x10 cd cb lfb hp lz
  go_wp2
  go_quiet (fail)
  go_wp2
  go_quiet (fail)
  go_wp2
  go_region_held3 (fun W' => W'.cell? ⟨w.heap.size, 0, none⟩ = some (ptr p)) (go_keep)
    (first
      | (go_at_call 68; refine (number_any (((Quiet.rep HQ.out HR.out).alloc (.cells #[ptr e0.lay.fb] 92)).drewN _) hT h0 h1).mono ?_; rintro e w2 ⟨rfl, hR2, ht2⟩; have r0 := hid (put_row (o := .cells #[ptr e0.lay.fb] 92) hb1.out ht2 hpw hmw); have r1 := hid (put_row (o := .cells #[ptr e0.lay.fb] 92) hb2.out ht2 (by omega) (by omega)); have r2 := hid (put_new (o := .cells #[ptr e0.lay.fb] 92) ht2 l2 (by omega)); have z2 : w2.cell? ⟨w.heap.size, 0, none⟩ = some (ptr p) := cell_row r0.out 0)
      | (go_at_call 67; refine (carry_put_at hR2 hk1 hk2 HF.out HS.out HBL.out hc HSRC.out ha hlo HTW.out HQ.out ht2 hpl hml r2.out r1.out r0.out).mono ?_; rintro e w3 ⟨rfl, ⟨L, hR3, hL⟩, ht3⟩; have z3 : w3.cell? ⟨w.heap.size, 0, none⟩ = some (ptr p) := (put_keeps HR0.out HF.out ht3 (lt_of_block r0.out)).trans z2))
  all_goals
    go_wp2
    go_ret
    have t2 : Touch [p, mt] w w2 := (((((HTW.out.mono (by simp)).trans (Quiet.touch HQ.out []) (by simp))).alloc _).drewN _).trans ht2 (by simp)
    refine ⟨rfl, ⟨L, hR3, fun b hb => ?_⟩, (t2.mono (by simp)).trans ht3 (fun b hb => by rcases List.mem_cons.1 hb with h | h <;> simp [h])⟩
    rcases hL b hb with h | h
    · exact .inl h
    · right; have := t2.size; omega

/-! ### Append -/
set_option maxRecDepth 100000 in
set_option maxHeartbeats 400000 in
theorem answer_full (S : Sents w E) (R : Rep w lo p mf mt D) (h0 : 0 ≤ D.c.full) (h1 : D.c.full ≤ 1099511627776) (S' : ∀ v, Sents (w.setCell ⟨p, 9, none⟩ v) E) :
    Calls Tryz.prog 33 #[ptr p, errV E 9] w fun e w' => e = .returned (.int .i64 17) ∧ Rep w' lo p mf mt { D with c := { D.c with full := D.c.full + 1 } } ∧ Touch [p] w w' := by
  have c1 := S.var 1 (by omega)
  have c9 := S.var 9 (by omega)
  have k9 := R.cell 9
  have f9 := R.unfrozen 9
  simp only [dRow] at k9
  have H1 := hid (is_at S 9 1 (by omega) (by omega))
  have H9 := hid (is_at S 9 9 (by omega) (by omega))
  have HT := hid (fun v => tell_err (S' v) 9 (by omega))
  have HR := hid R
  clear S' R
  go_enter Tryz.func33, Tryz.ntmps33
  go_wp2_with fail
  refine H1.out.mono ?_
  rintro e w1 ⟨rfl, rfl⟩
  go_wp2_with fail
  refine H9.out.mono ?_
  rintro e w1 ⟨rfl, rfl⟩
  go_wp2_with fail
  refine (HT.out _).mono ?_
  rintro e w1 ⟨rfl, rfl⟩
  go_wp2
  go_ret
  have t : Touch [p] w1 (w1.setCell ⟨p, 9, none⟩ (.int .i64 (D.c.full + 1))) := (Touch.refl [p] w1).setCell (by simp) _
  refine ⟨rfl, HR.out.setRow rfl rfl rfl t ?_, t⟩
  rw [heap_setCell_row HR.out.row 9]
  rfl

def appendA (s : ByteArray) (bl : List UInt8) (A : PubA) : Int × PubA :=
  if nameB s then
    match findA A.files (nm s) with
    | none => (12, A)
    | some f =>
      if f.shut then (14, A) else if bl.length ≠ A.B then (16, A) else if A.Bs ≤ A.c.used then (17, { A with c := { A.c with full := A.c.full + 1 } })
      else (0, { A with files := setA (nm s) { f with blocks := f.blocks ++ [bl] } A.files, c := { A.c with calls := A.c.calls + 1, appends := A.c.appends + 1, used := A.c.used + 1, most := max A.c.most (A.c.used + 1) } })
  else (11, A)



/-- the block that is handed in: bytes outside the disk's memory, or none. -/
structure Hand (w : World) (p mf mt : Nat) (D : DiskC) (sa : Option Addr) (n c : Nat) (bl : List UInt8) : Prop where
  len : bl.length = n
  cap : n ≤ c
  at_ : 0 < n → ∃ a, sa = some a ∧ a.block < w.heap.size ∧ a.block ∉ D.foot p mf mt ∧ ∀ j v, (Lib.byteCells bl)[j]? = some v → w.cell? (a.add j) = some v

end
end Go.Proofs.YtcpncfngadablaaGreatDoor
namespace Go.Proofs.YtcpncfngadablaaGreatDoor
open Go.RowKit Go.Deep

section
variable {w w' : World} {E : Nat → Addr} {lo p mf mt : Nat} {D : DiskC}

set_option maxHeartbeats 400000 in
theorem On_any (R : Rep w lo p mf mt D) : Calls Tryz.prog 51 #[ptr p] w fun e w' => e = .returned (.bool D.on) ∧ w' = w := by
  have k2 := R.cell 2
  simp only [dRow] at k2
  go_enter Tryz.func51, Tryz.ntmps51
  go_wp2
  go_ret
  exact ⟨rfl, rfl⟩

/-- the counts as a value. -/
def Cnt.val (c : Cnt) : Value := .agg #[.int .i64 c.calls, .int .i64 c.reads, .int .i64 c.appends, .int .i64 c.faults, .int .i64 c.full, .int .i64 c.used, .int .i64 c.most]

set_option maxRecDepth 100000 in
set_option maxHeartbeats 400000 in
theorem Counts_any (R : Rep w lo p mf mt D) : Calls Tryz.prog 31 #[ptr p] w fun e w' => e = .returned D.c.val ∧ Below w.heap.size w w' := by
  have k5 := R.cell 5
  have k6 := R.cell 6
  have k7 := R.cell 7
  have k8 := R.cell 8
  have k9 := R.cell 9
  have k10 := R.cell 10
  have k11 := R.cell 11
  simp only [dRow] at k5 k6 k7 k8 k9 k10 k11
  have hp := lt_of_block R.row
  unfold Cnt.val
  go_enter Tryz.func31, Tryz.ntmps31
  go_wp2
  refine bodyPost_ret (v := .agg #[.int .i64 D.c.calls, .int .i64 D.c.reads, .int .i64 D.c.appends, .int .i64 D.c.faults, .int .i64 D.c.full, .int .i64 D.c.used, .int .i64 D.c.most]) (by simp [results, Tryz.results31, go_sem]) rfl ⟨rfl, ?_⟩
  exact (Below.refl _ w).alloc (Nat.le_refl _) _

set_option maxHeartbeats 400000 in
theorem Names_any (R : Rep w lo p mf mt D) (ho : D.on = true) (hS : D.ents.length ≤ 1099511627776) :
    Calls Tryz.prog 30 #[ptr p] w fun e w' => ∃ v, e = .returned v ∧ w'.ownsRow w.heap.size 9 1 v D.ents.length ((D.ents.map Ent.name).map encStr) ∧ (v = .slice none 0 0 ↔ D.ents = []) ∧ Below w.heap.size w w' := by
  have k2 := R.cell 2
  simp only [dRow, ho] at k2
  have H := hid (rising_any R hS)
  go_enter Tryz.func30, Tryz.ntmps30
  go_wp2_with (go_at_call 37; refine H.out.mono ?_; rintro e w1 ⟨v, rfl, h1, h2, h3⟩; have H1 := hid h1; have H2 := hid h2; clear h1 h2)
  go_ret
  exact ⟨v, rfl, H1.out, H2.out, h3⟩

/-! ### Spoil -/
theorem Quiet.frozen (h : Quiet w w') (a : Addr) : w'.frozen? a = w.frozen? a := by obtain ⟨n, rfl⟩ := h; rfl
set_option maxHeartbeats 400000 in
theorem spoil_err (s : ByteArray) (i bit : Int) (j : Nat)
    (hf : Calls Tryz.prog 92 #[ptr p, .string s] w fun e w' => e = .returned (.tuple #[.pointer none, errV E j]) ∧ ∃ n, w' = w.drewN n) :
    Calls Tryz.prog 66 #[ptr p, .string s, .int .i64 i, .int .i64 bit] w fun e w' => e = .returned (errV E j) ∧ Touch [] w w' := by
  have H := hid hf
  clear hf
  go_enter Tryz.func66, Tryz.ntmps66
  go_wp2_with (go_at_call 92; refine H.out.mono ?_; rintro e w1 ⟨rfl, hq⟩; have HQ := hid (Quiet.touch hq []); clear hq)
  go_ret
  exact ⟨rfl, HQ.out⟩

set_option maxRecDepth 100000 in
set_option maxHeartbeats 400000 in
theorem spoil_out (V : Env w lo E) (R : Rep w lo p mf mt D) (s : ByteArray) (i bit : Int) (hn : nameB s = true) {e0 : Ent} (hf : findE D.ents (nm s) = some e0) (hB : 64 ≤ D.B ∧ D.B ≤ 65536) (hi : ¬ ((0 ≤ i ∧ i < e0.file.blocks.length) ∧ 0 ≤ bit ∧ bit < 8 * D.B)) :
    Calls Tryz.prog 66 #[ptr p, .string s, .int .i64 i, .int .i64 bit] w fun e w' => e = .returned (errV E 8) ∧ Touch [] w w' := by
  have H := hid (look_some R s hn hf)
  have hat := R.each e0 (findE_mem hf).1
  have k0 := R.cell 0
  simp only [dRow] at k0
  have c8 := V.sents.var 8 (by omega)
  have HA := hid hat
  obtain ⟨hB1, hB2⟩ := hB
  clear hf hat
  by_cases h1 : 0 ≤ i ∧ i < (e0.file.blocks.length : Int)
  · have hd : decide (0 ≤ i ∧ i < (e0.file.blocks.length : Int)) = true := by simpa using h1
    by_cases h2 : bit < 0
    · clear hi h1
      go_enter Tryz.func66, Tryz.ntmps66
      go_wp2_with (first
        | (go_at_call 92; refine H.out.mono ?_; rintro e w1 ⟨rfl, hq⟩; have d0 := (Quiet.cell hq _).trans k0; have d8 := (Quiet.cell hq _).trans c8; have HQ := hid hq; clear hq k0 c8)
        | (go_at_call 90; refine (has_any (HA.out.kept fun b _ => by rw [Quiet.heap HQ.out]) i).mono ?_; rintro e w2 ⟨rfl, rfl⟩))
      go_ret
      exact ⟨rfl, Quiet.touch HQ.out []⟩
    · have h3 : 8 * (D.B : Int) ≤ bit := by omega
      have h4 : 0 ≤ bit := by omega
      clear hi h1 h2
      go_enter Tryz.func66, Tryz.ntmps66
      go_wp2_with (first
        | (go_at_call 92; refine H.out.mono ?_; rintro e w1 ⟨rfl, hq⟩; have d0 := (Quiet.cell hq _).trans k0; have d8 := (Quiet.cell hq _).trans c8; have HQ := hid hq; clear hq k0 c8)
        | (go_at_call 90; refine (has_any (HA.out.kept fun b _ => by rw [Quiet.heap HQ.out]) i).mono ?_; rintro e w2 ⟨rfl, rfl⟩))
      go_ret
      exact ⟨rfl, Quiet.touch HQ.out []⟩
  · have hd : decide (0 ≤ i ∧ i < (e0.file.blocks.length : Int)) = false := by simpa using h1
    clear hi h1
    go_enter Tryz.func66, Tryz.ntmps66
    go_wp2_with (first
      | (go_at_call 92; refine H.out.mono ?_; rintro e w1 ⟨rfl, hq⟩; have d0 := (Quiet.cell hq _).trans k0; have d8 := (Quiet.cell hq _).trans c8; have HQ := hid hq; clear hq k0 c8)
      | (go_at_call 90; refine (has_any (HA.out.kept fun b _ => by rw [Quiet.heap HQ.out]) i).mono ?_; rintro e w2 ⟨rfl, rfl⟩))
    go_ret
    exact ⟨rfl, Quiet.touch HQ.out []⟩

/-- a byte with a bit turned. -/
def flipB (c : UInt8) (bit : Int) : UInt8 := UInt8.ofNat (c.toNat ^^^ (2 ^ (bit % 8).toNat % 256))

theorem flip_val (c : UInt8) (bit : Int) : bits BinOp.xor IntKind.u8 (c.toNat : Int) (2 ^ (bit % 8).toNat % 256) = ((flipB c bit).toNat : Int) := by
  have hc : c.toNat < 256 := c.toNat_lt
  have h2 : (2 ^ (bit % 8).toNat % 256 : Int) = ((2 ^ (bit % 8).toNat % 256 : Nat) : Int) := by
    rw [Int.natCast_emod, Int.natCast_pow]
    rfl
  rw [h2, u8_xor_nat _ _ hc (Nat.mod_lt _ (by omega))]
  congr 1
  unfold flipB
  rw [UInt8.toNat_ofNat']
  have : c.toNat ^^^ (2 ^ (bit % 8).toNat % 256) < 2 ^ 8 := Nat.xor_lt_two_pow (by omega) (Nat.mod_lt _ (by omega))
  exact (Nat.mod_eq_of_lt this).symm

set_option maxRecDepth 100000 in
set_option maxHeartbeats 1000000 in
theorem spoil_walk (R : Rep w lo p mf mt D) (s : ByteArray) (i bit : Int) (hn : nameB s = true) {e0 : Ent} (hf : findE D.ents (nm s) = some e0) (hB : 64 ≤ D.B ∧ D.B ≤ 65536) (hi1 : 0 ≤ i) (hi2 : i < e0.file.blocks.length) (hb1 : 0 ≤ bit) (hb2 : bit < 8 * D.B) {g gc bb : Nat} {c : UInt8} (hsv : e0.lay.sv = .slice (some ⟨g, 0, none⟩) e0.file.blocks.length gc) (cg : w.cell? ⟨g, i.toNat, none⟩ = some (sliceV bb D.B)) (cb : w.cell? ⟨bb, (bit / 8).toNat, none⟩ = some (.int .u8 c.toNat)) (fb : w.frozen? ⟨bb, (bit / 8).toNat, none⟩ = false) :
    Calls Tryz.prog 66 #[ptr p, .string s, .int .i64 i, .int .i64 bit] w fun e w' => e = .returned .nilIface ∧ ∃ w1, Quiet w w1 ∧ w' = (w1.setCell ⟨bb, (bit / 8).toNat, none⟩ (.int .u8 (flipB c bit).toNat)).drew := by
  have H := hid (look_some R s hn hf)
  have hat := R.each e0 (findE_mem hf).1
  have k0 := R.cell 0
  simp only [dRow] at k0
  have c1 := cell_row hat.row 1
  rw [hsv] at c1
  simp at c1
  have HA := hid hat
  obtain ⟨hB1, hB2⟩ := hB
  have hd : decide (0 ≤ i ∧ i < (e0.file.blocks.length : Int)) = true := by simp; omega
  have HV := hid (flip_val c bit)
  clear hf hat hsv
  go_enter Tryz.func66, Tryz.ntmps66
  go_wp2_with (first
    | (go_at_call 92; refine H.out.mono ?_; rintro e w1 ⟨rfl, hq⟩; have d0 := (Quiet.cell hq _).trans k0; have d1 := (Quiet.cell hq _).trans c1; have d2 := (Quiet.cell hq _).trans cg; have d3 := (Quiet.cell hq _).trans cb; have f3 := (Quiet.frozen hq _).trans fb; have HQ := hid hq; clear hq k0 c1 cg cb fb)
    | (go_at_call 90; refine (has_any (HA.out.kept fun b _ => by rw [Quiet.heap HQ.out]) i).mono ?_; rintro e w2 ⟨rfl, rfl⟩))
  go_region
  go_wp2
  go_ret
  refine ⟨rfl, _, HQ.out, ?_⟩
  rw [HV.out]

theorem byte_set (bl : List UInt8) (k : Nat) (c : UInt8) : (Lib.byteCells bl).toArray.setIfInBounds k (.int .u8 c.toNat) = (Lib.byteCells (bl.set k c)).toArray := by
  apply Array.toList_inj.1
  simp [Lib.byteCells, List.map_set]

/-- A bit of a block has been turned. -/
theorem Rep.spoil (R : Rep w lo p mf mt D) {n : List UInt8} {e0 : Ent} (hf : findE D.ents n = some e0) {i k bb : Nat} {c : UInt8} (hi : i < e0.file.blocks.length) (hm : e0.lay.bs[i]? = some bb) (hby : BytesAt w bb e0.file.blocks[i]) (hlo : lo ≤ w.heap.size) :
    Rep (w.setCell ⟨bb, k, none⟩ (.int .u8 c.toNat)) lo p mf mt { D with ents := setE n { e0.file with blocks := e0.file.blocks.set i (e0.file.blocks[i].set k c) } e0.lay D.ents } ∧ Touch e0.lay.foot w (w.setCell ⟨bb, k, none⟩ (.int .u8 c.toNat)) := by
  obtain ⟨he0, _⟩ := findE_mem hf
  have hat := R.each e0 he0
  have hnd := R.parts.1 e0 he0
  have hmb : bb ∈ e0.lay.bs := List.mem_of_getElem? hm
  have ht : Touch e0.lay.foot w (w.setCell ⟨bb, k, none⟩ (.int .u8 c.toNat)) := (Touch.refl _ w).setCell (.inl (by simp [Lay.foot, hmb])) _
  have hnd' := hnd
  have hfoot0 : e0.lay.foot = e0.lay.fb :: (e0.lay.sv.ownBlock.toList ++ e0.lay.bs) := rfl
  rw [hfoot0, List.nodup_cons, List.nodup_append] at hnd
  have hother : ∀ b, b ≠ bb → (w.setCell ⟨bb, k, none⟩ (.int .u8 c.toNat)).heap[b]? = w.heap[b]? := fun b hb => Below.heap_setCell _ _ _ _ hb
  refine ⟨R.setFile hf rfl ⟨?_, ⟨?_, ?_⟩, ?_⟩ (fun b hb => .inl hb) hnd' ht hlo, ht⟩
  · rw [hother _ (fun e => hnd.1 (by simp [e, hmb]))]
    exact hat.row
  · have := hat.own.1
    simpa using this
  · have h2 := hat.own.2
    simp only [List.length_set]
    rcases h2 with h | ⟨g, cap, cur, h, hb0, hg, r⟩
    · exact .inl h
    · refine .inr ⟨g, cap, cur, h, hb0, ?_, r⟩
      rw [hother g (fun e => hnd.2.2.2 g (by simp [h, Value.ownBlock]) bb hmb e)]
      exact hg
  · intro j b bl hb hbl
    by_cases hj : j = i
    · subst hj
      rw [hm] at hb
      simp at hb
      subst hb
      rw [List.getElem?_set_self (by simpa using hi)] at hbl
      simp at hbl
      subst hbl
      refine ⟨?_, ?_⟩
      · rw [List.length_set]
        exact (hat.bytes j _ _ hm (List.getElem?_eq_getElem hi)).1
      · show (w.setCell _ _).heap[_]? = _
        rw [heap_setCell_row hby k, byte_set]
    · rw [List.getElem?_set_ne (fun e => hj e.symm)] at hbl
      have h1 := hat.bytes j b bl hb hbl
      refine ⟨h1.1, ?_⟩
      show (w.setCell _ _).heap[b]? = _
      rw [hother b (fun e => ?_)]
      · exact h1.2
      · subst e
        have hnb := hnd.2.2.1
        have e1 := (List.getElem?_eq_some_iff.1 hb)
        have e2 := (List.getElem?_eq_some_iff.1 hm)
        obtain ⟨l1, v1⟩ := e1
        obtain ⟨l2, v2⟩ := e2
        rcases Nat.lt_or_gt_of_ne hj with h | h
        · exact List.pairwise_iff_getElem.1 hnb j i l1 l2 h (v1.trans v2.symm)
        · exact List.pairwise_iff_getElem.1 hnb i j l2 l1 h (v2.trans v1.symm)

def spoilA (s : ByteArray) (i bit : Int) (A : PubA) : Int × PubA :=
  if nameB s then
    match findA A.files (nm s) with
    | none => (12, A)
    | some f => if (0 ≤ i ∧ i < f.blocks.length) ∧ 0 ≤ bit ∧ bit < 8 * A.B then (0, { A with files := setA (nm s) { f with blocks := f.blocks.set i.toNat ((f.blocks[i.toNat]?.getD []).set (bit / 8).toNat (flipB ((f.blocks[i.toNat]?.getD [])[(bit / 8).toNat]?.getD 0) bit)) } A.files }) else (16, A)
  else (11, A)

set_option maxHeartbeats 400000 in
theorem Spoil_of {s : ByteArray} {i bit : Int} {r : Value} {v : Int} {Post : World → Prop} (h : Calls Tryz.prog 66 #[ptr p, .string s, .int .i64 i, .int .i64 bit] w fun e w' => e = .returned r ∧ Post w')
    (ha : ∀ w1, Post w1 → Calls Tryz.prog 26 #[r] w1 fun e w' => e = .returned (.int .i64 v) ∧ w' = w1) :
    Calls Tryz.prog 32 #[ptr p, .string s, .int .i64 i, .int .i64 bit] w fun e w' => e = .returned (.int .i64 v) ∧ Post w' := by
  have H := hid h
  have HA := hid ha
  clear h ha
  go_enter Tryz.func32, Tryz.ntmps32
  go_wp2_with (first | (go_at_call 66; refine H.out.mono ?_; rintro e w1 ⟨rfl, hp⟩) | (go_at_call 26; refine (HA.out _ hp).mono ?_; rintro e w2 ⟨rfl, rfl⟩))
  go_ret
  exact ⟨rfl, hp⟩

end
end Go.Proofs.YtcpncfngadablaaGreatDoor
namespace Go.Proofs.YtcpncfngadablaaGreatDoor
open Go.RowKit Go.Deep

def toldV (e N : Int) (b : Bool) (dv nv : Value) (c : Cnt) : Value := .agg #[.int .i64 e, .int .i64 N, .bool b, dv, nv, .int .i64 c.calls, .int .i64 c.reads, .int .i64 c.appends, .int .i64 c.faults, .int .i64 c.full, .int .i64 c.used, .int .i64 c.most]
def cnt0 : Cnt := ⟨0, 0, 0, 0, 0, 0, 0⟩
def zeroT : Array Value := #[.int .i64 0, .int .i64 0, .bool false, .slice none 0 0, .slice none 0 0, .int .i64 0, .int .i64 0, .int .i64 0, .int .i64 0, .int .i64 0, .int .i64 0, .int .i64 0]

section
variable {w w' : World} {E : Nat → Addr} {lo p mf mt : Nat} {D : DiskC}

/-- the world with which the switch is met. -/
def startW (w : World) (o : Array Value) : World := ((w.alloc (.cells o 40)).alloc (.cells zeroT 36)).alloc (.cells zeroT 36)

structure Start (w W : World) (o : Array Value) : Prop where
  op : W.heap[w.heap.size]? = some (.cells o 40 (0, 0))
  res : W.heap[w.heap.size + 1]? = some (.cells zeroT 36 (0, 0))
  told : W.heap[w.heap.size + 1 + 1]? = some (.cells zeroT 36 (0, 0))
  touch : Touch [] w W
  size : W.heap.size = w.heap.size + 3

theorem start_ok (w : World) (o : Array Value) : Start w (startW w o) o := by
  have h2 := heap_two w (.cells o 40) (.cells zeroT 36)
  refine ⟨?_, ?_, ?_, (((Touch.refl [] w).alloc _).alloc _).alloc _, by simp [startW]⟩
  · unfold startW
    rw [Below.heap_alloc _ _ _ (by simp; omega)]
    exact h2.1
  · unfold startW
    rw [Below.heap_alloc _ _ _ (by simp)]
    exact h2.2
  · have := heap_alloc_new ((w.alloc (.cells o 40)).alloc (.cells zeroT 36)) (.cells zeroT 36)
    simpa [startW] using this

/-- the last store. -/
theorem prog_end {w2 : World} {b : Nat} (hr : w2.heap[b]? = some (.cells zeroT 36 (0, 0))) (e N : Int) (bb : Bool) (dv nv : Value) (c : Cnt) :
    ∃ W2, W2 = (((((((((((w2.setCell ⟨b, 0, none⟩ (.int .i64 e)).setCell ⟨b, 1, none⟩ (.int .i64 N)).setCell ⟨b, 2, none⟩ (.bool bb)).setCell ⟨b, 3, none⟩ dv).setCell ⟨b, 4, none⟩ nv).setCell ⟨b, 5, none⟩ (.int .i64 c.calls)).setCell ⟨b, 6, none⟩ (.int .i64 c.reads)).setCell ⟨b, 7, none⟩ (.int .i64 c.appends)).setCell ⟨b, 8, none⟩ (.int .i64 c.faults)).setCell ⟨b, 9, none⟩ (.int .i64 c.full)).setCell ⟨b, 10, none⟩ (.int .i64 c.used)).setCell ⟨b, 11, none⟩ (.int .i64 c.most) ∧
      (∀ i, W2.cell? ⟨b, i, none⟩ = #[Value.int .i64 e, .int .i64 N, .bool bb, dv, nv, .int .i64 c.calls, .int .i64 c.reads, .int .i64 c.appends, .int .i64 c.faults, .int .i64 c.full, .int .i64 c.used, .int .i64 c.most][i]?) ∧ Touch [b] w2 W2 := by
  refine ⟨_, rfl, ?_, ?_⟩
  · refine cell_row (t := 36) (fz := (0, 0)) ?_
    refine (heap_setCell_row (heap_setCell_row (heap_setCell_row (heap_setCell_row (heap_setCell_row (heap_setCell_row (heap_setCell_row (heap_setCell_row (heap_setCell_row (heap_setCell_row (heap_setCell_row (heap_setCell_row hr 0 _) 1 _) 2 _) 3 _) 4 _) 5 _) 6 _) 7 _) 8 _) 9 _) 10 _) 11 _).trans ?_
    simp [zeroT]
  · repeat' refine Touch.setCell ?_ (by simp) _
    exact Touch.refl _ _


/-- what a call answers. -/
structure ToldA where
  e : Int
  n : Int
  shut : Bool
  data : List UInt8
  names : List (List UInt8)
  c : Cnt

def ToldA.err (e : Int) : ToldA := ⟨e, 0, false, [], [], cnt0⟩

/-- what 'program' hands back. -/
def ToldAt (w : World) (base : Nat) (T : ToldA) (v : Value) : Prop := ∃ dv nv, v = toldV T.e T.n T.shut dv nv T.c ∧ w.ownsRow base 5 1 dv T.data.length (Lib.byteCells T.data) ∧ w.ownsRow base 9 1 nv T.names.length (T.names.map encStr)

theorem ToldAt.err (w : World) (base : Nat) (e : Int) : ToldAt w base (.err e) (toldV e 0 false (.slice none 0 0) (.slice none 0 0) cnt0) := ⟨_, _, rfl, World.ownsRow_nil _ _ _ _, World.ownsRow_nil _ _ _ _⟩








end
end Go.Proofs.YtcpncfngadablaaGreatDoor
namespace Go.Proofs.YtcpncfngadablaaGreatDoor
open Go.RowKit Go.Deep

section
variable {w w' : World} {E : Nat → Addr} {lo p mf mt : Nat} {D : DiskC}


theorem owns_touch {base e size : Nat} {F : List Nat} {v : Value} {n : Nat} {xs : List Value} (h : w.ownsRow base e size v n xs) (ht : Touch F w w') (hF : ∀ x, v.ownBlock = some x → x ∉ F) : w'.ownsRow base e size v n xs := by
  refine ⟨h.1, ?_⟩
  rcases h.2 with hn | ⟨g, cap, cur, rfl, hb, hg, rest⟩
  · exact .inl hn
  · exact .inr ⟨g, cap, cur, rfl, hb, kept_row hg ht (hF g rfl), rest⟩


theorem OwnB.touch {base m : Nat} {v : Value} {F : List Nat} (h : OwnB w base v m) (ht : Touch F w w') (hF : ∀ b ∈ F, v.ownBlock ≠ some b) : OwnB w' base v m := by
  obtain ⟨xs, ho, hx⟩ := h
  exact ⟨xs, owns_touch ho ht (fun b hb hm => hF b hm hb), hx⟩

theorem OwnB.lt {base m : Nat} {v : Value} (h : OwnB w base v m) : ∀ b ∈ v.ownBlock.toList, base ≤ b ∧ b < w.heap.size := by
  obtain ⟨xs, ho, _⟩ := h
  intro b hb
  exact ho.lt b (by simpa using hb)

theorem owns_lt {base e size n : Nat} {v : Value} {xs : List Value} (ho : w.ownsRow base e size v n xs) : ∀ b ∈ v.ownBlock.toList, base ≤ b ∧ b < w.heap.size := fun b hb => ho.lt b (by simpa using hb)

theorem Told1.own {n B : Nat} {o : Option (List UInt8)} {v : Value} (h : Told1 w n B o v) (hB : B ≤ 65536) : ∃ sb m, v = .slice sb m m ∧ m ≤ 65536 ∧ (o.getD []).length = m ∧ w.ownsRow n 5 1 v m (Lib.byteCells (o.getD [])) ∧ Shows w sb m m (o.getD []) := by
  cases o with
  | none => exact ⟨none, 0, h, by omega, rfl, by rw [show v = .slice none 0 0 from h]; exact World.ownsRow_nil _ _ _ _, ⟨rfl, Nat.le_refl _, fun h => by omega, fun _ => ⟨rfl, rfl⟩⟩⟩
  | some bl =>
    obtain ⟨g, rfl, hg, hb, hl⟩ := h
    have ho : w.ownsRow n 5 1 (sliceV g B) B (Lib.byteCells bl) := by
      refine ⟨by simp [Lib.byteCells_length, hl], .inr ⟨g, B, _, rfl, hg, hb, Nat.le_refl _, by unfold maxLen; omega, by simp [Lib.byteCells_length, hl], ?_⟩⟩
      rw [List.take_of_length_le (by simp [Lib.byteCells_length, hl])]
    exact ⟨some ⟨g, 0, none⟩, B, rfl, hB, hl, ho, ⟨hl, Nat.le_refl _, fun _ => ⟨_, rfl, lt_of_block hb, fun j v hv => ho.cells (g := g) rfl j v hv⟩, by simp⟩⟩

theorem prog4_rows {W w1 w2 w3 w4 w5 : World} {h m k : Nat} {x v v4 y : Value} {d : List Value} (r1 : w2.heap[h + 1]? = some (.cells zeroT 36 (0, 0))) (r2 : w2.heap[h + 1 + 1]? = some (.cells zeroT 36 (0, 0))) (ho : w1.ownsRow W.heap.size 5 1 v m d) (hz : W.heap.size = h + 3) (hz1 : W.heap.size ≤ w1.heap.size) (t12 : Touch [] w1 w2)
    (t3 : Touch v.ownBlock.toList ((w2.setCell ⟨h + 1 + 1, 0, none⟩ x).setCell ⟨h + 1 + 1, 3, none⟩ y) w3) (ho4 : OwnB w4 w3.heap.size v4 k) (b4 : Below w3.heap.size w3 w4) (t5 : Touch v4.ownBlock.toList w4 w5) :
    w5.heap[h + 1]? = some (.cells zeroT 36 (0, 0)) ∧ w5.heap[h + 1 + 1]? = some (.cells #[x, .int .i64 0, .bool false, y, .slice none 0 0, .int .i64 0, .int .i64 0, .int .i64 0, .int .i64 0, .int .i64 0, .int .i64 0, .int .i64 0] 36 (0, 0)) ∧ Touch ((h + 1 + 1) :: v.ownBlock.toList) w1 w5 ∧ (∀ e size u j d', w2.ownsRow w1.heap.size e size u j d' → w5.ownsRow w1.heap.size e size u j d') := by
  have hs3 := t3.size
  have hs2 := t12.size
  simp only [World.size_setCell] at hs3
  have g4 := ho4.lt
  have g1 := owns_lt ho
  have t34 := Touch.of_below (F := []) b4 (Nat.le_refl _)
  refine ⟨?_, ?_, ?_, ?_⟩
  · refine kept_row (kept_row (kept_row ?_ t3 fun hb => by have := g1 _ hb; omega) t34 (by simp)) t5 fun hb => by have := g4 _ hb; omega
    rw [Below.heap_setCell _ _ _ _ (by simp), Below.heap_setCell _ _ _ _ (by simp)]
    exact r1
  · refine kept_row (kept_row (kept_row ?_ t3 fun hb => by have := g1 _ hb; omega) t34 (by simp)) t5 fun hb => by have := g4 _ hb; omega
    refine (heap_setCell_row (heap_setCell_row r2 0 _) 3 _).trans ?_
    simp [zeroT]
  · refine ((((t12.mono (by simp)).trans (((Touch.refl [h + 1 + 1] w2).setCell (by simp) x).setCell (by simp) y) (by simp)).trans t3 (fun b hb => .inl (by simp [hb]))).trans t34 (by simp)).trans t5 (fun b hb => .inr (by have := g4 b hb; omega))
  · intro e size u j d' hu
    have gu := owns_lt hu
    refine owns_touch (owns_touch (owns_touch (owns_touch hu (((Touch.refl [h + 1 + 1] w2).setCell (by simp) x).setCell (by simp) y) ?_) t3 ?_) t34 (by simp)) t5 ?_
    · intro b hb hm
      have := gu b (by simp [hb])
      simp at hm
      omega
    · intro b hb hm
      have := gu b (by simp [hb])
      have := g1 b hm
      omega
    · intro b hb hm
      have := gu b (by simp [hb])
      have := g4 b hm
      omega

theorem owns_base {base base' e size n : Nat} {v : Value} {xs : List Value} (h : w.ownsRow base e size v n xs) (hb : base' ≤ base) : w.ownsRow base' e size v n xs := by
  refine ⟨h.1, ?_⟩
  rcases h.2 with hn | ⟨g, cap, cur, rfl, hb', rest⟩
  · exact .inl hn
  · exact .inr ⟨g, cap, cur, rfl, by omega, rest⟩

end
end Go.Proofs.YtcpncfngadablaaGreatDoor
