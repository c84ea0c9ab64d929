import Derived.Test.YtcpncfngadablaaGreatDoorZ08
namespace Go.Proofs.YtcpncfngadablaaGreatDoor
open Go.RowKit Go.Deep

section
variable {w w' : World} {E : Nat → Addr} {lo p mf mt : Nat} {D : DiskC}

/-- A block has been put behind a file's last one. -/
theorem Rep.put (R : Rep w lo p mf mt D) {k : List UInt8} {e0 : Ent} (hf : findE D.ents k = some e0) {nb : List UInt8} (hnb : nb.length = D.B) {w2 w3 : World} {g : Nat} {o : Obj} {v' : Value} (hg : w.heap.size ≤ g) (hg2 : g < w2.heap.size) (h2 : Touch [] w w2) (hb : BytesAt w2 g nb)
    (hown : w3.ownsRow 0 31 1 v' (e0.file.blocks.length + 1) ((e0.lay.bs.map fun b => sliceV b D.B) ++ [sliceV g D.B])) (hgr : (w2.alloc o).grownBy w3 e0.lay.sv.ownBlock) (hfr : v'.ownBlock = e0.lay.sv.ownBlock ∨ v'.ownBlock = some (w2.alloc o).heap.size) (hlo : lo ≤ w.heap.size) :
    Rep (w3.setCell ⟨e0.lay.fb, 1, none⟩ v') lo p mf mt { D with ents := setE k { e0.file with blocks := e0.file.blocks ++ [nb] } ⟨e0.lay.fb, v', e0.lay.bs ++ [g]⟩ D.ents } ∧ Touch e0.lay.foot w (w3.setCell ⟨e0.lay.fb, 1, none⟩ v') ∧
      ∀ b ∈ (⟨e0.lay.fb, v', e0.lay.bs ++ [g]⟩ : Lay).foot, b ∈ e0.lay.foot ∨ w.heap.size ≤ b := by
  obtain ⟨he0, hk0⟩ := findE_mem hf
  have hat := R.each e0 he0
  have hnd := R.parts.1 e0 he0
  have hfb := hat.lt e0.lay.fb (by simp [Lay.foot])
  have hs2 := h2.size
  have hsz : (w2.alloc o).heap.size = w2.heap.size + 1 := by simp
  have hfoot0 : e0.lay.foot = e0.lay.fb :: (e0.lay.sv.ownBlock.toList ++ e0.lay.bs) := rfl
  rw [hfoot0, List.nodup_cons] at hnd
  have hnd2 := hnd.2
  rw [List.nodup_append] at hnd2
  have hsub : ∀ b ∈ (⟨e0.lay.fb, v', e0.lay.bs ++ [g]⟩ : Lay).foot, b ∈ e0.lay.foot ∨ w.heap.size ≤ b := by
    intro b hb
    simp only [Lay.foot, List.mem_cons, List.mem_append, Option.mem_toList, List.not_mem_nil, or_false] at hb ⊢
    rcases hb with h | h | h | h
    · exact .inl (.inl h)
    · rcases hfr with e | e
      · rw [e] at h; exact .inl (.inr (.inl h))
      · rw [e] at h; simp at h; right; omega
    · exact .inl (.inr (.inr h))
    · right; omega
  have ht : Touch e0.lay.foot w (w3.setCell ⟨e0.lay.fb, 1, none⟩ v') := by
    refine (((h2.mono (by simp)).alloc o).grown hgr ?_).setCell (.inl (by simp [Lay.foot])) _
    intro x hx
    exact .inl (by simp [Lay.foot, hx])
  have hrow3 : w3.heap[e0.lay.fb]? = some (.cells #[.int .i64 (if e0.file.shut then 1 else 0), e0.lay.sv] 118 (0, 0)) := by
    rw [hgr.block _ (by omega) (fun e => hnd.1 (by simp [← e])), Below.heap_alloc _ _ _ (by omega), h2.block _ hfb (by simp)]
    exact hat.row
  have hvb : ∀ x, v'.ownBlock = some x → x ≠ e0.lay.fb := by
    intro x hx
    rcases hfr with e | e
    · rw [e] at hx; intro e2; subst e2; exact hnd.1 (by simp [hx])
    · rw [e] at hx; simp at hx; omega
  have hbytes : ∀ (i b : Nat) (bl : List UInt8), e0.lay.bs[i]? = some b → e0.file.blocks[i]? = some bl → bl.length = D.B ∧ BytesAt (w3.setCell ⟨e0.lay.fb, 1, none⟩ v') b bl := by
    intro i b bl hb' hbl
    have h1 := hat.bytes i b bl hb' hbl
    have hm : b ∈ e0.lay.bs := List.mem_of_getElem? hb'
    have hlt := hat.lt b (by simp [Lay.foot, hm])
    refine ⟨h1.1, ?_⟩
    show (w3.setCell _ _).heap[b]? = _
    rw [Below.heap_setCell _ _ _ _ (fun e => hnd.1 (by have e' : b = e0.lay.fb := e; simp [← e', hm])), hgr.block _ (by omega) (fun e => hnd2.2.2 b (by simp [← e]) b hm rfl), Below.heap_alloc _ _ _ (by omega), h2.block _ hlt (by simp)]
    exact h1.2
  refine ⟨R.setFile hf rfl ⟨?_, ⟨?_, ?_⟩, ?_⟩ hsub ?_ ht hlo, ht, hsub⟩
  · rw [heap_setCell_row hrow3 1]
    rfl
  · have := hat.len
    simp [this]
  · rcases hown.2 with ⟨h, h'⟩ | ⟨g', cap, cur, h, hb0, hgg, r1, r2, r3, r4⟩
    · omega
    · refine .inr ⟨g', cap, cur, by rw [h]; simp, hb0, ?_, by simpa using r1, r2, r3, ?_⟩
      · rw [Below.heap_setCell _ _ _ _ (fun e => hvb g' (by rw [h]; rfl) e)]
        exact hgg
      · simp only [List.length_append, List.length_cons, List.length_nil, List.map_append, List.map_cons, List.map_nil]
        exact r4
  · intro i b bl hb' hbl
    have hlen := hat.len
    by_cases hi : i < e0.lay.bs.length
    · rw [List.getElem?_append_left hi] at hb'
      rw [List.getElem?_append_left (by omega)] at hbl
      exact hbytes i b bl hb' hbl
    · have hi' : i = e0.lay.bs.length := by
        have := (List.getElem?_eq_some_iff.1 hb').1
        simp at this
        omega
      subst hi'
      simp at hb'
      rw [hlen] at hbl
      simp at hbl
      subst hb' hbl
      refine ⟨hnb, ?_⟩
      show (w3.setCell _ _).heap[g]? = _
      rw [Below.heap_setCell _ _ _ _ (by show g ≠ e0.lay.fb; omega), hgr.block _ (by omega) (fun e => by have := hat.lt g (by simp [Lay.foot, ← e]); omega), Below.heap_alloc _ _ _ hg2]
      exact hb
  · show (e0.lay.fb :: (v'.ownBlock.toList ++ (e0.lay.bs ++ [g]))).Nodup
    have hgn : g ∉ e0.lay.bs := fun h => by have := hat.lt g (by simp [Lay.foot, h]); omega
    rw [List.nodup_cons, List.nodup_append]
    refine ⟨?_, ?_, ?_, ?_⟩
    · simp only [List.mem_append, Option.mem_toList, List.mem_cons, List.not_mem_nil, or_false, not_or]
      refine ⟨fun h => hvb _ h rfl, fun h => hnd.1 (by simp [h]), by omega⟩
    · cases v'.ownBlock <;> simp
    · rw [List.nodup_append]
      exact ⟨hnd2.2.1, by simp, fun x hx y hy => by simp at hy; subst hy; exact fun e => hgn (e ▸ hx)⟩
    · intro x hx y hy
      simp only [Option.mem_toList] at hx
      simp only [List.mem_append, List.mem_cons, List.not_mem_nil, or_false] at hy
      rcases hfr with e | e
      · rw [e] at hx
        rcases hy with hy | hy
        · exact hnd2.2.2 x (by simp [hx]) y hy
        · have := hat.lt x (by simp [Lay.foot, hx]); omega
      · rw [e] at hx
        simp at hx
        rcases hy with hy | hy
        · have := hat.lt y (by simp [Lay.foot, hy]); omega
        · omega

theorem put1_facts (R : Rep w lo p mf mt D) {k : List UInt8} {e0 : Ent} (hf : findE D.ents k = some e0) {bl : List UInt8} (hbl : bl.length = D.B) {bf bb : Nat} {a : Addr} {c : Nat}
    (hbf : w.heap[bf]? = some (.cells #[ptr e0.lay.fb] 92 (0, 0))) (hbb : w.heap[bb]? = some (.cells #[.slice (some a) bl.length c] 31 (0, 0))) {bd : Nat} (hbd : w.heap[bd]? = some (.cells #[ptr p] 23 (0, 0))) :
    ∀ w2, Touch [] w.drew w2 → w2.cell? ⟨bf, 0, none⟩ = some (ptr e0.lay.fb) ∧ w2.cell? ⟨bb, 0, none⟩ = some (.slice (some a) bl.length c) ∧ w2.cell? ⟨e0.lay.fb, 1, none⟩ = some e0.lay.sv ∧ w2.frozen? ⟨e0.lay.fb, 1, none⟩ = false ∧ (bf < w2.heap.size ∧ bb < w2.heap.size ∧ e0.lay.fb < w2.heap.size) ∧
      Hid ((w2.alloc (.cells #[sliceV w.heap.size bl.length] 31)).ownsRow 0 31 1 e0.lay.sv e0.file.blocks.length (e0.lay.bs.map fun b => sliceV b bl.length) ∧ (w2.alloc (.cells #[sliceV w.heap.size bl.length] 31)).cell? ⟨w2.heap.size, 0, none⟩ = some (sliceV w.heap.size bl.length) ∧
        ∀ w3, (w2.alloc (.cells #[sliceV w.heap.size bl.length] 31)).grownBy w3 e0.lay.sv.ownBlock → w3.cell? ⟨bf, 0, none⟩ = some (ptr e0.lay.fb) ∧ w3.cell? ⟨e0.lay.fb, 1, none⟩ = some e0.lay.sv ∧ w3.frozen? ⟨e0.lay.fb, 1, none⟩ = false ∧ w3.cell? ⟨bd, 0, none⟩ = some (ptr p)) := by
  intro w2 ht
  obtain ⟨he0, hk0⟩ := findE_mem hf
  have hat := R.each e0 he0
  have hnd := R.parts.1 e0 he0
  have hfoot0 : e0.lay.foot = e0.lay.fb :: (e0.lay.sv.ownBlock.toList ++ e0.lay.bs) := rfl
  rw [hfoot0, List.nodup_cons] at hnd
  have hbf2 : w2.heap[bf]? = some (.cells #[ptr e0.lay.fb] 92 (0, 0)) := (ht.block _ (lt_of_block (w := w) hbf) (by simp)).trans hbf
  have hbb2 : w2.heap[bb]? = some (.cells #[.slice (some a) bl.length c] 31 (0, 0)) := (ht.block _ (lt_of_block (w := w) hbb) (by simp)).trans hbb
  have hrow := hat.row
  have hrow2 := (ht.block _ (lt_of_block (w := w) hrow) (by simp)).trans hrow
  have hnb : e0.lay.sv.ownBlock ≠ some bf := by
    intro e
    rcases hat.own.2 with ⟨h, _⟩ | ⟨g, cap, cur, h, _, hg, _⟩
    · rw [h] at e; simp [Value.ownBlock] at e
    · rw [h] at e; simp [Value.ownBlock] at e; subst e; rw [hbf] at hg; simp at hg
  have hbd2 : w2.heap[bd]? = some (.cells #[ptr p] 23 (0, 0)) := (ht.block _ (lt_of_block (w := w) hbd) (by simp)).trans hbd
  have hnd' : e0.lay.sv.ownBlock ≠ some bd := by
    intro e
    rcases hat.own.2 with ⟨h, _⟩ | ⟨g, cap, cur, h, _, hg, _⟩
    · rw [h] at e; simp [Value.ownBlock] at e
    · rw [h] at e; simp [Value.ownBlock] at e; subst e; rw [hbd] at hg; simp at hg
  have hnf : e0.lay.sv.ownBlock ≠ some e0.lay.fb := fun e => hnd.1 (by simp [e])
  refine ⟨cell_row hbf2 0, cell_row hbb2 0, cell_row hrow2 1, unfrozen_row hrow2 1, ⟨lt_of_block hbf2, lt_of_block hbb2, lt_of_block hrow2⟩, ?_, ?_, ?_⟩
  · have := ownsRow_touch (w := w.drew) hat.own ht (by simp)
    rw [← hbl] at this
    exact this.alloc _
  · exact cell_row (heap_alloc_new w2 _) 0
  · intro w3 hg
    have e1 : w3.heap[bf]? = some (.cells #[ptr e0.lay.fb] 92 (0, 0)) := by
      rw [hg.block _ (by simp; have := lt_of_block hbf2; omega) hnb.symm, Below.heap_alloc _ _ _ (lt_of_block hbf2)]; exact hbf2
    have e2 := (hg.block _ (by simp; have := lt_of_block hrow2; omega) hnf.symm).trans ((Below.heap_alloc _ _ _ (lt_of_block hrow2)).trans hrow2)
    have e3 : w3.heap[bd]? = some (.cells #[ptr p] 23 (0, 0)) := by
      rw [hg.block _ (by simp; have := lt_of_block hbd2; omega) hnd'.symm, Below.heap_alloc _ _ _ (lt_of_block hbd2)]; exact hbd2
    exact ⟨cell_row e1 0, cell_row e2 1, unfrozen_row e2 1, cell_row e3 0⟩

theorem put1_fin (R : Rep w lo p mf mt D) {n : List UInt8} {e0 : Ent} (hf : findE D.ents n = some e0) {bl : List UInt8} (hbl : bl.length = D.B) (hlo : lo ≤ w.heap.size) {k : Int} (w2 : World) (o : Obj) (g cap : Nat) (w3 : World)
    (hb : BytesAt w2 w.drew.heap.size (cutB k.toNat bl)) (ht : Touch [] w.drew w2) (hz : w2.heap.size = w.drew.heap.size + 1)
    (r1 : w3.ownsRow 0 31 1 (.slice (some ⟨g, 0, none⟩) (e0.file.blocks.length + 1) cap) (e0.file.blocks.length + 1) ((e0.lay.bs.map fun b => sliceV b bl.length) ++ [sliceV w.heap.size bl.length])) (r2 : (w2.alloc o).grownBy w3 e0.lay.sv.ownBlock) (r3 : some g = e0.lay.sv.ownBlock ∨ g = (w2.alloc o).heap.size) :
    Rep (w3.setCell ⟨e0.lay.fb, 1, none⟩ (.slice (some ⟨g, 0, none⟩) (e0.file.blocks.length + 1) cap)) lo p mf mt { D with ents := setE n { e0.file with blocks := e0.file.blocks ++ [cutB k.toNat bl] } ⟨e0.lay.fb, .slice (some ⟨g, 0, none⟩) (e0.file.blocks.length + 1) cap, e0.lay.bs ++ [w.heap.size]⟩ D.ents } ∧
      Touch e0.lay.foot w (w3.setCell ⟨e0.lay.fb, 1, none⟩ (.slice (some ⟨g, 0, none⟩) (e0.file.blocks.length + 1) cap)) ∧
      ∀ b ∈ (⟨e0.lay.fb, .slice (some ⟨g, 0, none⟩) (e0.file.blocks.length + 1) cap, e0.lay.bs ++ [w.heap.size]⟩ : Lay).foot, b ∈ e0.lay.foot ∨ w.heap.size ≤ b := by
  have ht' : Touch [] w w2 := ((Touch.refl [] w).drew).trans ht (by simp)
  rw [hbl] at r1
  refine R.put hf (by rw [cutB_length]; exact hbl) (Nat.le_refl _) ?_ ht' hb r1 r2 ?_ hlo
  · have : w.drew.heap.size = w.heap.size := rfl
    omega
  · rcases r3 with h | h
    · exact .inl h
    · right; rw [← h]; rfl

set_option maxRecDepth 100000 in
set_option maxHeartbeats 4000000 in
theorem put1_any (R : Rep w lo p mf mt D) {s : ByteArray} (k : Int) (hk : 0 ≤ k) (bf bb bd : Nat) {e0 : Ent} (hf : findE D.ents (nm s) = some e0) (hS : Small D.pub) {bl : List UInt8} (a : Addr) (c : Nat) (hbl : bl.length = D.B) (hc : bl.length ≤ c)
    (hsrc : ∀ j v, (Lib.byteCells bl)[j]? = some v → w.cell? (a.add j) = some v) (ha : a.block < w.heap.size) (hlo : lo ≤ w.heap.size)
    (hbf : w.heap[bf]? = some (.cells #[ptr e0.lay.fb] 92 (0, 0))) (hbb : w.heap[bb]? = some (.cells #[.slice (some a) bl.length c] 31 (0, 0))) (hbd : w.heap[bd]? = some (.cells #[ptr p] 23 (0, 0))) :
    Calls Tryz.prog 70 #[.int .i64 k, ptr bf, ptr bb, ptr bd] w fun e w' => e = .returned (.tuple #[]) ∧
      (∃ L, Rep w' lo p mf mt { D with ents := setE (nm s) { e0.file with blocks := e0.file.blocks ++ [cutB k.toNat bl] } L D.ents, c := { D.c with used := D.c.used + 1, most := max D.c.most (D.c.used + 1) } } ∧ ∀ b ∈ L.foot, b ∈ e0.lay.foot ∨ w.heap.size ≤ b) ∧ Touch (p :: e0.lay.foot) w w' := by
  have hat := R.each e0 (findE_mem hf).1
  have cf := cell_row hbf 0
  have cb := cell_row hbb 0
  have c1 := cell_row hat.row 1
  simp at cf cb c1
  have hB := hS.size
  simp only [DiskC.pub] at hB
  have hn := hS.blocks e0.pub (List.mem_map.2 ⟨e0, (findE_mem hf).1, rfl⟩)
  simp only [Ent.pub] at hn
  have lbf := lt_of_block hbf
  have lfb := lt_of_block hat.row
  have lbb := lt_of_block hbb
  have hpos : 0 < bl.length := by omega
  have HC := hid (copyBlock_any bl a c k w.drew hpos hc (by omega) hk (fun j v h => hsrc j v h) ha)
  have HK := hid (put1_facts R hf hbl hbf hbb hbd)
  have hne : bd ≠ e0.lay.fb := by intro e; have := hat.row; rw [← e, hbd] at this; simp at this
  have HFIN := hid (put1_fin (k := k) R hf hbl hlo)
  have hu1 := hS.used.1
  have hu2 := hS.used.2
  simp only [DiskC.pub] at hu1 hu2
  clear hat hbf hbb hbd hf hS hB hbl hsrc R
  go_enter Tryz.func70, Tryz.ntmps70
  go_wp2
  go_region_law (first
    | (refine step_append_fresh rfl _ _ rfl e0.lay.sv e0.file.blocks.length _ ⟨w2.heap.size, 0, none⟩ (sliceV w.heap.size bl.length) rfl rfl ho2.out.1 ho2.out.2.1 rfl hn (fun g cap w3 r1 r2 r3 => ?_); obtain ⟨z1, z2, z3, z4⟩ := ho2.out.2.2 w3 r2; have H1 := hid r1; have H2 := hid r2; have H3 := hid r3; clear r1 r2 r3)
    | (go_simp; go_at_call 71; refine HC.out.mono ?_; rintro e w2 ⟨rfl, hb2, ht2, hz2⟩; obtain ⟨y1, y2, y3, y4, ⟨l1, l2, l3⟩, ho2⟩ := HK.out w2 ht2; have HB2 := hid hb2; have HZ2 := hid hz2; have HT2 := hid ht2; clear hb2 hz2 ht2))
  all_goals
    obtain ⟨R4, t4, s4⟩ := HFIN.out w2 _ g cap w3 HB2.out HT2.out HZ2.out H1.out H2.out H3.out
    have HR4 := hid R4
    clear R4
    go_wp2_with (go_at_call 59; refine (use_any HR4.out 1 hu1 hu2 (by omega) (by omega)).mono ?_; rintro e w5 ⟨rfl, hR5, ht5⟩)
    go_end0
    exact ⟨rfl, ⟨_, hR5, s4⟩, (t4.mono (G := p :: e0.lay.foot) (fun b hb => List.mem_cons_of_mem _ hb)).trans ht5 (by simp)⟩
end
end Go.Proofs.YtcpncfngadablaaGreatDoor
namespace Go.Proofs.YtcpncfngadablaaGreatDoor
open Go.RowKit Go.Deep

section
variable {w w' : World} {E : Nat → Addr} {lo p mf mt : Nat} {D : DiskC}

/-! ### put -/
set_option maxHeartbeats 400000 in
theorem put_err (s : ByteArray) (i : Nat) (bv : Value)
    (hf : ∀ o1 o2 : Obj, Calls Tryz.prog 65 #[ptr p, .string s] ((w.alloc o1).alloc o2) fun e w' => e = .returned (.tuple #[.pointer none, errV E i]) ∧ ∃ n, w' = ((w.alloc o1).alloc o2).drewN n) {sa : Option Addr} {n c : Nat} (hbv : bv = .slice sa n c) :
    Calls Tryz.prog 35 #[ptr p, .string s, bv] w fun e w' => e = .returned (errV E i) ∧ Touch [] w w' := by
  subst hbv
  have H := hid hf
  clear hf
  go_enter Tryz.func35, Tryz.ntmps35
  go_wp2_with (go_at_call 65; refine (H.out _ _).mono ?_; rintro e w1 ⟨rfl, hq⟩; have HQ := hid (Quiet.touch hq []); clear hq)
  go_ret
  exact ⟨rfl, ((((Touch.refl [] w).alloc _).alloc _).trans HQ.out (by simp)).alloc _⟩

set_option maxRecDepth 100000 in
set_option maxHeartbeats 400000 in
theorem put_no (V : Env w lo E) (R : Rep w lo p mf mt D) (s : ByteArray) (ho : D.on = true) (hn : nameB s = true) {e0 : Ent} (hf : findE D.ents (nm s) = some e0) {sa : Option Addr} {n c : Nat} (j : Nat)
    (hj : (e0.file.shut = true ∧ j = 6) ∨ (e0.file.shut = false ∧ n ≠ D.B ∧ j = 8) ∨ (e0.file.shut = false ∧ n = D.B ∧ D.Bs ≤ D.c.used ∧ j = 9)) :
    Calls Tryz.prog 35 #[ptr p, .string s, .slice sa n c] w fun e w' => e = .returned (errV E j) ∧ Touch [] w w' := by
  obtain ⟨W, hW⟩ : ∃ W, W = (w.alloc (.cells #[ptr p] 23)).alloc (.cells #[.slice sa n c] 31) := ⟨_, rfl⟩
  have hW1 : W.heap[w.heap.size]? = some (.cells #[ptr p] 23) ∧ W.heap[w.heap.size + 1]? = some (.cells #[.slice sa n c] 31) := by rw [hW]; exact heap_two w _ _
  have hTW : Touch [] w W := by rw [hW]; exact ((Touch.refl [] w).alloc _).alloc _
  have VW : Env W lo E := V.touch hTW (by simp)
  have RW : Rep W lo p mf mt D := R.touch hTW (by simp)
  have H := hid (find_some RW s ho hn hf)
  have hat := RW.each e0 (findE_mem hf).1
  have hrow := hat.row
  have lfb := lt_of_block hrow
  have hp := lt_of_block RW.row
  have c0 := cell_row hrow 0
  simp at c0
  have x0 := RW.cell 0
  have x1 := RW.cell 1
  have x10 := RW.cell 10
  simp only [dRow] at x0 x1 x10
  have c6 := VW.sents.var 6 (by omega)
  have c8 := VW.sents.var 8 (by omega)
  have c9 := VW.sents.var 9 (by omega)
  have l9 : 9 < W.heap.size := by have := VW.vars; have := VW.room; omega
  have cd := cell_row hW1.1 0
  have cb := cell_row hW1.2 0
  have lz : w.heap.size + 1 < W.heap.size := lt_of_block hW1.2
  simp at cd cb
  have HE := hid hW
  have HTW := hid hTW
  clear hf R RW hW1 hTW hW V VW hat hrow
  rcases hj with ⟨hs, rfl⟩ | ⟨hs, hne, rfl⟩ | ⟨hs, rfl, hu, rfl⟩
  all_goals
    rw [hs] at c0
    simp at c0
    clear hs
  · go_enter Tryz.func35, Tryz.ntmps35
    go_wp2_with fail
    rw [← HE.out]
    refine H.out.mono ?_
    rintro e w1 ⟨rfl, hq⟩
    have d0 := (Quiet.cell hq _).trans c0
    have d6 := (Quiet.cell hq _).trans c6
    have ee := Quiet.heap hq
    have l1 : e0.lay.fb < w1.heap.size := by rw [ee]; exact lfb
    have l6 : 6 < w1.heap.size := by rw [ee]; omega
    have HQ := hid (Quiet.touch hq [])
    clear hq ee c0 c6 c8 c9 x0 x1 x10 cd cb lfb hp l9 lz
    go_wp2
    go_ret
    exact ⟨rfl, (HTW.out.trans HQ.out (by simp)).alloc _⟩
  · have hnb : ((n : Int) != (D.B : Int)) = true := by simp; omega
    go_enter Tryz.func35, Tryz.ntmps35
    go_wp2_with fail
    rw [← HE.out]
    refine H.out.mono ?_
    rintro e w1 ⟨rfl, hq⟩
    have d0 := (Quiet.cell hq _).trans c0
    have d8 := (Quiet.cell hq _).trans c8
    have y0 := (Quiet.cell hq _).trans x0
    have yd := (Quiet.cell hq _).trans cd
    have yb := (Quiet.cell hq _).trans cb
    have ee := Quiet.heap hq
    have l1 : e0.lay.fb < w1.heap.size := by rw [ee]; exact lfb
    have l2 : p < w1.heap.size := by rw [ee]; exact hp
    have l3 : w.heap.size < w1.heap.size := by rw [ee]; omega
    have l4 : w.heap.size + 1 < w1.heap.size := by rw [ee]; omega
    have l8 : 8 < w1.heap.size := by rw [ee]; omega
    have HQ := hid (Quiet.touch hq [])
    clear hq ee c0 c6 c8 c9 x0 x1 x10 cd cb lfb hp l9 lz hne
    go_wp2
    go_quiet (fail)
    go_wp2
    go_ret
    exact ⟨rfl, ((HTW.out.trans HQ.out (by simp)).alloc _).drewN _⟩
  · have hnb : ((D.B : Int) != (D.B : Int)) = false := by simp
    go_enter Tryz.func35, Tryz.ntmps35
    go_wp2_with fail
    rw [← HE.out]
    refine H.out.mono ?_
    rintro e w1 ⟨rfl, hq⟩
    have d0 := (Quiet.cell hq _).trans c0
    have d9 := (Quiet.cell hq _).trans c9
    have y0 := (Quiet.cell hq _).trans x0
    have y1 := (Quiet.cell hq _).trans x1
    have y10 := (Quiet.cell hq _).trans x10
    have yd := (Quiet.cell hq _).trans cd
    have yb := (Quiet.cell hq _).trans cb
    have ee := Quiet.heap hq
    have l1 : e0.lay.fb < w1.heap.size := by rw [ee]; exact lfb
    have l2 : p < w1.heap.size := by rw [ee]; exact hp
    have l3 : w.heap.size < w1.heap.size := by rw [ee]; omega
    have l4 : w.heap.size + 1 < w1.heap.size := by rw [ee]; omega
    have l9' : 9 < w1.heap.size := by rw [ee]; omega
    have HQ := hid (Quiet.touch hq [])
    clear hq ee c0 c6 c8 c9 x0 x1 x10 cd cb lfb hp l9 lz
    go_wp2
    go_quiet (fail)
    go_wp2
    go_quiet (fail)
    go_wp2
    go_ret
    exact ⟨rfl, (((HTW.out.trans HQ.out (by simp)).alloc _).drewN _)⟩
end
end Go.Proofs.YtcpncfngadablaaGreatDoor
