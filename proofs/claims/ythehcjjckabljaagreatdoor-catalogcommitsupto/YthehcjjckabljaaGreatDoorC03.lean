import Derived.Test.YthehcjjckabljaaGreatDoorC02
namespace Go.Proofs.YthehcjjckabljaaGreatDoor
open Go.RowKit Go.Deep
section
variable {w w':World} {E:Nat → Addr} {lo p mf mt:Nat} {D:DkC}
theorem Rep.put (R:Rep w lo p mf mt D) {k:List UInt8} {e0:Ent} (hf:findE D.ents k = some e0) {nb:List UInt8} (hnb:nb.length = D.B) {w2 w3:World} {g:Nat} {o:Obj} {v':Value} (hg:w.heap.size ≤ g) (hg2:g < w2.heap.size) (h2:Tc [] w w2) (hb:BytesAt w2 g nb)
  (hown:w3.ownsRow 0 118 1 v' (e0.file.blocks.length + 1) ((e0.lay.bs.map fun b=>sliceV b D.B) ++ [sliceV g D.B])) (hgr:(w2.alloc o).grownBy w3 e0.lay.sv.ownBlock) (hfr:v'.ownBlock = e0.lay.sv.ownBlock ∨ v'.ownBlock = some (w2.alloc o).heap.size) (hlo:lo ≤ w.heap.size) :
  Rep (w3.setCell ⟨e0.lay.fb,1,none⟩ v') lo p mf mt { D with ents:=setE k { e0.file with blocks:=e0.file.blocks ++ [nb] } ⟨e0.lay.fb,v',e0.lay.bs ++ [g]⟩ D.ents } ∧ Tc e0.lay.foot w (w3.setCell ⟨e0.lay.fb,1,none⟩ v') ∧
   ∀ b ∈ (⟨e0.lay.fb,v',e0.lay.bs ++ [g]⟩:Lay).foot,b ∈ e0.lay.foot ∨ w.heap.size ≤ b:=by
 obtain ⟨he0,hk0⟩:=fEm hf
 have hat:=R.each e0 he0
 have hnd:=R.parts.1 e0 he0
 have hfb:=hat.lt e0.lay.fb (by simp [Lay.foot])
 have hs2:=h2.size
 have hsz:(w2.alloc o).heap.size = w2.heap.size + 1:=by simp
 have hfoot0:e0.lay.foot = e0.lay.fb :: (e0.lay.sv.ownBlock.toList ++ e0.lay.bs):=rfl
 rw [hfoot0,List.nodup_cons] at hnd
 have hnd2:=hnd.2
 rw [List.nodup_append] at hnd2
 have hsub:∀ b ∈ (⟨e0.lay.fb,v',e0.lay.bs ++ [g]⟩:Lay).foot,b ∈ e0.lay.foot ∨ w.heap.size ≤ b:=by
  intro b hb
  simp only [Lay.foot,List.mem_cons,List.mem_append,Option.mem_toList,List.not_mem_nil,or_false] at hb ⊢
  rcases hb with h | h | h | h
  ·exact .inl (.inl h)
  ·rcases hfr with e | e
   ·rw [e] at h; exact .inl (.inr (.inl h))
   ·rw [e] at h; simp at h; right; omega
  ·exact .inl (.inr (.inr h))
  ·right; omega
 have ht:Tc e0.lay.foot w (w3.setCell ⟨e0.lay.fb,1,none⟩ v'):=by
  refine (((h2.mono (by simp)).alloc o).grown hgr ?_).setCell (.inl (by simp [Lay.foot])) _
  intro x hx
  exact .inl (by simp [Lay.foot,hx])
 have hrow3:w3.heap[e0.lay.fb]? = some (.cells #[.int .i64 (if e0.file.shut then 1 else 0),e0.lay.sv] 160 (0,0)):=by
  rw [hgr.block _ (by omega) (fun e=>hnd.1 (by simp [← e])),Below.heap_alloc _ _ _ (by omega),h2.block _ hfb (by simp)]
  exact hat.row
 have hvb:∀ x,v'.ownBlock = some x → x ≠ e0.lay.fb:=by
  intro x hx
  rcases hfr with e | e
  ·rw [e] at hx; intro e2; subst e2; exact hnd.1 (by simp [hx])
  ·rw [e] at hx; simp at hx; omega
 have hbytes:∀ (i b:Nat) (bl:List UInt8),e0.lay.bs[i]? = some b → e0.file.blocks[i]? = some bl → bl.length = D.B ∧ BytesAt (w3.setCell ⟨e0.lay.fb,1,none⟩ v') b bl:=by
  intro i b bl hb' hbl
  have h1:=hat.bytes i b bl hb' hbl
  have hm:b ∈ e0.lay.bs:=List.mem_of_getElem? hb'
  have hlt:=hat.lt b (by simp [Lay.foot,hm])
  refine ⟨h1.1,?_⟩
  show (w3.setCell _ _).heap[b]? = _
  rw [Below.heap_setCell _ _ _ _ (fun e=>hnd.1 (by have e':b = e0.lay.fb:=e; simp [← e',hm])),hgr.block _ (by omega) (fun e=>hnd2.2.2 b (by simp [← e]) b hm rfl),Below.heap_alloc _ _ _ (by omega),h2.block _ hlt (by simp)]
  exact h1.2
 refine ⟨R.setFile hf rfl ⟨?_,⟨?_,?_⟩,?_⟩ hsub ?_ ht hlo,ht,hsub⟩
 ·rw [sRw hrow3 1]
  rfl
 ·have:=hat.len
  simp [this]
 ·rcases hown.2 with ⟨h,h'⟩ | ⟨g',cap,cur,h,hb0,hgg,r1,r2,r3,r4⟩
  ·omega
  ·refine .inr ⟨g',cap,cur,by rw [h]; simp,hb0,?_,by simpa using r1,r2,r3,?_⟩
   ·rw [Below.heap_setCell _ _ _ _ (fun e=>hvb g' (by rw [h]; rfl) e)]
    exact hgg
   ·simp only [List.length_append,List.length_cons,List.length_nil,List.map_append,List.map_cons,List.map_nil]
    exact r4
 ·intro i b bl hb' hbl
  have hlen:=hat.len
  by_cases hi:i < e0.lay.bs.length
  ·rw [List.getElem?_append_left hi] at hb'
   rw [List.getElem?_append_left (by omega)] at hbl
   exact hbytes i b bl hb' hbl
  ·have hi':i = e0.lay.bs.length:=by
    have:=(List.getElem?_eq_some_iff.1 hb').1
    simp at this
    omega
   subst hi'
   simp at hb'
   rw [hlen] at hbl
   simp at hbl
   subst hb' hbl
   refine ⟨hnb,?_⟩
   show (w3.setCell _ _).heap[g]? = _
   rw [Below.heap_setCell _ _ _ _ (by show g ≠ e0.lay.fb; omega),hgr.block _ (by omega) (fun e=>by have:=hat.lt g (by simp [Lay.foot,← e]); omega),Below.heap_alloc _ _ _ hg2]
   exact hb
 ·show (e0.lay.fb :: (v'.ownBlock.toList ++ (e0.lay.bs ++ [g]))).Nodup
  have hgn:g ∉ e0.lay.bs:=fun h=>by have:=hat.lt g (by simp [Lay.foot,h]); omega
  rw [List.nodup_cons,List.nodup_append]
  refine ⟨?_,?_,?_,?_⟩
  ·simp only [List.mem_append,Option.mem_toList,List.mem_cons,List.not_mem_nil,or_false,not_or]
   refine ⟨fun h=>hvb _ h rfl,fun h=>hnd.1 (by simp [h]),by omega⟩
  ·cases v'.ownBlock <;> simp
  ·rw [List.nodup_append]
   exact ⟨hnd2.2.1,by simp,fun x hx y hy=>by simp at hy; subst hy; exact fun e=>hgn (e ▸ hx)⟩
  ·intro x hx y hy
   simp only [Option.mem_toList] at hx
   simp only [List.mem_append,List.mem_cons,List.not_mem_nil,or_false] at hy
   rcases hfr with e | e
   ·rw [e] at hx
    rcases hy with hy | hy
    ·exact hnd2.2.2 x (by simp [hx]) y hy
    ·have:=hat.lt x (by simp [Lay.foot,hx]); omega
   ·rw [e] at hx
    simp at hx
    rcases hy with hy | hy
    ·have:=hat.lt y (by simp [Lay.foot,hy]); omega
    ·omega
theorem put1_facts (R:Rep w lo p mf mt D) {k:List UInt8} {e0:Ent} (hf:findE D.ents k = some e0) {bl:List UInt8} (hbl:bl.length = D.B) {bf bb:Nat} {a:Addr} {c:Nat}
  (hbf:w.heap[bf]? = some (.cells #[ptr e0.lay.fb] 128 (0,0))) (hbb:w.heap[bb]? = some (.cells #[.slice (some a) bl.length c] 118 (0,0))) {bd:Nat} (hbd:w.heap[bd]? = some (.cells #[ptr p] 32 (0,0))) :
  ∀ w2,Tc [] w.drew w2 → w2.cell? ⟨bf,0,none⟩ = some (ptr e0.lay.fb) ∧ w2.cell? ⟨bb,0,none⟩ = some (.slice (some a) bl.length c) ∧ w2.cell? ⟨e0.lay.fb,1,none⟩ = some e0.lay.sv ∧ w2.frozen? ⟨e0.lay.fb,1,none⟩ = false ∧ (bf < w2.heap.size ∧ bb < w2.heap.size ∧ e0.lay.fb < w2.heap.size) ∧
   Hid ((w2.alloc (.cells #[sliceV w.heap.size bl.length] 118)).ownsRow 0 118 1 e0.lay.sv e0.file.blocks.length (e0.lay.bs.map fun b=>sliceV b bl.length) ∧ (w2.alloc (.cells #[sliceV w.heap.size bl.length] 118)).cell? ⟨w2.heap.size,0,none⟩ = some (sliceV w.heap.size bl.length) ∧
    ∀ w3,(w2.alloc (.cells #[sliceV w.heap.size bl.length] 118)).grownBy w3 e0.lay.sv.ownBlock → w3.cell? ⟨bf,0,none⟩ = some (ptr e0.lay.fb) ∧ w3.cell? ⟨e0.lay.fb,1,none⟩ = some e0.lay.sv ∧ w3.frozen? ⟨e0.lay.fb,1,none⟩ = false ∧ w3.cell? ⟨bd,0,none⟩ = some (ptr p)):=by
 intro w2 ht
 obtain ⟨he0,hk0⟩:=fEm hf
 have hat:=R.each e0 he0
 have hnd:=R.parts.1 e0 he0
 have hfoot0:e0.lay.foot = e0.lay.fb :: (e0.lay.sv.ownBlock.toList ++ e0.lay.bs):=rfl
 rw [hfoot0,List.nodup_cons] at hnd
 have hbf2:w2.heap[bf]? = some (.cells #[ptr e0.lay.fb] 128 (0,0)):=(ht.block _ (ltB (w:=w) hbf) (by simp)).trans hbf
 have hbb2:w2.heap[bb]? = some (.cells #[.slice (some a) bl.length c] 118 (0,0)):=(ht.block _ (ltB (w:=w) hbb) (by simp)).trans hbb
 have hrow:=hat.row
 have hrow2:=(ht.block _ (ltB (w:=w) hrow) (by simp)).trans hrow
 have hnb:e0.lay.sv.ownBlock ≠ some bf:=by
  intro e
  rcases hat.own.2 with ⟨h,_⟩ | ⟨g,cap,cur,h,_,hg,_⟩
  ·rw [h] at e; simp [Value.ownBlock] at e
  ·rw [h] at e; simp [Value.ownBlock] at e; subst e; rw [hbf] at hg; simp at hg
 have hbd2:w2.heap[bd]? = some (.cells #[ptr p] 32 (0,0)):=(ht.block _ (ltB (w:=w) hbd) (by simp)).trans hbd
 have hnd':e0.lay.sv.ownBlock ≠ some bd:=by
  intro e
  rcases hat.own.2 with ⟨h,_⟩ | ⟨g,cap,cur,h,_,hg,_⟩
  ·rw [h] at e; simp [Value.ownBlock] at e
  ·rw [h] at e; simp [Value.ownBlock] at e; subst e; rw [hbd] at hg; simp at hg
 have hnf:e0.lay.sv.ownBlock ≠ some e0.lay.fb:=fun e=>hnd.1 (by simp [e])
 refine ⟨cRw hbf2 0,cRw hbb2 0,cRw hrow2 1,uRw hrow2 1,⟨ltB hbf2,ltB hbb2,ltB hrow2⟩,?_,?_,?_⟩
 ·have:=ownsRow_touch (w:=w.drew) hat.own ht (by simp)
  rw [← hbl] at this
  exact this.alloc _
 ·exact cRw (heap_alloc_new w2 _) 0
 ·intro w3 hg
  have e1:w3.heap[bf]? = some (.cells #[ptr e0.lay.fb] 128 (0,0)):=by
   rw [hg.block _ (by simp; have:=ltB hbf2; omega) hnb.symm,Below.heap_alloc _ _ _ (ltB hbf2)]; exact hbf2
  have e2:=(hg.block _ (by simp; have:=ltB hrow2; omega) hnf.symm).trans ((Below.heap_alloc _ _ _ (ltB hrow2)).trans hrow2)
  have e3:w3.heap[bd]? = some (.cells #[ptr p] 32 (0,0)):=by
   rw [hg.block _ (by simp; have:=ltB hbd2; omega) hnd'.symm,Below.heap_alloc _ _ _ (ltB hbd2)]; exact hbd2
  exact ⟨cRw e1 0,cRw e2 1,uRw e2 1,cRw e3 0⟩
theorem put1_fin (R:Rep w lo p mf mt D) {n:List UInt8} {e0:Ent} (hf:findE D.ents n = some e0) {bl:List UInt8} (hbl:bl.length = D.B) (hlo:lo ≤ w.heap.size) {k:Int} (w2:World) (o:Obj) (g cap:Nat) (w3:World)
  (hb:BytesAt w2 w.drew.heap.size (cutB k.toNat bl)) (ht:Tc [] w.drew w2) (hz:w2.heap.size = w.drew.heap.size + 1)
  (r1:w3.ownsRow 0 118 1 (.slice (some ⟨g,0,none⟩) (e0.file.blocks.length + 1) cap) (e0.file.blocks.length + 1) ((e0.lay.bs.map fun b=>sliceV b bl.length) ++ [sliceV w.heap.size bl.length])) (r2:(w2.alloc o).grownBy w3 e0.lay.sv.ownBlock) (r3:some g = e0.lay.sv.ownBlock ∨ g = (w2.alloc o).heap.size) :
  Rep (w3.setCell ⟨e0.lay.fb,1,none⟩ (.slice (some ⟨g,0,none⟩) (e0.file.blocks.length + 1) cap)) lo p mf mt { D with ents:=setE n { e0.file with blocks:=e0.file.blocks ++ [cutB k.toNat bl] } ⟨e0.lay.fb,.slice (some ⟨g,0,none⟩) (e0.file.blocks.length + 1) cap,e0.lay.bs ++ [w.heap.size]⟩ D.ents } ∧
   Tc e0.lay.foot w (w3.setCell ⟨e0.lay.fb,1,none⟩ (.slice (some ⟨g,0,none⟩) (e0.file.blocks.length + 1) cap)) ∧
   ∀ b ∈ (⟨e0.lay.fb,.slice (some ⟨g,0,none⟩) (e0.file.blocks.length + 1) cap,e0.lay.bs ++ [w.heap.size]⟩:Lay).foot,b ∈ e0.lay.foot ∨ w.heap.size ≤ b:=by
 have ht':Tc [] w w2:=((Tc.refl [] w).drew).trans ht (by simp)
 rw [hbl] at r1
 refine R.put hf (by rw [cutB_length]; exact hbl) (Nat.le_refl _) ?_ ht' hb r1 r2 ?_ hlo
 ·have:w.drew.heap.size = w.heap.size:=rfl
  omega
 ·rcases r3 with h | h
  ·exact .inl h
  ·right; rw [← h]; rfl
set_option maxRecDepth 100000 in
set_option maxHeartbeats 4000000 in
theorem put1_any (R:Rep w lo p mf mt D) {s:ByteArray} (k:Int) (hk:0 ≤ k) (bf bb bd:Nat) {e0:Ent} (hf:findE D.ents (nm s) = some e0) (hS:Small D.pub) {bl:List UInt8} (a:Addr) (c:Nat) (hbl:bl.length = D.B) (hc:bl.length ≤ c)
  (hsrc:∀ j v,(Lib.byteCells bl)[j]? = some v → w.cell? (a.add j) = some v) (ha:a.block < w.heap.size) (hlo:lo ≤ w.heap.size)
  (hbf:w.heap[bf]? = some (.cells #[ptr e0.lay.fb] 128 (0,0))) (hbb:w.heap[bb]? = some (.cells #[.slice (some a) bl.length c] 118 (0,0))) (hbd:w.heap[bd]? = some (.cells #[ptr p] 32 (0,0))) :
  Calls Tryz.prog 250 #[.int .i64 k,ptr bf,ptr bb,ptr bd] w fun e w'=>e = .returned (.tuple #[]) ∧
   (∃ L,Rep w' lo p mf mt { D with ents:=setE (nm s) { e0.file with blocks:=e0.file.blocks ++ [cutB k.toNat bl] } L D.ents,c:={ D.c with used:=D.c.used + 1,most:=max D.c.most (D.c.used + 1) } } ∧ ∀ b ∈ L.foot,b ∈ e0.lay.foot ∨ w.heap.size ≤ b) ∧ Tc (p :: e0.lay.foot) w w':=by
 have hat:=R.each e0 (fEm hf).1
 have cf:=cRw hbf 0
 have cb:=cRw hbb 0
 have c1:=cRw hat.row 1
 simp at cf cb c1
 have hB:=hS.size
 simp only [DkC.pub] at hB
 have hn:=hS.blocks e0.pub (List.mem_map.2 ⟨e0,(fEm hf).1,rfl⟩)
 simp only [Ent.pub] at hn
 have lbf:=ltB hbf
 have lfb:=ltB hat.row
 have lbb:=ltB hbb
 have hpos:0 < bl.length:=by omega
 have HC:=hid (copyBlock_any bl a c k w.drew hpos hc (by omega) hk (fun j v h=>hsrc j v h) ha)
 have HK:=hid (put1_facts R hf hbl hbf hbb hbd)
 have hne:bd ≠ e0.lay.fb:=by intro e; have:=hat.row; rw [← e,hbd] at this; simp at this
 have HFIN:=hid (put1_fin (k:=k) R hf hbl hlo)
 have hu1:=hS.used.1
 have hu2:=hS.used.2
 simp only [DkC.pub] at hu1 hu2
 clear hat hbf hbb hbd hf hS hB hbl hsrc R
 go_enter Tryz.func250,Tryz.ntmps250
 go_wp2
 go_region_law (first
  |(refine step_append_fresh rfl _ _ rfl e0.lay.sv e0.file.blocks.length _ ⟨w2.heap.size,0,none⟩ (sliceV w.heap.size bl.length) rfl rfl ho2.out.1 ho2.out.2.1 rfl hn (fun g cap w3 r1 r2 r3=>?_); obtain ⟨z1,z2,z3,z4⟩:=ho2.out.2.2 w3 r2; have H1:=hid r1; have H2:=hid r2; have H3:=hid r3; clear r1 r2 r3)
  |(go_simp; go_at_call 173; refine HC.out.mono ?_; rintro e w2 ⟨rfl,hb2,ht2,hz2⟩; obtain ⟨y1,y2,y3,y4,⟨l1,l2,l3⟩,ho2⟩:=HK.out w2 ht2; have HB2:=hid hb2; have HZ2:=hid hz2; have HT2:=hid ht2; clear hb2 hz2 ht2))
 all_goals
  obtain ⟨R4,t4,s4⟩:=HFIN.out w2 _ g cap w3 HB2.out HT2.out HZ2.out H1.out H2.out H3.out
  have HR4:=hid R4
  clear R4
  go_wp2_with (go_at_call 80; refine (use_any HR4.out 1 hu1 hu2 (by omega) (by omega)).mono ?_; rintro e w5 ⟨rfl,hR5,ht5⟩)
  go_end0
  exact ⟨rfl,⟨_,hR5,s4⟩,(t4.mono (G:=p :: e0.lay.foot) (fun b hb=>List.mem_cons_of_mem _ hb)).trans ht5 (by simp)⟩
end
section
variable {w w':World} {E:Nat → Addr} {lo p mf mt:Nat} {D:DkC}
set_option maxHeartbeats 400000 in
theorem put_err (s:ByteArray) (i:Nat) (bv:Value)
  (hf:∀ o1 o2:Obj,Calls Tryz.prog 86 #[ptr p,.string s] ((w.alloc o1).alloc o2) fun e w'=>e = .returned (.tuple #[.pointer none,errV E i]) ∧ ∃ n,w' = ((w.alloc o1).alloc o2).drewN n) {sa:Option Addr} {n c:Nat} (hbv:bv = .slice sa n c) :
  Calls Tryz.prog 231 #[ptr p,.string s,bv] w fun e w'=>e = .returned (errV E i) ∧ Tc [] w w':=by
 subst hbv
 have H:=hid hf
 clear hf
 go_enter Tryz.func231,Tryz.ntmps231
 go_wp2_with (go_at_call 86; refine (H.out _ _).mono ?_; rintro e w1 ⟨rfl,hq⟩; have HQ:=hid (Quiet.touch hq []); clear hq)
 go_ret
 exact ⟨rfl,((((Tc.refl [] w).alloc _).alloc _).trans HQ.out (by simp)).alloc _⟩
set_option maxRecDepth 100000 in
set_option maxHeartbeats 400000 in
theorem put_no (V:Env w lo E) (R:Rep w lo p mf mt D) (s:ByteArray) (ho:D.on = true) (hn:nameB s = true) {e0:Ent} (hf:findE D.ents (nm s) = some e0) {sa:Option Addr} {n c:Nat} (j:Nat)
  (hj:(e0.file.shut = true ∧ j = 6) ∨ (e0.file.shut = false ∧ n ≠ D.B ∧ j = 8) ∨ (e0.file.shut = false ∧ n = D.B ∧ D.Bs ≤ D.c.used ∧ j = 9)) :
  Calls Tryz.prog 231 #[ptr p,.string s,.slice sa n c] w fun e w'=>e = .returned (errV E j) ∧ Tc [] w w':=by
 obtain ⟨W,hW⟩:∃ W,W = (w.alloc (.cells #[ptr p] 32)).alloc (.cells #[.slice sa n c] 118):=⟨_,rfl⟩
 have hW1:W.heap[w.heap.size]? = some (.cells #[ptr p] 32) ∧ W.heap[w.heap.size + 1]? = some (.cells #[.slice sa n c] 118):=by rw [hW]; exact heap_two w _ _
 have hTW:Tc [] w W:=by rw [hW]; exact ((Tc.refl [] w).alloc _).alloc _
 have VW:Env W lo E:=V.touch hTW (by simp)
 have RW:Rep W lo p mf mt D:=R.touch hTW (by simp)
 have H:=hid (find_some RW s ho hn hf)
 have hat:=RW.each e0 (fEm hf).1
 have hrow:=hat.row
 have lfb:=ltB hrow
 have hp:=ltB RW.row
 have c0:=cRw hrow 0
 simp at c0
 have x0:=RW.cell 0
 have x1:=RW.cell 1
 have x10:=RW.cell 10
 simp only [dRow] at x0 x1 x10
 have c6:=VW.sents.var6
 have c8:=VW.sents.var8
 have c9:=VW.sents.var9
 have l9:1 < W.heap.size:=by have:=VW.vars; have:=VW.room; omega
 have LX:=hid (show 10 < W.heap.size by have:=VW.vars; have:=VW.room; omega)
 have cd:=cRw hW1.1 0
 have cb:=cRw hW1.2 0
 have lz:w.heap.size + 1 < W.heap.size:=ltB hW1.2
 simp at cd cb
 have HE:=hid hW
 have HTW:=hid hTW
 clear hf R RW hW1 hTW hW V VW hat hrow
 rcases hj with ⟨hs,rfl⟩ | ⟨hs,hne,rfl⟩ | ⟨hs,rfl,hu,rfl⟩
 all_goals
  rw [hs] at c0
  simp at c0
  clear hs
 ·go_enter Tryz.func231,Tryz.ntmps231
  go_wp2_with fail
  rw [← HE.out]
  refine H.out.mono ?_
  rintro e w1 ⟨rfl,hq⟩
  have d0:=(Quiet.cell hq _).trans c0
  have d6:=(Quiet.cell hq _).trans c6
  have ee:=Quiet.heap hq
  have l1:e0.lay.fb < w1.heap.size:=by rw [ee]; exact lfb
  have l6:4 < w1.heap.size:=by have:=LX.out; rw [ee]; omega
  have HQ:=hid (Quiet.touch hq [])
  clear hq ee c0 c6 c8 c9 x0 x1 x10 cd cb lfb hp l9 lz
  go_wp2
  go_ret
  exact ⟨rfl,(HTW.out.trans HQ.out (by simp)).alloc _⟩
 ·have hnb:((n:Int) != (D.B:Int)) = true:=by simp; omega
  go_enter Tryz.func231,Tryz.ntmps231
  go_wp2_with fail
  rw [← HE.out]
  refine H.out.mono ?_
  rintro e w1 ⟨rfl,hq⟩
  have d0:=(Quiet.cell hq _).trans c0
  have d8:=(Quiet.cell hq _).trans c8
  have y0:=(Quiet.cell hq _).trans x0
  have yd:=(Quiet.cell hq _).trans cd
  have yb:=(Quiet.cell hq _).trans cb
  have ee:=Quiet.heap hq
  have l1:e0.lay.fb < w1.heap.size:=by rw [ee]; exact lfb
  have l2:p < w1.heap.size:=by rw [ee]; exact hp
  have l3:w.heap.size < w1.heap.size:=by rw [ee]; omega
  have l4:w.heap.size + 1 < w1.heap.size:=by rw [ee]; omega
  have l8:9 < w1.heap.size:=by have:=LX.out; rw [ee]; omega
  have HQ:=hid (Quiet.touch hq [])
  clear hq ee c0 c6 c8 c9 x0 x1 x10 cd cb lfb hp l9 lz hne
  go_wp2
  go_quiet (fail)
  go_wp2
  go_ret
  exact ⟨rfl,((HTW.out.trans HQ.out (by simp)).alloc _).drewN _⟩
 ·have hnb:((D.B:Int) != (D.B:Int)) = false:=by simp
  go_enter Tryz.func231,Tryz.ntmps231
  go_wp2_with fail
  rw [← HE.out]
  refine H.out.mono ?_
  rintro e w1 ⟨rfl,hq⟩
  have d0:=(Quiet.cell hq _).trans c0
  have d9:=(Quiet.cell hq _).trans c9
  have y0:=(Quiet.cell hq _).trans x0
  have y1:=(Quiet.cell hq _).trans x1
  have y10:=(Quiet.cell hq _).trans x10
  have yd:=(Quiet.cell hq _).trans cd
  have yb:=(Quiet.cell hq _).trans cb
  have ee:=Quiet.heap hq
  have l1:e0.lay.fb < w1.heap.size:=by rw [ee]; exact lfb
  have l2:p < w1.heap.size:=by rw [ee]; exact hp
  have l3:w.heap.size < w1.heap.size:=by rw [ee]; omega
  have l4:w.heap.size + 1 < w1.heap.size:=by rw [ee]; omega
  have l9':1 < w1.heap.size:=by have:=LX.out; rw [ee]; omega
  have HQ:=hid (Quiet.touch hq [])
  clear hq ee c0 c6 c8 c9 x0 x1 x10 cd cb lfb hp l9 lz
  go_wp2
  go_quiet (fail)
  go_wp2
  go_quiet (fail)
  go_wp2
  go_ret
  exact ⟨rfl,(((HTW.out.trans HQ.out (by simp)).alloc _).drewN _)⟩
end
section
variable {w w':World} {E:Nat → Addr} {lo p mf mt:Nat} {D:DkC}
set_option maxRecDepth 100000 in
set_option maxHeartbeats 400000 in
theorem carry_put (R:Rep w lo p mf mt D) {s:ByteArray} {x k y:Int} (bf bb bd:Nat) (hk1:(k == 1) = false) (hk2:(k == 2) = false) {e0:Ent} (hf:findE D.ents (nm s) = some e0) (hS:Small D.pub) {bl:List UInt8} (a:Addr) (c:Nat) (hbl:bl.length = D.B) (hc:bl.length ≤ c)
  (hsrc:∀ j v,(Lib.byteCells bl)[j]? = some v → w.cell? (a.add j) = some v) (ha:a.block < w.heap.size) (hlo:lo ≤ w.heap.size)
  (hbf:w.heap[bf]? = some (.cells #[ptr e0.lay.fb] 128 (0,0))) (hbb:w.heap[bb]? = some (.cells #[.slice (some a) bl.length c] 118 (0,0))) (hbd:w.heap[bd]? = some (.cells #[ptr p] 32 (0,0))) :
  Calls Tryz.prog 87 #[ptr p,.agg #[.int .i64 x,.int .i64 k,.int .i64 y],.func (.func 250) #[] #[ptr bf,ptr bb,ptr bd]] w fun e w'=>e = .returned .nilIface ∧
   (∃ L,Rep w' lo p mf mt { D with ents:=setE (nm s) { e0.file with blocks:=e0.file.blocks ++ [bl] } L D.ents,c:={ D.c with used:=D.c.used + 1,most:=max D.c.most (D.c.used + 1) } } ∧ ∀ b ∈ L.foot,b ∈ e0.lay.foot ∨ w.heap.size ≤ b) ∧ Tc (p :: e0.lay.foot) w w':=by
 have k0:=R.cell 0
 simp only [dRow] at k0
 have hp:=ltB R.row
 have hcut:cutB ((D.B:Nat):Int).toNat bl = bl:=cutB_whole (by rw [hbl]; simp)
 have hadd:∀ j,(a.add j).block = a.block:=fun j=>by unfold Addr.add; split <;> rfl
 have hsrc':∀ (o:Obj) j v,(Lib.byteCells bl)[j]? = some v → (w.alloc o).cell? (a.add j) = some v:=fun o j v h=>(World.cell?_of_block (Below.heap_alloc w o _ (by rw [hadd]; exact ha))).trans (hsrc j v h)
 have H:=hid (fun o:Obj=>put1_any (R.alloc o) (D.B:Int) (by omega) bf bb bd hf hS a c hbl hc (hsrc' o) (by simp; omega) (by simp; omega) ((Below.heap_alloc w o bf (ltB hbf)).trans hbf) ((Below.heap_alloc w o bb (ltB hbb)).trans hbb) ((Below.heap_alloc w o bd (ltB hbd)).trans hbd))
 rw [hcut] at H
 clear hbf hbb hbd hf hS hsrc hsrc' hadd ha hbl hcut
 go_enter Tryz.func87,Tryz.ntmps87
 go_wp2_with (go_at_call 250; refine (H.out _).mono ?_; rintro e w1 ⟨rfl,⟨L,hR,hL⟩,ht⟩)
 go_ret
 refine ⟨rfl,⟨L,hR,fun b hb=>?_⟩,((Tc.refl _ w).alloc _).trans ht (fun b hb=>.inl hb)⟩
 rcases hL b hb with h | h
 ·exact .inl h
 ·right; simp at h; omega
theorem put_row {w1 w2:World} {b n:Nat} {o o':Obj} (hb:w1.heap[b]? = some o') (ht:Tc [p,mt] ((w1.alloc o).drewN n) w2) (h1:p < b) (h2:mt < b):w2.heap[b]? = some o':=
 (ht.block b (by show b < (w1.alloc o).heap.size; have:=ltB hb; simp; omega) (by simp; omega)).trans ((Below.heap_alloc w1 o b (ltB hb)).trans hb)
theorem put_new {w1 w2:World} {n:Nat} {o:Obj} (ht:Tc [p,mt] ((w1.alloc o).drewN n) w2) (h1:p < w1.heap.size) (h2:mt < w1.heap.size):w2.heap[w1.heap.size]? = some o:=
 (ht.block _ (by show w1.heap.size < (w1.alloc o).heap.size; simp) (by simp; omega)).trans (heap_alloc_new w1 o)
theorem put_keeps {w2 w3:World} {n:List UInt8} (Rw:Rep w lo p mf mt D) {e0:Ent} (hf:findE D.ents n = some e0) (ht:Tc (p :: e0.lay.foot) w2 w3) (hl:w.heap.size < w2.heap.size):w3.cell? ⟨w.heap.size,0,none⟩ = w2.cell? ⟨w.heap.size,0,none⟩:=by
 refine ht.cell (p:=⟨w.heap.size,0,none⟩) hl ?_
 intro h
 rcases List.mem_cons.1 h with h | h
 ·have:=ltB Rw.row
  have h':w.heap.size = p:=h
  omega
 ·have:=(Rw.ent_ne (fEm hf).1 h).2.2.2.1
  have h':(⟨w.heap.size,0,none⟩:Addr).block = w.heap.size:=rfl
  omega
theorem carry_put_at {W w1 w2:World} {s:ByteArray} {x k y:Int} {bf bb bd n:Nat} {o:Obj} (R:Rep w2 lo p mf mt D) (hk1:(k == 1) = false) (hk2:(k == 2) = false) {e0:Ent} (hf:findE D.ents (nm s) = some e0) (hS:Small D.pub) {bl:List UInt8} {a:Addr} {c:Nat} (hbl:bl.length = D.B) (hc:bl.length ≤ c)
  (hsrc:∀ j v,(Lib.byteCells bl)[j]? = some v → w.cell? (a.add j) = some v) (ha:a.block < w.heap.size) (hlo:lo ≤ w.heap.size) (hTW:Tc [] w W) (hq:Quiet W w1) (ht:Tc [p,mt] ((w1.alloc o).drewN n) w2) (hp:a.block ≠ p) (hm:a.block ≠ mt)
  (hbf:w2.heap[bf]? = some (.cells #[ptr e0.lay.fb] 128 (0,0))) (hbb:w2.heap[bb]? = some (.cells #[.slice (some a) D.B c] 118 (0,0))) (hbd:w2.heap[bd]? = some (.cells #[ptr p] 32 (0,0))) :
  Calls Tryz.prog 87 #[ptr p,.agg #[.int .i64 x,.int .i64 k,.int .i64 y],.func (.func 250) #[] #[ptr bf,ptr bb,ptr bd]] w2 fun e w'=>e = .returned .nilIface ∧
   (∃ L,Rep w' lo p mf mt { D with ents:=setE (nm s) { e0.file with blocks:=e0.file.blocks ++ [bl] } L D.ents,c:={ D.c with used:=D.c.used + 1,most:=max D.c.most (D.c.used + 1) } } ∧ ∀ b ∈ L.foot,b ∈ e0.lay.foot ∨ w2.heap.size ≤ b) ∧ Tc (p :: e0.lay.foot) w2 w':=by
 have t2:Tc [p,mt] w w2:=(((((hTW.mono (by simp)).trans (Quiet.touch hq []) (by simp))).alloc _).drewN _).trans ht (by simp)
 have hadd:∀ j,(a.add j).block = a.block:=fun j=>by unfold Addr.add; split <;> rfl
 rw [← hbl] at hbb
 refine carry_put R bf bb bd hk1 hk2 hf hS a c hbl hc (fun j v h=>?_) (by have:=t2.size; omega) (Nat.le_trans hlo t2.size) hbf hbb hbd
 rw [t2.cell (p:=a.add j) (by rw [hadd]; omega) (by rw [hadd]; simp [hp,hm])]
 exact hsrc j v h
set_option maxRecDepth 100000 in
set_option maxHeartbeats 400000 in
theorem put_ok (R:Rep w lo p mf mt D) (s:ByteArray) (ho:D.on = true) (hn:nameB s = true) {e0:Ent} (hf:findE D.ents (nm s) = some e0) (hs:e0.file.shut = false) {bl:List UInt8} {a:Addr} {c:Nat} (hbl:bl.length = D.B) (hc:bl.length ≤ c)
  (hsrc:∀ j v,(Lib.byteCells bl)[j]? = some v → w.cell? (a.add j) = some v) (ha:a.block < w.heap.size) (hpl:a.block ≠ p) (hml:a.block ≠ mt) (hlo:lo ≤ w.heap.size) (hu:D.c.used < D.Bs) {x k y:Int} (hT:TrI D.T D.c.calls x k y) (hk1:(k == 1) = false) (hk2:(k == 2) = false) (hS:Small D.pub) (hcc:D.c.calls + 1 ≤ 1099511627776) :
  Calls Tryz.prog 231 #[ptr p,.string s,.slice (some a) D.B c] w fun e w'=>e = .returned .nilIface ∧
   (∃ L,Rep w' lo p mf mt { D.numbered with ents:=setE (nm s) { e0.file with blocks:=e0.file.blocks ++ [bl] } L D.ents,c:={ D.numbered.c with used:=D.c.used + 1,most:=max D.c.most (D.c.used + 1) } } ∧ ∀ b ∈ L.foot,b ∈ e0.lay.foot ∨ w.heap.size ≤ b) ∧ Tc (p :: mt :: e0.lay.foot) w w':=by
 obtain ⟨W,hW⟩:∃ W,W = (w.alloc (.cells #[ptr p] 32)).alloc (.cells #[.slice (some a) D.B c] 118):=⟨_,rfl⟩
 have hW1:W.heap[w.heap.size]? = some (.cells #[ptr p] 32) ∧ W.heap[w.heap.size + 1]? = some (.cells #[.slice (some a) D.B c] 118):=by rw [hW]; exact heap_two w _ _
 have hTW:Tc [] w W:=by rw [hW]; exact ((Tc.refl [] w).alloc _).alloc _
 have RW:Rep W lo p mf mt D:=R.touch hTW (by simp)
 have H:=hid (find_some RW s ho hn hf)
 have hrow:=(RW.each e0 (fEm hf).1).row
 have lfb:=ltB hrow
 have hp:=ltB RW.row
 have hpw:=ltB R.row
 have HR0:=hid R
 have hmw:mt < w.heap.size:=R.lt mt (by simp [DkC.foot])
 have c0:=cRw hrow 0
 rw [hs] at c0
 simp at c0
 have x0:=RW.cell 0
 have x1:=RW.cell 1
 have x10:=RW.cell 10
 simp only [dRow] at x0 x1 x10
 have cd:=cRw hW1.1 0
 have cb:=cRw hW1.2 0
 have lz:w.heap.size + 1 < W.heap.size:=ltB hW1.2
 simp at cd cb
 have hnb:((D.B:Int) != (D.B:Int)) = false:=by simp
 have h0:=hS.calls.1
 have h1:=hS.calls.2
 simp only [DkC.pub] at h0 h1
 have HE:=hid hW
 have HTW:=hid hTW
 have HR:=hid RW
 have HF:=hid hf
 have HS:=hid (small_number hS hcc)
 have HW:=hid hW1
 have HBL:=hid hbl
 have HSRC:=hid hsrc
 clear hf R RW hW1 hTW hW hrow hS hs hbl hsrc
 go_enter Tryz.func231,Tryz.ntmps231
 go_wp2_with fail
 rw [← HE.out]
 refine H.out.mono ?_
 rintro e w1 ⟨rfl,hq⟩
 have d0:=(Quiet.cell hq _).trans c0
 have y0:=(Quiet.cell hq _).trans x0
 have y1:=(Quiet.cell hq _).trans x1
 have y10:=(Quiet.cell hq _).trans x10
 have yd:=(Quiet.cell hq _).trans cd
 have yb:=(Quiet.cell hq _).trans cb
 have ee:=Quiet.heap hq
 have l1:e0.lay.fb < w1.heap.size:=by rw [ee]; exact lfb
 have l2:p < w1.heap.size:=by rw [ee]; exact hp
 have l3:w.heap.size < w1.heap.size:=by rw [ee]; omega
 have l4:w.heap.size + 1 < w1.heap.size:=by rw [ee]; omega
 have hb1:Hid (w1.heap[w.heap.size]? = some (.cells #[ptr p] 32)):=(congrArg (fun h=>h[w.heap.size]?) ee).trans HW.out.1
 have hb2:Hid (w1.heap[w.heap.size + 1]? = some (.cells #[.slice (some a) D.B c] 118)):=(congrArg (fun h=>h[w.heap.size + 1]?) ee).trans HW.out.2
 have HQ:=hid hq
 clear hq ee c0 x0 x1 x10 cd cb lfb hp lz
 go_wp2
 go_quiet (fail)
 go_wp2
 go_quiet (fail)
 go_wp2
 go_region_held3 (fun W'=>W'.cell? ⟨w.heap.size,0,none⟩ = some (ptr p)) (go_keep)
  (first
   |(go_at_call 88; refine (number_any (((Quiet.rep HQ.out HR.out).alloc (.cells #[ptr e0.lay.fb] 128)).drewN _) hT h0 h1).mono ?_; rintro e w2 ⟨rfl,hR2,ht2⟩; have r0:=hid (put_row (o:=.cells #[ptr e0.lay.fb] 128) hb1.out ht2 hpw hmw); have r1:=hid (put_row (o:=.cells #[ptr e0.lay.fb] 128) hb2.out ht2 (by omega) (by omega)); have r2:=hid (put_new (o:=.cells #[ptr e0.lay.fb] 128) ht2 l2 (by omega)); have z2:w2.cell? ⟨w.heap.size,0,none⟩ = some (ptr p):=cRw r0.out 0)
   |(go_at_call 87; refine (carry_put_at hR2 hk1 hk2 HF.out HS.out HBL.out hc HSRC.out ha hlo HTW.out HQ.out ht2 hpl hml r2.out r1.out r0.out).mono ?_; rintro e w3 ⟨rfl,⟨L,hR3,hL⟩,ht3⟩; have z3:w3.cell? ⟨w.heap.size,0,none⟩ = some (ptr p):=(put_keeps HR0.out HF.out ht3 (ltB r0.out)).trans z2))
 all_goals
  go_wp2
  go_ret
  have t2:Tc [p,mt] w w2:=(((((HTW.out.mono (by simp)).trans (Quiet.touch HQ.out []) (by simp))).alloc _).drewN _).trans ht2 (by simp)
  refine ⟨rfl,⟨L,hR3,fun b hb=>?_⟩,(t2.mono (by simp)).trans ht3 (fun b hb=>by rcases List.mem_cons.1 hb with h | h <;> simp [h])⟩
  rcases hL b hb with h | h
  ·exact .inl h
  ·right; have:=t2.size; omega
set_option maxRecDepth 100000 in
set_option maxHeartbeats 400000 in
theorem answer_full (S:Sents w E) (R:Rep w lo p mf mt D) (h0:0 ≤ D.c.full) (h1:D.c.full ≤ 1099511627776) (S':∀ v,Sents (w.setCell ⟨p,9,none⟩ v) E) :
  Calls Tryz.prog 42 #[ptr p,errV E 9] w fun e w'=>e = .returned (.int .i64 17) ∧ Rep w' lo p mf mt { D with c:={ D.c with full:=D.c.full + 1 } } ∧ Tc [p] w w':=by
 have c1:=S.var1
 have c9:=S.var9
 have k9:=R.cell 9
 have f9:=R.unfrozen 9
 simp only [dRow] at k9
 have H1:=hid (is_at S 9 1 (by omega) (by omega))
 have H9:=hid (is_at S 9 9 (by omega) (by omega))
 have HT:=hid (fun v=>tell_err (S' v) 9 (by omega))
 have HR:=hid R
 clear S' R
 go_enter Tryz.func42,Tryz.ntmps42
 go_wp2_with fail
 refine H1.out.mono ?_
 rintro e w1 ⟨rfl,rfl⟩
 go_wp2_with fail
 refine H9.out.mono ?_
 rintro e w1 ⟨rfl,rfl⟩
 go_wp2_with fail
 refine (HT.out _).mono ?_
 rintro e w1 ⟨rfl,rfl⟩
 go_wp2
 go_ret
 have t:Tc [p] w1 (w1.setCell ⟨p,9,none⟩ (.int .i64 (D.c.full + 1))):=(Tc.refl [p] w1).setCell (by simp) _
 refine ⟨rfl,HR.out.setRow rfl rfl rfl t ?_,t⟩
 rw [sRw HR.out.row 9]
 rfl
def appendA (s:ByteArray) (bl:List UInt8) (A:PubA):Int × PubA:=
 if nameB s then
  match findA A.files (nm s) with
  | none=>(12,A)
  | some f =>
   if f.shut then (14,A) else if bl.length ≠ A.B then (16,A) else if A.Bs ≤ A.c.used then (17,{ A with c:={ A.c with full:=A.c.full + 1 } })
   else (0,{ A with files:=setA (nm s) { f with blocks:=f.blocks ++ [bl] } A.files,c:={ A.c with calls:=A.c.calls + 1,appends:=A.c.appends + 1,used:=A.c.used + 1,most:=max A.c.most (A.c.used + 1) } })
 else (11,A)
structure Hand (w:World) (p mf mt:Nat) (D:DkC) (sa:Option Addr) (n c:Nat) (bl:List UInt8):Prop where
 len:bl.length = n
 cap:n ≤ c
 at_:0 < n → ∃ a,sa = some a ∧ a.block < w.heap.size ∧ a.block ∉ D.foot p mf mt ∧ ∀ j v,(Lib.byteCells bl)[j]? = some v → w.cell? (a.add j) = some v
end
section
variable {w w':World} {E:Nat → Addr} {lo p mf mt:Nat} {D:DkC}
abbrev DkC.off (D:DkC):DkC:={ D with on:=false }
set_option maxHeartbeats 400000 in
theorem carry_fault (V:Env w lo E) (a b:Int) (fv:Value) :
  Calls Tryz.prog 87 #[ptr p,.agg #[.int .i64 a,.int .i64 1,.int .i64 b],fv] w fun e w'=>e = .returned (errV E 1) ∧ Tc [] w w':=by
 have c1:∀ o:Obj,(w.alloc o).cell? ⟨0,0,none⟩ = some (errV E 1):=fun o=>(V.alloc o).sents.var1
 go_enter Tryz.func87,Tryz.ntmps87
 go_wp2
 go_ret
 exact ⟨rfl,(Tc.refl [] w).alloc _⟩
theorem Rep.off (R:Rep w lo p mf mt D):Rep (w.setCell ⟨p,2,none⟩ (.bool false)) lo p mf mt D.off ∧ Tc [p] w (w.setCell ⟨p,2,none⟩ (.bool false)):=by
 have ht:Tc [p] w (w.setCell ⟨p,2,none⟩ (.bool false)):=(Tc.refl [p] w).setCell (by simp) _
 refine ⟨R.setRow rfl rfl rfl ht ?_,ht⟩
 rw [sRw R.row 2]
 rfl
set_option maxHeartbeats 400000 in
theorem carry_cut0 (V:Env w lo E) (R:Rep w lo p mf mt D) (a b:Int) (hb:b ≤ 0) (fv:Value) :
  Calls Tryz.prog 87 #[ptr p,.agg #[.int .i64 a,.int .i64 2,.int .i64 b],fv] w fun e w'=>e = .returned (errV E 2) ∧ Rep w' lo p mf mt D.off ∧ Tc [p] w w':=by
 have hlop:lo ≤ p:=R.base p (by simp [DkC.foot])
 have VO:=V.touch R.off.2 (by simp; exact hlop)
 have c2:∀ o:Obj,((w.setCell ⟨p,2,none⟩ (.bool false)).alloc o).cell? ⟨6,0,none⟩ = some (errV E 2):=fun o=>(VO.alloc o).sents.var2
 have k2:=R.cell 2
 simp only [dRow] at k2
 have f2:=R.unfrozen 2
 have HR:=hid R.off
 have hp:=ltB R.row
 clear V VO
 go_enter Tryz.func87,Tryz.ntmps87
 go_wp2
 go_ret
 exact ⟨rfl,HR.out.1.alloc _,HR.out.2.alloc _⟩
end
section
variable {w w':World} {E:Nat → Addr} {lo p mf mt:Nat} {D:DkC}
set_option maxRecDepth 100000 in
set_option maxHeartbeats 400000 in
theorem carry_create_cut (V:Env w lo E) (R:Rep w lo p mf mt D) {s:ByteArray} {a b:Int} (bd bn:Nat) (hb:0 < b) (hs:s.size ≤ 32) (hfind:findE D.ents (nm s) = none) (hsmall:D.ents.length ≤ 1099511627776)
  (hbd:w.heap[bd]? = some (.cells #[ptr p] 32 (0,0))) (hbn:w.heap[bn]? = some (.cells #[.string s] 9 (0,0))) :
  Calls Tryz.prog 87 #[ptr p,.agg #[.int .i64 a,.int .i64 2,.int .i64 b],.func (.func 89) #[] #[ptr bd,ptr bn]] w fun e w'=>e = .returned (errV E 2) ∧ (∃ fb,w.heap.size ≤ fb ∧ Rep w' lo p mf mt { D.off with ents:=insE ⟨nm s,⟨false,[]⟩,⟨fb,.slice none 0 0,[]⟩⟩ D.ents }) ∧ Tc [p,mf] w w':=by
 have hlop:lo ≤ p:=R.base p (by simp [DkC.foot])
 have hlom:lo ≤ mf:=R.base mf (by simp [DkC.foot])
 have VO:=V.touch R.off.2 (by simp; exact hlop)
 have RO:=R.off.1
 have TO:=R.off.2
 have hp:=ltB R.row
 have lbd:=ltB hbd
 have lbn:=ltB hbn
 have nbd:bd ≠ p:=fun e=>by subst e; rw [R.row] at hbd; simp [dRow] at hbd
 have nbn:bn ≠ p:=fun e=>by subst e; rw [R.row] at hbn; simp [dRow] at hbn
 have obd:(w.setCell ⟨p,2,none⟩ (.bool false)).heap[bd]? = some (.cells #[ptr p] 32 (0,0)):=(TO.block bd lbd (by simp [nbd])).trans hbd
 have obn:(w.setCell ⟨p,2,none⟩ (.bool false)).heap[bn]? = some (.cells #[.string s] 9 (0,0)):=(TO.block bn lbn (by simp [nbn])).trans hbn
 have hz:(w.setCell ⟨p,2,none⟩ (.bool false)).heap.size = w.heap.size:=by simp [World.setCell]
 have H:=hid (fun o:Obj=>create1_any (RO.alloc o) b bd bn hs hfind (Nat.le_trans V.room (by simp [hz])) hsmall ((Below.heap_alloc _ o bd (by omega)).trans obd) ((Below.heap_alloc _ o bn (by omega)).trans obn))
 have HV:=hid VO
 have HT:=hid TO
 have HZ:=hid hz
 have k2:=R.cell 2
 simp only [dRow] at k2
 have f2:=R.unfrozen 2
 clear hbd hbn hfind V VO RO TO obd obn hz nbd nbn
 go_enter Tryz.func87,Tryz.ntmps87
 go_wp2_with (go_at_call 89; refine (H.out _).mono ?_; rintro e w1 ⟨rfl,⟨fb,hfb,hR⟩,ht⟩; have c2:w1.cell? ⟨6,0,none⟩ = some (errV E 2):=(((HV.out.alloc _).touch ht (by simp; exact hlom)).sents.var2))
 go_ret
 have h1:Tc [p,mf] w w1:=(((HT.out.mono (by simp)).alloc _)).trans ht (by simp)
 exact ⟨rfl,⟨fb,Nat.le_trans (by simp [HZ.out]) hfb,hR⟩,h1⟩
set_option maxRecDepth 100000 in
set_option maxHeartbeats 400000 in
theorem create_gen (V:Env w lo E) (R:Rep w lo p mf mt D) (s:ByteArray) (ho:D.on = true) (hn:nameB s = true) (hf:findE D.ents (nm s) = none) {a k b:Int} (hT:TrI D.T D.c.calls a k b)
  (h0:0 ≤ D.c.calls) (h1:D.c.calls ≤ 1099511627776) {v:Value} {Post:World → World → Prop}
  (HC:∀ (w2:World) (bd bn:Nat),Env w2 lo E → Rep w2 lo p mf mt D.numbered → w.heap.size ≤ w2.heap.size → w2.heap[bd]? = some (.cells #[ptr p] 32 (0,0)) → w2.heap[bn]? = some (.cells #[.string s] 9 (0,0)) →
   Calls Tryz.prog 87 #[ptr p,.agg #[.int .i64 a,.int .i64 k,.int .i64 b],.func (.func 89) #[] #[ptr bd,ptr bn]] w2 fun e w3=>e = .returned v ∧ Post w2 w3 ∧ Tc [p,mf] w2 w3) :
  Calls Tryz.prog 43 #[ptr p,.string s] w fun e w'=>e = .returned v ∧ (∃ w2,w.heap.size ≤ w2.heap.size ∧ Rep w2 lo p mf mt D.numbered ∧ Post w2 w') ∧ Tc [p,mf,mt] w w':=by
 obtain ⟨W,hW⟩:∃ W,W = (w.alloc (.cells #[ptr p] 32)).alloc (.cells #[.string s] 9):=⟨_,rfl⟩
 have hW1:W.heap[w.heap.size]? = some (.cells #[ptr p] 32) ∧ W.heap[w.heap.size + 1]? = some (.cells #[.string s] 9):=by rw [hW]; exact heap_two w _ _
 have hTW:Tc [] w W:=by rw [hW]; exact ((Tc.refl [] w).alloc _).alloc _
 have VW:Env W lo E:=V.touch hTW (by simp)
 have RW:Rep W lo p mf mt D:=R.touch hTW (by simp)
 have H:=hid (find_none VW.sents RW s ho hn hf)
 have H2:=hid (fun n:Nat=>is_at (VW.drewN n).sents 4 4 (by omega) (by omega))
 have c4:∀ n:Nat,(W.drewN n).cell? ⟨3,0,none⟩ = some (errV E 4):=fun n=>(VW.drewN n).sents.var4
 have cd:∀ n:Nat,(W.drewN n).cell? ⟨w.heap.size,0,none⟩ = some (ptr p):=fun n=>cRw (w:=W.drewN n) hW1.1 0
 have cn:∀ n:Nat,(W.drewN n).cell? ⟨w.heap.size + 1,0,none⟩ = some (.string s):=fun n=>cRw (w:=W.drewN n) hW1.2 0
 have HV:=hid VW
 have HR:=hid RW
 have HW:=hid hW1
 have HTW:=hid hTW
 have HE:=hid hW
 have HCC:=hid HC
 have hp:=ltB R.row
 have hmf:=R.files.lt
 have hmt:mt < w.heap.size:=R.lt mt (by simp [DkC.foot])
 have hlop:Hid (lo ≤ p ∧ lo ≤ mt):=hid ⟨R.base p (by simp [DkC.foot]),R.base mt (by simp [DkC.foot])⟩
 clear hf V R VW RW hW1 hTW hW HC
 go_enter Tryz.func43,Tryz.ntmps43
 go_wp2_with fail
 rw [← HE.out]
 refine H.out.mono ?_
 rintro e w1 ⟨rfl,n,rfl⟩
 go_wp2_with (go_at_call 85; refine (H2.out _).mono ?_; rintro e w1 ⟨rfl,rfl⟩)
 go_region_held3 (fun W'=>W'.cell? ⟨w.heap.size,0,none⟩ = some (ptr p)) (go_keep)
  (first
   |(go_at_call 88; refine (number_any (HR.out.drewN _) hT h0 h1).mono ?_; rintro e w2 ⟨rfl,hR2,ht2⟩; have hb2:=HW.out; have z2:w2.cell? ⟨w.heap.size,0,none⟩ = some (ptr p):=number_box hb2.1 ht2 hp hmt; have q2:=hid (number_row hb2.1 ht2 hp hmt); have q3:=hid (number_row hb2.2 ht2 (by omega) (by omega)); clear hb2)
   |(go_at_call 87; refine (HCC.out w2 _ _ ((HV.out.drewN _).touch ht2 (by simp; exact hlop.out)) hR2 (Nat.le_trans HTW.out.size ht2.size) q2.out q3.out).mono ?_; rintro e w3 ⟨rfl,hpost,ht3⟩; have z3:w3.cell? ⟨w.heap.size,0,none⟩ = some (ptr p):=(ht3.cell (p:=⟨w.heap.size,0,none⟩) (ltB q2.out) (by simp; omega)).trans z2))
 all_goals
  go_wp2
  go_ret
  have t3:Tc [p,mf,mt] w w3:=(((HTW.out.mono (by simp)).drewN _).trans ht2 (by simp)).trans ht3 (by simp)
  exact ⟨rfl,⟨w2,Nat.le_trans HTW.out.size ht2.size,hR2,hpost⟩,t3⟩
end
abbrev DkC.faulted (D:DkC):DkC:={ D with c:={ D.c with faults:=D.c.faults + 1 } }
abbrev PubA.faulted (A:PubA):PubA:={ A with c:={ A.c with calls:=A.c.calls + 1,faults:=A.c.faults + 1 } }
abbrev PubA.shut (A:PubA):PubA:={ A with on:=false,c:={ A.c with calls:=A.c.calls + 1 } }
section
variable {w w':World} {E:Nat → Addr} {lo p mf mt:Nat} {D:DkC}
theorem Rep.fault (R:Rep w lo p mf mt D):Rep (w.setCell ⟨p,8,none⟩ (.int .i64 (D.c.faults + 1))) lo p mf mt D.faulted ∧ Tc [p] w (w.setCell ⟨p,8,none⟩ (.int .i64 (D.c.faults + 1))):=by
 have ht:Tc [p] w (w.setCell ⟨p,8,none⟩ (.int .i64 (D.c.faults + 1))):=(Tc.refl [p] w).setCell (by simp) _
 refine ⟨R.setRow rfl rfl rfl ht ?_,ht⟩
 rw [sRw R.row 8]
 rfl
set_option maxHeartbeats 400000 in
theorem answer_fault (V:Env w lo E) (R:Rep w lo p mf mt D) (h0:0 ≤ D.c.faults) (h1:D.c.faults ≤ 1099511627776) :
  Calls Tryz.prog 42 #[ptr p,errV E 1] w fun e w'=>e = .returned (.int .i64 9) ∧ Rep w' lo p mf mt D.faulted ∧ Tc [p] w w':=by
 have hlop:lo ≤ p:=R.base p (by simp [DkC.foot])
 have VF:=V.touch R.fault.2 (by simp; exact hlop)
 have c1:=V.sents.var1
 have k8:=R.cell 8
 simp only [dRow] at k8
 have f8:=R.unfrozen 8
 have H1:=hid (is_at V.sents 1 1 (by omega) (by omega))
 have HT:=hid (tell_err VF.sents 1 (by omega))
 have HR:=hid R.fault
 clear V VF R
 go_enter Tryz.func42,Tryz.ntmps42
 go_wp2_with fail
 refine H1.out.mono ?_
 rintro e w1 ⟨rfl,rfl⟩
 go_wp2_with fail
 refine HT.out.mono ?_
 rintro e w1 ⟨rfl,rfl⟩
 go_wp2
 go_ret
 exact ⟨rfl,HR.out.1,HR.out.2⟩
set_option maxHeartbeats 400000 in
theorem Create_of2 {ev:Value} {s:ByteArray} {Post Post2:World → Prop} (h:Calls Tryz.prog 43 #[ptr p,.string s] w fun e w'=>e = .returned ev ∧ Post w') {v:Int}
  (ha:∀ w1,Post w1 → Calls Tryz.prog 42 #[ptr p,ev] w1 fun e w'=>e = .returned (.int .i64 v) ∧ Post2 w') :
  Calls Tryz.prog 17 #[ptr p,.string s] w fun e w'=>e = .returned (.int .i64 v) ∧ Post2 w':=by
 have H:=hid h
 have HA:=hid ha
 clear h ha
 go_enter Tryz.func17,Tryz.ntmps17
 go_wp2_with (first | (go_at_call 43; refine H.out.mono ?_; rintro e w1 ⟨rfl,hp⟩) | (go_at_call 42; refine (HA.out _ hp).mono ?_; rintro e w2 ⟨rfl,hq⟩))
 go_ret
 exact ⟨rfl,hq⟩
end
section
variable {w w':World} {E:Nat → Addr} {lo p mf mt:Nat} {D:DkC}
theorem foot3 (R:Rep w lo p mf mt D):∀ b ∈ [p,mf,mt],b ∈ D.foot p mf mt ∧ lo ≤ b:=fun b hb=>by
 have h:b ∈ D.foot p mf mt:=by simp at hb; rcases hb with rfl | rfl | rfl <;> simp [DkC.foot]
 exact ⟨h,R.base b h⟩
end
section
variable {w w':World} {E:Nat → Addr} {lo p mf mt:Nat} {D:DkC}
set_option maxRecDepth 100000 in
set_option maxHeartbeats 400000 in
theorem carry_seal_cut (V:Env w lo E) (R:Rep w lo p mf mt D) {a b:Int} (bf fb:Nat) (hb:0 < b) {v:Value} {sv:Value} (hlf:lo ≤ fb) (hnp:fb ≠ p) (hbf:w.heap[bf]? = some (.cells #[ptr fb] 128 (0,0))) (hfb:w.heap[fb]? = some (.cells #[v,sv] 160 (0,0))) :
  Calls Tryz.prog 87 #[ptr p,.agg #[.int .i64 a,.int .i64 2,.int .i64 b],.func (.func 90) #[] #[ptr bf]] w fun e w'=>e = .returned (errV E 2) ∧
   ∃ w1,Rep w1 lo p mf mt D.off ∧ Tc [p] w w1 ∧ Tc [fb] w1 w' ∧ w'.heap[fb]? = some (.cells #[.int .i64 1,sv] 160 (0,0)):=by
 have hlop:lo ≤ p:=R.base p (by simp [DkC.foot])
 have VO:=V.touch R.off.2 (by simp; exact hlop)
 have RO:=R.off.1
 have TO:=R.off.2
 have hp:=ltB R.row
 have nbf:bf ≠ p:=fun e=>by subst e; rw [R.row] at hbf; simp [dRow] at hbf
 have obf:(w.setCell ⟨p,2,none⟩ (.bool false)).heap[bf]? = some (.cells #[ptr fb] 128 (0,0)):=(TO.block bf (ltB hbf) (by simp [nbf])).trans hbf
 have ofb:(w.setCell ⟨p,2,none⟩ (.bool false)).heap[fb]? = some (.cells #[v,sv] 160 (0,0)):=(TO.block fb (ltB hfb) (by simp [hnp])).trans hfb
 have H:=hid (fun o:Obj=>seal1_any (w:=(w.setCell ⟨p,2,none⟩ (.bool false)).alloc o) b bf fb ((Below.heap_alloc _ o bf (ltB obf)).trans obf) ((Below.heap_alloc _ o fb (ltB ofb)).trans ofb))
 have HV:=hid VO
 have HT:=hid TO
 have HR:=hid RO
 have HO:=hid ofb
 have c2:∀ (o:Obj),(((w.setCell ⟨p,2,none⟩ (.bool false)).alloc o).setCell ⟨fb,0,none⟩ (.int .i64 1)).cell? ⟨6,0,none⟩ = some (errV E 2):=fun o =>
  ((VO.alloc o).touch (F:=[fb]) ((Tc.refl [fb] _).setCell (by simp) _) (by simp; exact hlf)).sents.var2
 have k2:=R.cell 2
 simp only [dRow] at k2
 have f2:=R.unfrozen 2
 clear hbf hfb V VO RO TO obf ofb nbf
 go_enter Tryz.func87,Tryz.ntmps87
 go_wp2_with (go_at_call 90; refine (H.out _).mono ?_; rintro e w1 ⟨rfl,hw1⟩; have d2:w1.cell? ⟨6,0,none⟩ = some (errV E 2):=by (rw [hw1]; exact c2 _))
 go_ret
 refine ⟨rfl,(w.setCell ⟨p,2,none⟩ (.bool false)).alloc (.cells #[.int .i64 a,.int .i64 2,.int .i64 b] 67),HR.out.alloc _,HT.out.alloc _,(Tc.refl [fb] _).setCell (by simp) _,?_⟩
 rw [sRw ((Below.heap_alloc _ _ fb (ltB HO.out)).trans HO.out) 0]
 rfl
set_option maxRecDepth 100000 in
set_option maxHeartbeats 400000 in
theorem seal_gen (V:Env w lo E) (R:Rep w lo p mf mt D) (s:ByteArray) (ho:D.on = true) (hn:nameB s = true) {e0:Ent} (hf:findE D.ents (nm s) = some e0) (hs:e0.file.shut = false) {a k b:Int} (hT:TrI D.T D.c.calls a k b)
  (h0:0 ≤ D.c.calls) (h1:D.c.calls ≤ 1099511627776) {v:Value} {Post:World → World → Prop}
  (HC:∀ (w2:World) (bf:Nat),Env w2 lo E → Rep w2 lo p mf mt D.numbered → w.heap.size ≤ w2.heap.size → w2.heap[bf]? = some (.cells #[ptr e0.lay.fb] 128 (0,0)) →
   Calls Tryz.prog 87 #[ptr p,.agg #[.int .i64 a,.int .i64 k,.int .i64 b],.func (.func 90) #[] #[ptr bf]] w2 fun e w3=>e = .returned v ∧ Post w2 w3 ∧ Tc [p,e0.lay.fb] w2 w3) :
  Calls Tryz.prog 44 #[ptr p,.string s] w fun e w'=>e = .returned v ∧ (∃ w2,w.heap.size ≤ w2.heap.size ∧ Rep w2 lo p mf mt D.numbered ∧ Post w2 w') ∧ Tc [p,mt,e0.lay.fb] w w':=by
 have H:=hid (find_some R s ho hn hf)
 have hat:=R.each e0 (fEm hf).1
 have hrow:=hat.row
 have lfb:=ltB hrow
 have c0:=cRw hrow 0
 simp [hs] at c0
 have hne:=R.ent_ne (fEm hf).1 (b:=e0.lay.fb) (by simp [Lay.foot])
 have hp:=ltB R.row
 have hmt:mt < w.heap.size:=R.lt mt (by simp [DkC.foot])
 have hlop:Hid (lo ≤ p ∧ lo ≤ mt):=hid ⟨R.base p (by simp [DkC.foot]),R.base mt (by simp [DkC.foot])⟩
 have HR:=hid R
 have HV:=hid V
 have HCC:=hid HC
 have HSZ:Hid (∀ (w1:World),w1.heap = w.heap → w.heap.size ≤ w1.heap.size):=hid fun w1 h=>by rw [h]; exact Nat.le_refl _
 clear hf hs hrow hat R V HC
 go_enter Tryz.func44,Tryz.ntmps44
 go_wp2_with (first
  |(go_at_call 86; refine H.out.mono ?_; rintro e w1 ⟨rfl,hq⟩; have d0:=(Quiet.cell hq _).trans c0; rw [← Quiet.heap hq] at lfb hp hmt; have HQ:=hid hq; clear hq c0)
  |(go_at_call 88; refine (number_any ((Quiet.rep HQ.out HR.out).alloc (.cells #[ptr e0.lay.fb] 128)) hT h0 h1).mono ?_; rintro e w2 ⟨rfl,hR2,ht2⟩; have q2:=hid (kept_row (heap_alloc_new w1 (.cells #[ptr e0.lay.fb] 128)) ht2 (by simp; omega)))
  |(go_at_call 87; refine (HCC.out w2 _ ((Quiet.env HQ.out HV.out |>.alloc _).touch ht2 (by simp; exact hlop.out)) hR2 (Nat.le_trans (HSZ.out _ (Quiet.heap HQ.out)) (Nat.le_trans (by simp) ht2.size)) q2.out).mono ?_; rintro e w3 ⟨rfl,hpost,ht3⟩))
 go_ret
 have t2:Tc [p,mt] w w2:=((Quiet.touch HQ.out [p,mt]).alloc _).trans ht2 (by simp)
 exact ⟨rfl,⟨w2,t2.size,hR2,hpost⟩,(t2.mono (by simp)).trans ht3 (by simp)⟩
set_option maxHeartbeats 400000 in
theorem Seal_of2 {ev:Value} {s:ByteArray} {Post Post2:World → Prop} (h:Calls Tryz.prog 44 #[ptr p,.string s] w fun e w'=>e = .returned ev ∧ Post w') {v:Int}
  (ha:∀ w1,Post w1 → Calls Tryz.prog 42 #[ptr p,ev] w1 fun e w'=>e = .returned (.int .i64 v) ∧ Post2 w') :
  Calls Tryz.prog 18 #[ptr p,.string s] w fun e w'=>e = .returned (.int .i64 v) ∧ Post2 w':=by
 have H:=hid h
 have HA:=hid ha
 clear h ha
 go_enter Tryz.func18,Tryz.ntmps18
 go_wp2_with (first | (go_at_call 44; refine H.out.mono ?_; rintro e w1 ⟨rfl,hp⟩) | (go_at_call 42; refine (HA.out _ hp).mono ?_; rintro e w2 ⟨rfl,hq⟩))
 go_ret
 exact ⟨rfl,hq⟩
end
section
variable {w w':World} {E:Nat → Addr} {lo p mf mt:Nat} {D:DkC}
set_option maxRecDepth 100000 in
set_option maxHeartbeats 400000 in
theorem carry_drop_cut (V:Env w lo E) (R:Rep w lo p mf mt D) {s:ByteArray} {a b:Int} (bd bn bf:Nat) (hb:0 < b) (hs:s.size ≤ 32) {e0:Ent} (hf:findE D.ents (nm s) = some e0) (hS:Small D.pub)
  (hbd:w.heap[bd]? = some (.cells #[ptr p] 32 (0,0))) (hbn:w.heap[bn]? = some (.cells #[.string s] 9 (0,0))) (hbf:w.heap[bf]? = some (.cells #[ptr e0.lay.fb] 128 (0,0))) :
  Calls Tryz.prog 87 #[ptr p,.agg #[.int .i64 a,.int .i64 2,.int .i64 b],.func (.func 193) #[] #[ptr bd,ptr bn,ptr bf]] w fun e w'=>e = .returned (errV E 2) ∧ Rep w' lo p mf mt { D.off with ents:=dropE (nm s) D.ents,c:={ D.c with used:=D.c.used - e0.file.blocks.length,most:=max D.c.most (D.c.used - e0.file.blocks.length) } } ∧ Tc [p,mf] w w':=by
 have hlop:lo ≤ p:=R.base p (by simp [DkC.foot])
 have hlom:lo ≤ mf:=R.base mf (by simp [DkC.foot])
 have VO:=V.touch R.off.2 (by simp; exact hlop)
 have RO:=R.off.1
 have TO:=R.off.2
 have hp:=ltB R.row
 have nbd:bd ≠ p:=fun e=>by subst e; rw [R.row] at hbd; simp [dRow] at hbd
 have nbn:bn ≠ p:=fun e=>by subst e; rw [R.row] at hbn; simp [dRow] at hbn
 have nbf:bf ≠ p:=fun e=>by subst e; rw [R.row] at hbf; simp [dRow] at hbf
 have obd:(w.setCell ⟨p,2,none⟩ (.bool false)).heap[bd]? = some (.cells #[ptr p] 32 (0,0)):=(TO.block bd (ltB hbd) (by simp [nbd])).trans hbd
 have obn:(w.setCell ⟨p,2,none⟩ (.bool false)).heap[bn]? = some (.cells #[.string s] 9 (0,0)):=(TO.block bn (ltB hbn) (by simp [nbn])).trans hbn
 have obf:(w.setCell ⟨p,2,none⟩ (.bool false)).heap[bf]? = some (.cells #[ptr e0.lay.fb] 128 (0,0)):=(TO.block bf (ltB hbf) (by simp [nbf])).trans hbf
 have hSO:Small D.off.pub:=⟨hS.calls,hS.reads,hS.appends,hS.full,hS.used,hS.files,hS.blocks,hS.size⟩
 have H:=hid (fun o:Obj=>drop1_any (RO.alloc o) b bd bn bf hs hf hSO ((Below.heap_alloc _ o bd (ltB obd)).trans obd) ((Below.heap_alloc _ o bn (ltB obn)).trans obn) ((Below.heap_alloc _ o bf (ltB obf)).trans obf))
 have HV:=hid VO
 have HT:=hid TO
 have hF:Hid (∀ b ∈ [p,mf],lo ≤ b):=hid (by simp; exact ⟨hlop,hlom⟩)
 have k2:=R.cell 2
 simp only [dRow] at k2
 have f2:=R.unfrozen 2
 clear hbd hbn hbf V VO RO TO obd obn obf nbd nbn nbf hf hS hSO
 go_enter Tryz.func87,Tryz.ntmps87
 go_wp2_with (go_at_call 193; refine (H.out _).mono ?_; rintro e w1 ⟨rfl,hR,ht⟩; have c2:w1.cell? ⟨6,0,none⟩ = some (errV E 2):=(((HV.out.alloc _).touch ht hF.out).sents.var2))
 go_ret
 have h1:Tc [p,mf] w w1:=(((HT.out.mono (by simp)).alloc _)).trans ht (by simp)
 exact ⟨rfl,hR,h1⟩
set_option maxRecDepth 100000 in
set_option maxHeartbeats 400000 in
theorem drop_gen (V:Env w lo E) (R:Rep w lo p mf mt D) (s:ByteArray) (ho:D.on = true) (hn:nameB s = true) {e0:Ent} (hf:findE D.ents (nm s) = some e0) {a k b:Int} (hT:TrI D.T D.c.calls a k b) (h0:0 ≤ D.c.calls) (h1:D.c.calls ≤ 1099511627776) {v:Value} {Post:World → World → Prop}
  (HC:∀ (w2:World) (bd bn bf:Nat),Env w2 lo E → Rep w2 lo p mf mt D.numbered → w.heap.size ≤ w2.heap.size → w2.heap[bd]? = some (.cells #[ptr p] 32 (0,0)) → w2.heap[bn]? = some (.cells #[.string s] 9 (0,0)) → w2.heap[bf]? = some (.cells #[ptr e0.lay.fb] 128 (0,0)) →
   Calls Tryz.prog 87 #[ptr p,.agg (if k = 1 then #[.int .i64 0,.int .i64 0,.int .i64 0] else #[.int .i64 a,.int .i64 k,.int .i64 b]),.func (.func 193) #[] #[ptr bd,ptr bn,ptr bf]] w2 fun e w3=>e = .returned v ∧ Post w2 w3 ∧ Tc [p,mf] w2 w3) :
  Calls Tryz.prog 151 #[ptr p,.string s] w fun e w'=>e = .returned v ∧ (∃ w2,w.heap.size ≤ w2.heap.size ∧ Rep w2 lo p mf mt D.numbered ∧ Post w2 w') ∧ Tc [p,mf,mt] w w':=by
 obtain ⟨W,hW⟩:∃ W,W = (w.alloc (.cells #[ptr p] 32)).alloc (.cells #[.string s] 9):=⟨_,rfl⟩
 have hW1:W.heap[w.heap.size]? = some (.cells #[ptr p] 32) ∧ W.heap[w.heap.size + 1]? = some (.cells #[.string s] 9):=by rw [hW]; exact heap_two w _ _
 have hTW:Tc [] w W:=by rw [hW]; exact ((Tc.refl [] w).alloc _).alloc _
 have RW:Rep W lo p mf mt D:=R.touch hTW (by simp)
 have VW:Env W lo E:=V.touch hTW (by simp)
 have H:=hid (find_some RW s ho hn hf)
 have HR:=hid RW
 have HV:=hid VW
 have HW:=hid hW1
 have HTW:=hid hTW
 have HE:=hid hW
 have HCC:=hid HC
 have hp:=ltB R.row
 have hmf:=R.files.lt
 have hmt:mt < w.heap.size:=R.lt mt (by simp [DkC.foot])
 have hlop:Hid (lo ≤ p ∧ lo ≤ mt):=hid ⟨R.base p (by simp [DkC.foot]),R.base mt (by simp [DkC.foot])⟩
 clear hf R RW hW1 hTW hW V VW HC
 go_enter Tryz.func151,Tryz.ntmps151
 go_wp2_with fail
 rw [← HE.out]
 refine H.out.mono ?_
 rintro e w1 ⟨rfl,hq⟩
 have l1:w.heap.size + 1 < w1.heap.size:=by rw [Quiet.heap hq]; exact ltB HW.out.2
 have cd:w1.cell? ⟨w.heap.size,0,none⟩ = some (ptr p):=(Quiet.cell hq _).trans (cRw HW.out.1 0)
 have cn:w1.cell? ⟨w.heap.size + 1,0,none⟩ = some (.string s):=(Quiet.cell hq _).trans (cRw HW.out.2 0)
 have l0:w.heap.size < w1.heap.size:=by omega
 have HL:=hid l1
 have HQ:=hid hq
 clear hq l1
 go_wp2_with fail
 refine (number_any ((Quiet.rep HQ.out HR.out).alloc (.cells #[ptr e0.lay.fb] 128)) hT h0 h1).mono ?_
 rintro e w2 ⟨rfl,hR2,ht2⟩
 have q0:w1.heap[w.heap.size]? = some (.cells #[ptr p] 32):=by rw [Quiet.heap HQ.out]; exact HW.out.1
 have q1:w1.heap[w.heap.size + 1]? = some (.cells #[.string s] 9):=by rw [Quiet.heap HQ.out]; exact HW.out.2
 have r0:=hid (kept_row ((Below.heap_alloc w1 (.cells #[ptr e0.lay.fb] 128) _ l0).trans q0) ht2 (by simp; omega))
 have r1:=hid (kept_row ((Below.heap_alloc w1 (.cells #[ptr e0.lay.fb] 128) _ HL.out).trans q1) ht2 (by simp; omega))
 have r2:=hid (kept_row (heap_alloc_new w1 (.cells #[ptr e0.lay.fb] 128)) ht2 (by simp; omega))
 have cd2:w2.cell? ⟨w.heap.size,0,none⟩ = some (ptr p):=cRw r0.out 0
 have l2:w.heap.size < w2.heap.size:=ltB r0.out
 have t2:Tc [p,mt] w w2:=((((HTW.out.mono (by simp)).trans (Quiet.touch HQ.out []) (by simp))).alloc _).trans ht2 (by simp)
 have HT2:=hid t2
 have HV2:=hid (((Quiet.env HQ.out HV.out).alloc (.cells #[ptr e0.lay.fb] 128)).touch ht2 (by simp; exact hlop.out))
 have HCW:=hid (fun (o:Obj)=>HCC.out (w2.alloc o) _ _ _ (HV2.out.alloc o) (hR2.alloc o) (Nat.le_trans t2.size (by simp)) ((Below.heap_alloc _ o _ (ltB r0.out)).trans r0.out) ((Below.heap_alloc _ o _ (ltB r1.out)).trans r1.out) ((Below.heap_alloc _ o _ (ltB r2.out)).trans r2.out))
 clear q0 q1 cd cn t2 ht2
 by_cases k1:k = 1
 ·subst k1
  simp only [if_true] at HCW
  go_wp2_with (go_at_call 87; refine (HCW.out _).mono ?_; rintro e w3 ⟨rfl,hpost,ht3⟩)
  go_ret
  exact ⟨rfl,⟨_,Nat.le_trans HT2.out.size (by simp),hR2.alloc _,hpost⟩,((HT2.out.mono (by simp)).alloc _).trans ht3 (by simp)⟩
 ·have hk1:(k == 1) = false:=by simp [k1]
  simp only [k1,if_false] at HCW
  go_wp2_with (go_at_call 87; refine (HCW.out _).mono ?_; rintro e w3 ⟨rfl,hpost,ht3⟩)
  go_ret
  exact ⟨rfl,⟨_,Nat.le_trans HT2.out.size (by simp),hR2.alloc _,hpost⟩,((HT2.out.mono (by simp)).alloc _).trans ht3 (by simp)⟩
set_option maxHeartbeats 400000 in
theorem Delete_of2 {ev:Value} {s:ByteArray} {Post Post2:World → Prop} (h:Calls Tryz.prog 151 #[ptr p,.string s] w fun e w'=>e = .returned ev ∧ Post w') {v:Int}
  (ha:∀ w1,Post w1 → Calls Tryz.prog 42 #[ptr p,ev] w1 fun e w'=>e = .returned (.int .i64 v) ∧ Post2 w') :
  Calls Tryz.prog 105 #[ptr p,.string s] w fun e w'=>e = .returned (.int .i64 v) ∧ Post2 w':=by
 have H:=hid h
 have HA:=hid ha
 clear h ha
 go_enter Tryz.func105,Tryz.ntmps105
 go_wp2_with (first | (go_at_call 151; refine H.out.mono ?_; rintro e w1 ⟨rfl,hp⟩) | (go_at_call 42; refine (HA.out _ hp).mono ?_; rintro e w2 ⟨rfl,hq⟩))
 go_ret
 exact ⟨rfl,hq⟩
end
end Go.Proofs.YthehcjjckabljaaGreatDoor
