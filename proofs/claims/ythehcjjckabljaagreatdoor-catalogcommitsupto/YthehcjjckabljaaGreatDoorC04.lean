import Derived.Test.YthehcjjckabljaaGreatDoorC03
namespace Go.Proofs.YthehcjjckabljaaGreatDoor
open Go.RowKit Go.Deep
section
variable {w w':World} {E:Nat → Addr} {lo p mf mt:Nat} {D:DkC}
set_option maxRecDepth 100000 in
set_option maxHeartbeats 400000 in
theorem carry_put_cut (V:Env w lo E) (R:Rep w lo p mf mt D) {s:ByteArray} {x y:Int} (bf bb bd:Nat) (hy:0 < y) {e0:Ent} (hf:findE D.ents (nm s) = some e0) (hS:Small D.pub) {bl:List UInt8} (a:Addr) (c:Nat) (hbl:bl.length = D.B) (hc:bl.length ≤ c)
  (hsrc:∀ j v,(Lib.byteCells bl)[j]? = some v → w.cell? (a.add j) = some v) (ha:a.block < w.heap.size) (hap:a.block ≠ p)
  (hbf:w.heap[bf]? = some (.cells #[ptr e0.lay.fb] 128 (0,0))) (hbb:w.heap[bb]? = some (.cells #[.slice (some a) bl.length c] 118 (0,0))) (hbd:w.heap[bd]? = some (.cells #[ptr p] 32 (0,0))) :
  Calls Tryz.prog 87 #[ptr p,.agg #[.int .i64 x,.int .i64 2,.int .i64 y],.func (.func 250) #[] #[ptr bf,ptr bb,ptr bd]] w fun e w'=>e = .returned (errV E 2) ∧
   (∃ L,Rep w' lo p mf mt { D.off with ents:=setE (nm s) { e0.file with blocks:=e0.file.blocks ++ [cutB y.toNat bl] } L D.ents,c:={ D.c with used:=D.c.used + 1,most:=max D.c.most (D.c.used + 1) } } ∧ ∀ b ∈ L.foot,b ∈ e0.lay.foot ∨ w.heap.size ≤ b) ∧ Tc (p :: e0.lay.foot) w w':=by
 have hlop:lo ≤ p:=R.base p (by simp [DkC.foot])
 have VO:=V.touch R.off.2 (by simp; exact hlop)
 have RO:=R.off.1
 have TO:=R.off.2
 have hp:=ltB R.row
 have nbd:bd ≠ p:=fun e=>by subst e; rw [R.row] at hbd; simp [dRow] at hbd
 have nbb:bb ≠ p:=fun e=>by subst e; rw [R.row] at hbb; simp [dRow] at hbb
 have nbf:bf ≠ p:=fun e=>by subst e; rw [R.row] at hbf; simp [dRow] at hbf
 have obd:(w.setCell ⟨p,2,none⟩ (.bool false)).heap[bd]? = some (.cells #[ptr p] 32 (0,0)):=(TO.block bd (ltB hbd) (by simp [nbd])).trans hbd
 have obb:(w.setCell ⟨p,2,none⟩ (.bool false)).heap[bb]? = some (.cells #[.slice (some a) bl.length c] 118 (0,0)):=(TO.block bb (ltB hbb) (by simp [nbb])).trans hbb
 have obf:(w.setCell ⟨p,2,none⟩ (.bool false)).heap[bf]? = some (.cells #[ptr e0.lay.fb] 128 (0,0)):=(TO.block bf (ltB hbf) (by simp [nbf])).trans hbf
 have hSO:Small D.off.pub:=⟨hS.calls,hS.reads,hS.appends,hS.full,hS.used,hS.files,hS.blocks,hS.size⟩
 have hz:(w.setCell ⟨p,2,none⟩ (.bool false)).heap.size = w.heap.size:=by simp [World.setCell]
 have hadd:∀ j,(a.add j).block = a.block:=fun j=>by unfold Addr.add; split <;> rfl
 have hsrc':∀ (o:Obj) j v,(Lib.byteCells bl)[j]? = some v → ((w.setCell ⟨p,2,none⟩ (.bool false)).alloc o).cell? (a.add j) = some v:=fun o j v h=>by
  rw [World.cell?_of_block (w:=w.setCell ⟨p,2,none⟩ (.bool false)) (Below.heap_alloc _ o _ (by rw [hadd,hz]; exact ha)),TO.cell (p:=a.add j) (by rw [hadd]; exact ha) (by rw [hadd]; simp [hap])]
  exact hsrc j v h
 have H:=hid (fun o:Obj=>put1_any (RO.alloc o) y (by omega) bf bb bd hf hSO a c hbl hc (hsrc' o) (by simp [hz]; omega) (Nat.le_trans V.room (by simp [hz])) ((Below.heap_alloc _ o bf (ltB obf)).trans obf) ((Below.heap_alloc _ o bb (ltB obb)).trans obb) ((Below.heap_alloc _ o bd (ltB obd)).trans obd))
 have HV:=hid VO
 have HT:=hid TO
 have HZ:=hid hz
 have hF:Hid (∀ b ∈ p :: e0.lay.foot,lo ≤ b):=hid (fun b hb=>by
  rcases List.mem_cons.1 hb with rfl | hb
  ·exact hlop
  ·exact R.base b (foot_ent hf b hb))
 have k2:=R.cell 2
 simp only [dRow] at k2
 have f2:=R.unfrozen 2
 clear hbd hbb hbf V VO RO TO obd obb obf nbd nbb nbf hf hS hSO hsrc hsrc' hadd hz ha hbl
 go_enter Tryz.func87,Tryz.ntmps87
 go_wp2_with (go_at_call 250; refine (H.out _).mono ?_; rintro e w1 ⟨rfl,⟨L,hR,hL⟩,ht⟩; have c2:w1.cell? ⟨6,0,none⟩ = some (errV E 2):=(((HV.out.alloc _).touch ht hF.out).sents.var2))
 go_ret
 have h1:Tc (p :: e0.lay.foot) w w1:=(((HT.out.mono (by simp)).alloc _)).trans ht (fun b hb=>.inl hb)
 refine ⟨rfl,⟨L,hR,fun b hb=>?_⟩,h1⟩
 rcases hL b hb with h | h
 ·exact .inl h
 ·right; have:=HZ.out; simp at h; omega
set_option maxRecDepth 100000 in
set_option maxHeartbeats 400000 in
theorem put_gen (V:Env w lo E) (R:Rep w lo p mf mt D) (s:ByteArray) (ho:D.on = true) (hn:nameB s = true) {e0:Ent} (hf:findE D.ents (nm s) = some e0) (hs:e0.file.shut = false) {a:Addr} {c:Nat} (hu:D.c.used < D.Bs) {x k y:Int} (hT:TrI D.T D.c.calls x k y) (h0:0 ≤ D.c.calls) (h1:D.c.calls ≤ 1099511627776) {v:Value} {Post:World → World → Prop}
  (HC:∀ (w2:World) (bf bb bd:Nat),Env w2 lo E → Rep w2 lo p mf mt D.numbered → Tc [p,mt] w w2 → w2.heap[bf]? = some (.cells #[ptr e0.lay.fb] 128 (0,0)) → w2.heap[bb]? = some (.cells #[.slice (some a) D.B c] 118 (0,0)) → w2.heap[bd]? = some (.cells #[ptr p] 32 (0,0)) →
   Calls Tryz.prog 87 #[ptr p,.agg #[.int .i64 x,.int .i64 k,.int .i64 y],.func (.func 250) #[] #[ptr bf,ptr bb,ptr bd]] w2 fun e w3=>e = .returned v ∧ Post w2 w3 ∧ Tc (p :: e0.lay.foot) w2 w3) :
  Calls Tryz.prog 231 #[ptr p,.string s,.slice (some a) D.B c] w fun e w'=>e = .returned v ∧ (∃ w2,Tc [p,mt] w w2 ∧ Rep w2 lo p mf mt D.numbered ∧ Post w2 w') ∧ Tc (p :: mt :: e0.lay.foot) w w':=by
 obtain ⟨W,hW⟩:∃ W,W = (w.alloc (.cells #[ptr p] 32)).alloc (.cells #[.slice (some a) D.B c] 118):=⟨_,rfl⟩
 have hW1:W.heap[w.heap.size]? = some (.cells #[ptr p] 32) ∧ W.heap[w.heap.size + 1]? = some (.cells #[.slice (some a) D.B c] 118):=by rw [hW]; exact heap_two w _ _
 have hTW:Tc [] w W:=by rw [hW]; exact ((Tc.refl [] w).alloc _).alloc _
 have RW:Rep W lo p mf mt D:=R.touch hTW (by simp)
 have H:=hid (find_some RW s ho hn hf)
 have hrow:=(RW.each e0 (fEm hf).1).row
 have lfb:=ltB hrow
 have hp:=ltB RW.row
 have hpw:=ltB R.row
 have HR0:=hid R
 have hmw:mt < w.heap.size:=R.lt mt (by simp [DkC.foot])
 have c0:=cRw hrow 0
 rw [hs] at c0
 simp at c0
 have x0:=RW.cell 0
 have x1:=RW.cell 1
 have x10:=RW.cell 10
 simp only [dRow] at x0 x1 x10
 have cd:=cRw hW1.1 0
 have cb:=cRw hW1.2 0
 have lz:w.heap.size + 1 < W.heap.size:=ltB hW1.2
 simp at cd cb
 have hnb:((D.B:Int) != (D.B:Int)) = false:=by simp
 have HE:=hid hW
 have HTW:=hid hTW
 have HR:=hid RW
 have HF:=hid hf
 have HV:=hid (V.touch hTW (by simp))
 have HCC:=hid HC
 have hlop:Hid (lo ≤ p ∧ lo ≤ mt):=hid ⟨R.base p (by simp [DkC.foot]),R.base mt (by simp [DkC.foot])⟩
 have HW:=hid hW1
 clear hf R RW hW1 hTW hW hrow hs HC V
 go_enter Tryz.func231,Tryz.ntmps231
 go_wp2_with fail
 rw [← HE.out]
 refine H.out.mono ?_
 rintro e w1 ⟨rfl,hq⟩
 have d0:=(Quiet.cell hq _).trans c0
 have y0:=(Quiet.cell hq _).trans x0
 have y1:=(Quiet.cell hq _).trans x1
 have y10:=(Quiet.cell hq _).trans x10
 have yd:=(Quiet.cell hq _).trans cd
 have yb:=(Quiet.cell hq _).trans cb
 have ee:=Quiet.heap hq
 have l1:e0.lay.fb < w1.heap.size:=by rw [ee]; exact lfb
 have l2:p < w1.heap.size:=by rw [ee]; exact hp
 have l3:w.heap.size < w1.heap.size:=by rw [ee]; omega
 have l4:w.heap.size + 1 < w1.heap.size:=by rw [ee]; omega
 have hb1:Hid (w1.heap[w.heap.size]? = some (.cells #[ptr p] 32)):=(congrArg (fun h=>h[w.heap.size]?) ee).trans HW.out.1
 have hb2:Hid (w1.heap[w.heap.size + 1]? = some (.cells #[.slice (some a) D.B c] 118)):=(congrArg (fun h=>h[w.heap.size + 1]?) ee).trans HW.out.2
 have HQ:=hid hq
 clear hq ee c0 x0 x1 x10 cd cb lfb hp lz
 go_wp2
 go_quiet (fail)
 go_wp2
 go_quiet (fail)
 go_wp2
 go_region_held3 (fun W'=>W'.cell? ⟨w.heap.size,0,none⟩ = some (ptr p)) (go_keep)
  (first
   |(go_at_call 88; refine (number_any (((Quiet.rep HQ.out HR.out).alloc (.cells #[ptr e0.lay.fb] 128)).drewN _) hT h0 h1).mono ?_; rintro e w2 ⟨rfl,hR2,ht2⟩; have r0:=hid (put_row (o:=.cells #[ptr e0.lay.fb] 128) hb1.out ht2 hpw hmw); have r1:=hid (put_row (o:=.cells #[ptr e0.lay.fb] 128) hb2.out ht2 (by omega) (by omega)); have r2:=hid (put_new (o:=.cells #[ptr e0.lay.fb] 128) ht2 l2 (by omega)); have z2:w2.cell? ⟨w.heap.size,0,none⟩ = some (ptr p):=cRw r0.out 0)
   |(go_at_call 87; refine (HCC.out w2 _ _ _ ((((Quiet.env HQ.out HV.out).alloc _).drewN _).touch ht2 (by simp; exact hlop.out)) hR2 ((((((HTW.out.mono (by simp)).trans (Quiet.touch HQ.out []) (by simp))).alloc _).drewN _).trans ht2 (by simp)) r2.out r1.out r0.out).mono ?_; rintro e w3 ⟨rfl,hpost,ht3⟩; have z3:w3.cell? ⟨w.heap.size,0,none⟩ = some (ptr p):=(put_keeps HR0.out HF.out ht3 (ltB r0.out)).trans z2))
 all_goals
  go_wp2
  go_ret
  have t2:Tc [p,mt] w w2:=(((((HTW.out.mono (by simp)).trans (Quiet.touch HQ.out []) (by simp))).alloc _).drewN _).trans ht2 (by simp)
  exact ⟨rfl,⟨w2,t2,hR2,hpost⟩,(t2.mono (by simp)).trans ht3 (fun b hb=>by rcases List.mem_cons.1 hb with h | h <;> simp [h])⟩
set_option maxRecDepth 100000 in
set_option maxHeartbeats 400000 in
theorem Append_ok2 (V:Env w lo E) (R:Rep w lo p mf mt D) (s:ByteArray) (ho:D.on = true) (hn:nameB s = true) {e0:Ent} (hf:findE D.ents (nm s) = some e0) (hs:e0.file.shut = false) {bl:List UInt8} {a:Addr} {c:Nat} (hbl:bl.length = D.B) (hc:bl.length ≤ c)
  (hsrc:∀ j v,(Lib.byteCells bl)[j]? = some v → w.cell? (a.add j) = some v) (ha:a.block < w.heap.size) (hpl:a.block ≠ p) (hml:a.block ≠ mt) (hu:D.c.used < D.Bs) {x k y:Int} (hT:TrI D.T D.c.calls x k y) (hk1:(k == 1) = false) (hk2:(k == 2) = false) (hS:Small D.pub) (hcc:D.c.calls + 1 ≤ 1099511627776) :
  Calls Tryz.prog 192 #[ptr p,.string s,.slice (some a) D.B c] w fun e w'=>e = .returned (.int .i64 0) ∧
   (∃ L,Rep w' lo p mf mt { D.numbered with ents:=setE (nm s) { e0.file with blocks:=e0.file.blocks ++ [bl] } L D.ents,c:={ D.numbered.c with appends:=D.c.appends + 1,used:=D.c.used + 1,most:=max D.c.most (D.c.used + 1) } } ∧ ∀ b ∈ L.foot,b ∈ e0.lay.foot ∨ w.heap.size ≤ b) ∧ Tc (p :: mt :: e0.lay.foot) w w':=by
 have H:=hid (put_ok R s ho hn hf hs hbl hc hsrc ha hpl hml V.room hu hT hk1 hk2 hS hcc)
 have hF:∀ b ∈ p :: mt :: e0.lay.foot,lo ≤ b:=fun b hb=>by
  rcases List.mem_cons.1 hb with rfl | hb
  ·exact R.base _ (by simp [DkC.foot])
  ·rcases List.mem_cons.1 hb with rfl | hb
   ·exact R.base _ (by simp [DkC.foot])
   ·exact R.base b (foot_ent hf b hb)
 have hr:=hS.appends
 simp only [DkC.pub] at hr
 obtain ⟨hr1,hr2⟩:=hr
 have hp:=ltB R.row
 clear hf hs R hS hT hbl hsrc
 go_enter Tryz.func192,Tryz.ntmps192
 go_wp2_with (first
  |(go_at_call 231; refine H.out.mono ?_; rintro e w1 ⟨rfl,⟨L,hR1,hL⟩,ht1⟩; have k7:=hR1.cell 7; have f7:=hR1.unfrozen 7; simp only [dRow,DkC.numbered] at k7; have HR1:=hid hR1; have HV1:=hid (V.touch ht1 hF); have HT1:=hid ht1; have HL:=hid hL; clear hR1 ht1 hL)
  |(go_at_call 42; refine (answer_nil (E:=E) (p:=p) ?_).mono ?_; exact (HV1.out.touch (F:=[p]) ((Tc.refl [p] w1).setCell (p:=⟨p,7,none⟩) (by simp) _) (fun b hb=>hF b (by simp at hb; simp [hb]))).sents; rintro e w2 ⟨rfl,rfl⟩))
 go_ret
 have t1:Tc [p] w1 (w1.setCell ⟨p,7,none⟩ (.int .i64 (D.c.appends + 1))):=(Tc.refl [p] w1).setCell (by simp) _
 refine ⟨rfl,⟨L,HR1.out.setRow rfl rfl rfl t1 ?_,HL.out⟩,HT1.out.trans t1 (by simp)⟩
 rw [sRw HR1.out.row 7]
 rfl
set_option maxHeartbeats 400000 in
theorem Append_err2 {s:ByteArray} {sa:Option Addr} {n c:Nat} {j:Nat} {v:Int} {Post Post2:World → Prop} (h:Calls Tryz.prog 231 #[ptr p,.string s,.slice sa n c] w fun e w'=>e = .returned (errV E j) ∧ Post w')
  (ha:∀ w1,Post w1 → Calls Tryz.prog 42 #[ptr p,errV E j] w1 fun e w'=>e = .returned (.int .i64 v) ∧ Post2 w') :
  Calls Tryz.prog 192 #[ptr p,.string s,.slice sa n c] w fun e w'=>e = .returned (.int .i64 v) ∧ Post2 w':=by
 have H:=hid h
 have HA:=hid ha
 clear h ha
 go_enter Tryz.func192,Tryz.ntmps192
 go_wp2_with (first | (go_at_call 231; refine H.out.mono ?_; rintro e w1 ⟨rfl,ht⟩; have HT:=hid ht; clear ht) | (go_at_call 42; refine (HA.out _ HT.out).mono ?_; rintro e w2 ⟨rfl,hp⟩))
 go_ret
 exact ⟨rfl,hp⟩
end
def befX (k y:Int) (A:PubA) (r:Int × PubA) (part:PubA):Int × PubA:=
 if r.1 = 0 then (if k = 1 then (9,A.faulted) else if k = 2 then (10,if 0 < y then part else A.shut) else r) else r
def OutX (k y:Int) (A:PubA) (r:Int × PubA) (part:PubA) (v:Int) (A':PubA):Prop:=befX k y A r part = (v,A')
theorem OutX.no {k y:Int} {A:PubA} {r:Int × PubA} {part:PubA} {v:Int} {A':PubA} (h:r = (v,A')) (h0:v ≠ 0):OutX k y A r part v A':=by
 subst h
 unfold OutX befX
 rw [if_neg h0]
theorem OutX.fault {y:Int} {A:PubA} {r:Int × PubA} {part:PubA} (h:r.1 = 0):OutX 1 y A r part 9 A.faulted:=by
 unfold OutX befX
 rw [if_pos h,if_pos rfl]
theorem OutX.part {y:Int} {A:PubA} {r:Int × PubA} {part:PubA} (h:r.1 = 0) (hy:0 < y):OutX 2 y A r part 10 part:=by
 unfold OutX befX
 rw [if_pos h,if_neg (by decide),if_pos rfl,if_pos hy]
theorem OutX.shut {y:Int} {A:PubA} {r:Int × PubA} {part:PubA} (h:r.1 = 0) (hy:¬ 0 < y):OutX 2 y A r part 10 A.shut:=by
 unfold OutX befX
 rw [if_pos h,if_neg (by decide),if_pos rfl,if_neg hy]
theorem OutX.ok {k y:Int} {A:PubA} {r:Int × PubA} {part:PubA} (h:r.1 = 0) (h1:k ≠ 1) (h2:k ≠ 2):OutX k y A r part 0 r.2:=by
 unfold OutX befX
 rw [if_pos h,if_neg h1,if_neg h2]
 exact Prod.ext h rfl
def Did3 (w w':World) (lo p mf mt:Nat) (D:DkC) (A':PubA):Prop:=
 ∃ D',Rep w' lo p mf mt D' ∧ D'.pub = A' ∧ ((D'.T = D.T ∧ D'.c.calls = D.c.calls) ∨ (D'.T = D.T.del (.int .i64 D.c.calls) ∧ D'.c.calls = D.c.calls + 1)) ∧ Tc (D.foot p mf mt) w w' ∧ ∀ b ∈ D'.foot p mf mt,b ∈ D.foot p mf mt ∨ w.heap.size ≤ b
section
variable {w w':World} {E:Nat → Addr} {lo p mf mt:Nat} {D:DkC}
theorem Did3.same (R:Rep w lo p mf mt D) (ht:Tc [] w w'):Did3 w w' lo p mf mt D D.pub:=
 ⟨D,R.touch ht (by simp),rfl,.inl ⟨rfl,rfl⟩,ht.mono (by simp),fun _ h=>.inl h⟩
theorem Create_x (V:Env w lo E) (R:Rep w lo p mf mt D) (ho:D.on = true) (hS:Small D.pub) (hfl:0 ≤ D.c.faults ∧ D.c.faults ≤ 1099511627776) {a k b:Int} (hT:TrI D.T D.c.calls a k b) (s:ByteArray) :
  Calls Tryz.prog 17 #[ptr p,.string s] w fun e w'=>∃ v A',e = .returned (.int .i64 v) ∧ Did3 w w' lo p mf mt D A' ∧ OutX k b D.pub (createA s D.pub) { (createA s D.pub).2 with on:=false } v A':=by
 have hfp:findA D.pub.files (nm s) = (findE D.ents (nm s)).map Ent.file:=find_pub _ _
 have F3:=foot3 R
 have hF:∀ b ∈ [p,mf,mt],lo ≤ b:=fun b hb=>(F3 b hb).2
 have hG:∀ b ∈ [p,mf,mt],b ∈ D.foot p mf mt:=fun b hb=>(F3 b hb).1
 by_cases hn:nameB s = true
 ·cases hf:findE D.ents (nm s) with
  | some e0 =>
   have hr:createA s D.pub = (13,D.pub):=by unfold createA; rw [if_pos hn,hfp,hf]; rfl
   have h:=Create_of (i:=some 5) (create_there V R s ho hn hf) (v:=13) fun w1 ht=>anE (V.touch ht (by simp)).sents 5 (by omega) (by omega) (by omega)
   exact h.mono fun e w1 ⟨h1,h2⟩=>⟨13,D.pub,h1,Did3.same R h2,OutX.no hr (by decide)⟩
  | none =>
   have hr:createA s D.pub = (0,{ D.pub with files:=insA (nm s,⟨false,[]⟩) D.pub.files,c:={ D.pub.c with calls:=D.pub.c.calls + 1 } }):=by unfold createA; rw [if_pos hn,hfp,hf]; rfl
   have hfl':D.ents.length ≤ 1099511627776:=by have:=hS.files; simpa [DkC.pub] using this
   by_cases k1:k = 1
   ·subst k1
    have hc:=create_gen V R s ho hn hf hT hS.calls.1 hS.calls.2 (v:=errV E 1) (Post:=fun w2 w3=>Tc [] w2 w3) fun w2 bd bn V2 R2 _ _ _=>(carry_fault V2 a b _).mono fun e w3 ⟨h1,h2⟩=>⟨h1,h2,h2.mono (by simp)⟩
    have h:=Create_of2 (v:=9) (Post2:=fun w'=>Did3 w w' lo p mf mt D D.pub.faulted) hc fun w1 ⟨⟨w2,hz,R2,t2⟩,t⟩=>by
     have R1:Rep w1 lo p mf mt D.numbered:=R2.touch t2 (by simp)
     refine (answer_fault (V.touch t hF) R1 hfl.1 hfl.2).mono fun e w' ⟨h1,h2,h3⟩=>⟨h1,_,h2,rfl,.inr ⟨rfl,rfl⟩,?_,fun b hb=>.inl hb⟩
     exact (t.mono hG).trans (h3.mono (G:=D.foot p mf mt) (by simp [DkC.foot])) (fun b hb=>.inl hb)
    exact h.mono fun e w' ⟨h1,h2⟩=>⟨9,_,h1,h2,OutX.fault (by rw [hr])⟩
   ·by_cases k2:k = 2
    ·subst k2
     by_cases hb:0 < b
     ·have hc:=create_gen V R s ho hn hf hT hS.calls.1 hS.calls.2 (v:=errV E 2) (Post:=fun w2 w3=>∃ fb,w2.heap.size ≤ fb ∧ Rep w3 lo p mf mt { D.numbered.off with ents:=insE ⟨nm s,⟨false,[]⟩,⟨fb,.slice none 0 0,[]⟩⟩ D.ents }) fun w2 bd bn V2 R2 _ hbd hbn =>
       carry_create_cut V2 R2 bd bn hb (name_size hn) hf hfl' hbd hbn
      have h:=Create_of2 (v:=10) (Post2:=fun w'=>Did3 w w' lo p mf mt D { (createA s D.pub).2 with on:=false }) hc fun w1 ⟨⟨w2,hz,_,fb,hfb,R3⟩,t⟩=>by
       refine (anE (V.touch t hF).sents 2 (by omega) (by omega) (by omega)).mono fun e w' ⟨h1,h2⟩=>?_
       subst h2
       refine ⟨h1,_,R3,?_,.inr ⟨rfl,rfl⟩,t.mono hG,foot_insert rfl (by simp [Lay.foot,Value.ownBlock]; omega)⟩
       rw [hr]
       simp only [DkC.pub,DkC.numbered,ins_pub]
       rfl
      exact h.mono fun e w' ⟨h1,h2⟩=>⟨10,_,h1,h2,OutX.part (by rw [hr]) hb⟩
     ·have hc:=create_gen V R s ho hn hf hT hS.calls.1 hS.calls.2 (v:=errV E 2) (Post:=fun w2 w3=>Rep w3 lo p mf mt D.numbered.off) fun w2 bd bn V2 R2 _ _ _ =>
       (carry_cut0 V2 R2 a b (by omega) _).mono fun e w3 ⟨h1,h2,h3⟩=>⟨h1,h2,h3.mono (by simp)⟩
      have h:=Create_of2 (v:=10) (Post2:=fun w'=>Did3 w w' lo p mf mt D D.pub.shut) hc fun w1 ⟨⟨w2,hz,_,R3⟩,t⟩=>by
       refine (anE (V.touch t hF).sents 2 (by omega) (by omega) (by omega)).mono fun e w' ⟨h1,h2⟩=>?_
       subst h2
       exact ⟨h1,_,R3,rfl,.inr ⟨rfl,rfl⟩,t.mono hG,fun b hb=>.inl hb⟩
      exact h.mono fun e w' ⟨h1,h2⟩=>⟨10,_,h1,h2,OutX.shut (by rw [hr]) hb⟩
    ·have hc:=create_ok V R s ho hn hf hT (by simp [k1]) (by simp [k2]) hS.calls.1 hS.calls.2 hfl'
     have h:=Create_of2 (v:=0) (Post2:=fun w'=>Did3 w w' lo p mf mt D (createA s D.pub).2) hc fun w1 ⟨⟨fb,hfb,R3⟩,t⟩=>by
      refine (answer_nil (V.touch t hF).sents).mono fun e w' ⟨h1,h2⟩=>?_
      subst h2
      refine ⟨h1,_,R3,?_,.inr ⟨rfl,rfl⟩,t.mono hG,foot_insert rfl (by simp [Lay.foot,Value.ownBlock]; omega)⟩
      rw [hr]
      simp only [DkC.pub,DkC.numbered,ins_pub]
      rfl
     exact h.mono fun e w' ⟨h1,h2⟩=>⟨0,_,h1,h2,OutX.ok (by rw [hr]) k1 k2⟩
 ·have hr:createA s D.pub = (11,D.pub):=by unfold createA; rw [if_neg hn]
  have h:=Create_of (i:=some 3) (create_bad V R s ho (by simpa using hn)) (v:=11) fun w1 ht=>anE (V.touch ht (by simp)).sents 3 (by omega) (by omega) (by omega)
  exact h.mono fun e w1 ⟨h1,h2⟩=>⟨11,D.pub,h1,Did3.same R h2,OutX.no hr (by decide)⟩
theorem Seal_x (V:Env w lo E) (R:Rep w lo p mf mt D) (ho:D.on = true) (hS:Small D.pub) (hfl:0 ≤ D.c.faults ∧ D.c.faults ≤ 1099511627776) {a k b:Int} (hT:TrI D.T D.c.calls a k b) (s:ByteArray) :
  Calls Tryz.prog 18 #[ptr p,.string s] w fun e w'=>∃ v A',e = .returned (.int .i64 v) ∧ Did3 w w' lo p mf mt D A' ∧ OutX k b D.pub (sealA s D.pub) { (sealA s D.pub).2 with on:=false } v A':=by
 have hfp:findA D.pub.files (nm s) = (findE D.ents (nm s)).map Ent.file:=find_pub _ _
 by_cases hn:nameB s = true
 ·cases hf:findE D.ents (nm s) with
  | none =>
   have hr:sealA s D.pub = (12,D.pub):=by unfold sealA; rw [if_pos hn,hfp,hf]; rfl
   have h:=Seal_of (i:=some 4) (seal_err s 4 (find_none V.sents R s ho hn hf)) (v:=12) fun w1 ht=>anE (V.touch ht (by simp)).sents 4 (by omega) (by omega) (by omega)
   exact h.mono fun e w1 ⟨h1,h2⟩=>⟨12,D.pub,h1,Did3.same R h2,OutX.no hr (by decide)⟩
  | some e0 =>
   cases hs:e0.file.shut with
   | true =>
    have hr:sealA s D.pub = (14,D.pub):=by unfold sealA; rw [if_pos hn,hfp,hf]; simp [hs]
    have h:=Seal_of (i:=some 6) (seal_shut V R s ho hn hf hs) (v:=14) fun w1 ht=>anE (V.touch ht (by simp)).sents 6 (by omega) (by omega) (by omega)
    exact h.mono fun e w1 ⟨h1,h2⟩=>⟨14,D.pub,h1,Did3.same R h2,OutX.no hr (by decide)⟩
   | false =>
    have hr:sealA s D.pub = (0,{ D.pub with files:=setA (nm s) { e0.file with shut:=true } D.pub.files,c:={ D.pub.c with calls:=D.pub.c.calls + 1 } }):=by unfold sealA; rw [if_pos hn,hfp,hf]; simp [hs]
    have hfb:e0.lay.fb ∈ D.foot p mf mt:=foot_ent hf _ (by simp [Lay.foot])
    have hG:∀ b ∈ [p,mt,e0.lay.fb],b ∈ D.foot p mf mt:=fun b hb=>by
     simp at hb
     rcases hb with rfl | rfl | rfl
     ·simp [DkC.foot]
     ·simp [DkC.foot]
     ·exact hfb
    have hF:∀ b ∈ [p,mt,e0.lay.fb],lo ≤ b:=fun b hb=>R.base b (hG b hb)
    have hm:=(fEm hf).1
    have hne:=R.ent_ne hm (b:=e0.lay.fb) (by simp [Lay.foot])
    by_cases k1:k = 1
    ·subst k1
     have hc:=seal_gen V R s ho hn hf hs hT hS.calls.1 hS.calls.2 (v:=errV E 1) (Post:=fun w2 w3=>Tc [] w2 w3) fun w2 bf V2 R2 _ _=>(carry_fault V2 a b _).mono fun e w3 ⟨h1,h2⟩=>⟨h1,h2,h2.mono (by simp)⟩
     have h:=Seal_of2 (v:=9) (Post2:=fun w'=>Did3 w w' lo p mf mt D D.pub.faulted) hc fun w1 ⟨⟨w2,hz,R2,t2⟩,t⟩=>by
      have R1:Rep w1 lo p mf mt D.numbered:=R2.touch t2 (by simp)
      refine (answer_fault (V.touch t hF) R1 hfl.1 hfl.2).mono fun e w' ⟨h1,h2,h3⟩=>⟨h1,_,h2,rfl,.inr ⟨rfl,rfl⟩,?_,fun b hb=>.inl hb⟩
      exact (t.mono hG).trans (h3.mono (G:=D.foot p mf mt) (by simp [DkC.foot])) (fun b hb=>.inl hb)
     exact h.mono fun e w' ⟨h1,h2⟩=>⟨9,_,h1,h2,OutX.fault (by rw [hr])⟩
    ·by_cases k2:k = 2
     ·subst k2
      by_cases hb:0 < b
      ·have hc:=seal_gen V R s ho hn hf hs hT hS.calls.1 hS.calls.2 (v:=errV E 2) (Post:=fun w2 w3=>Rep w3 lo p mf mt { D.numbered.off with ents:=setE (nm s) { e0.file with shut:=true } e0.lay D.ents }) fun w2 bf V2 R2 hz hbf=>by
        have hat:=R2.each e0 hm
        refine (carry_seal_cut V2 R2 bf e0.lay.fb hb (R.base _ hfb) hne.1 hbf hat.row).mono fun e w3 ⟨h1,w1,R1,t1,t3,hr3⟩=>?_
        have hnd:=R1.parts.1 e0 hm
        have hat3:=(R1.each e0 hm).shut hnd t3 hr3
        refine ⟨h1,R1.setFile hf rfl hat3 (fun b hb=>.inl hb) hnd (t3.mono (by simp [Lay.foot])) (Nat.le_trans V2.room t1.size),(t1.mono (by simp)).trans t3 (by simp)⟩
       have h:=Seal_of2 (v:=10) (Post2:=fun w'=>Did3 w w' lo p mf mt D { (sealA s D.pub).2 with on:=false }) hc fun w1 ⟨⟨w2,hz,_,R3⟩,t⟩=>by
        refine (anE (V.touch t hF).sents 2 (by omega) (by omega) (by omega)).mono fun e w' ⟨h1,h2⟩=>?_
        subst h2
        refine ⟨h1,_,R3,?_,.inr ⟨rfl,rfl⟩,t.mono hG,foot_set hf rfl fun b hb=>.inl hb⟩
        rw [hr]
        simp only [DkC.pub,DkC.numbered,set_pub]
       exact h.mono fun e w' ⟨h1,h2⟩=>⟨10,_,h1,h2,OutX.part (by rw [hr]) hb⟩
      ·have hc:=seal_gen V R s ho hn hf hs hT hS.calls.1 hS.calls.2 (v:=errV E 2) (Post:=fun w2 w3=>Rep w3 lo p mf mt D.numbered.off) fun w2 bf V2 R2 _ _ =>
        (carry_cut0 V2 R2 a b (by omega) _).mono fun e w3 ⟨h1,h2,h3⟩=>⟨h1,h2,h3.mono (by simp)⟩
       have h:=Seal_of2 (v:=10) (Post2:=fun w'=>Did3 w w' lo p mf mt D D.pub.shut) hc fun w1 ⟨⟨w2,hz,_,R3⟩,t⟩=>by
        refine (anE (V.touch t hF).sents 2 (by omega) (by omega) (by omega)).mono fun e w' ⟨h1,h2⟩=>?_
        subst h2
        exact ⟨h1,_,R3,rfl,.inr ⟨rfl,rfl⟩,t.mono hG,fun b hb=>.inl hb⟩
       exact h.mono fun e w' ⟨h1,h2⟩=>⟨10,_,h1,h2,OutX.shut (by rw [hr]) hb⟩
     ·have hc:=seal_ok R s ho hn hf hs hT (by simp [k1]) (by simp [k2]) hS.calls.1 hS.calls.2 V.room
      have h:=Seal_of2 (v:=0) (Post2:=fun w'=>Did3 w w' lo p mf mt D (sealA s D.pub).2) hc fun w1 ⟨R3,t⟩=>by
       refine (answer_nil (V.touch t hF).sents).mono fun e w' ⟨h1,h2⟩=>?_
       subst h2
       refine ⟨h1,_,R3,?_,.inr ⟨rfl,rfl⟩,t.mono hG,foot_set hf rfl fun b hb=>.inl hb⟩
       rw [hr]
       simp only [DkC.pub,DkC.numbered,set_pub]
      exact h.mono fun e w' ⟨h1,h2⟩=>⟨0,_,h1,h2,OutX.ok (by rw [hr]) k1 k2⟩
 ·have hr:sealA s D.pub = (11,D.pub):=by unfold sealA; rw [if_neg hn]
  have h:=Seal_of (i:=some 3) (seal_err s 3 (find_bad V.sents R s ho (by simpa using hn))) (v:=11) fun w1 ht=>anE (V.touch ht (by simp)).sents 3 (by omega) (by omega) (by omega)
  exact h.mono fun e w1 ⟨h1,h2⟩=>⟨11,D.pub,h1,Did3.same R h2,OutX.no hr (by decide)⟩
theorem Delete_x (V:Env w lo E) (R:Rep w lo p mf mt D) (ho:D.on = true) (hS:Small D.pub) (hcc:D.c.calls + 1 ≤ 1099511627776) {a k b:Int} (hT:TrI D.T D.c.calls a k b) (s:ByteArray) :
  Calls Tryz.prog 105 #[ptr p,.string s] w fun e w'=>∃ v A',e = .returned (.int .i64 v) ∧ Did3 w w' lo p mf mt D A' ∧ OutX (if k = 1 then 0 else k) b D.pub (deleteA s D.pub) { (deleteA s D.pub).2 with on:=false } v A':=by
 have hfp:findA D.pub.files (nm s) = (findE D.ents (nm s)).map Ent.file:=find_pub _ _
 have F3:=foot3 R
 have hF:∀ b ∈ [p,mf,mt],lo ≤ b:=fun b hb=>(F3 b hb).2
 have hG:∀ b ∈ [p,mf,mt],b ∈ D.foot p mf mt:=fun b hb=>(F3 b hb).1
 by_cases hn:nameB s = true
 ·cases hf:findE D.ents (nm s) with
  | none =>
   have hr:deleteA s D.pub = (12,D.pub):=by unfold deleteA; rw [if_pos hn,hfp,hf]; rfl
   have h:=Delete_of (i:=some 4) (drop_err s 4 fun o1 o2=>find_none ((V.alloc o1).alloc o2).sents ((R.alloc o1).alloc o2) s ho hn hf) (v:=12) fun w1 ht=>anE (V.touch ht (by simp)).sents 4 (by omega) (by omega) (by omega)
   exact h.mono fun e w1 ⟨h1,h2⟩=>⟨12,D.pub,h1,Did3.same R h2,OutX.no hr (by decide)⟩
  | some e0 =>
   have hr1:(deleteA s D.pub).1 = 0:=by unfold deleteA; rw [if_pos hn,hfp,hf]; rfl
   have hpub:({ D.numbered with ents:=dropE (nm s) D.ents,c:={ D.numbered.c with used:=D.c.used - e0.file.blocks.length,most:=max D.c.most (D.c.used - e0.file.blocks.length) } }:DkC).pub = (deleteA s D.pub).2:=by
    unfold deleteA
    rw [if_pos hn,hfp,hf]
    simp only [DkC.pub,DkC.numbered,drop_pub]
    rfl
   have hS2:=small_number hS hcc
   by_cases k2:k = 2
   ·subst k2
    by_cases hb:0 < b
    ·have hc:=drop_gen V R s ho hn hf hT hS.calls.1 hS.calls.2 (v:=errV E 2) (Post:=fun w2 w3=>Rep w3 lo p mf mt { D.numbered.off with ents:=dropE (nm s) D.ents,c:={ D.numbered.c with used:=D.c.used - e0.file.blocks.length,most:=max D.c.most (D.c.used - e0.file.blocks.length) } }) fun w2 bd bn bf V2 R2 _ hbd hbn hbf=>by
      rw [if_neg (by decide)]
      exact carry_drop_cut V2 R2 bd bn bf hb (name_size hn) hf hS2 hbd hbn hbf
     have h:=Delete_of2 (v:=10) (Post2:=fun w'=>Did3 w w' lo p mf mt D { (deleteA s D.pub).2 with on:=false }) hc fun w1 ⟨⟨w2,hz,_,R3⟩,t⟩=>by
      refine (anE (V.touch t hF).sents 2 (by omega) (by omega) (by omega)).mono fun e w' ⟨h1,h2⟩=>?_
      subst h2
      refine ⟨h1,_,R3,?_,.inr ⟨rfl,rfl⟩,t.mono hG,foot_drop rfl⟩
      rw [← hpub]
      rfl
     exact h.mono fun e w' ⟨h1,h2⟩=>⟨10,_,h1,h2,OutX.part hr1 hb⟩
    ·have hc:=drop_gen V R s ho hn hf hT hS.calls.1 hS.calls.2 (v:=errV E 2) (Post:=fun w2 w3=>Rep w3 lo p mf mt D.numbered.off) fun w2 bd bn bf V2 R2 _ _ _ _=>by
      rw [if_neg (by decide)]
      exact (carry_cut0 V2 R2 a b (by omega) _).mono fun e w3 ⟨h1,h2,h3⟩=>⟨h1,h2,h3.mono (by simp)⟩
     have h:=Delete_of2 (v:=10) (Post2:=fun w'=>Did3 w w' lo p mf mt D D.pub.shut) hc fun w1 ⟨⟨w2,hz,_,R3⟩,t⟩=>by
      refine (anE (V.touch t hF).sents 2 (by omega) (by omega) (by omega)).mono fun e w' ⟨h1,h2⟩=>?_
      subst h2
      exact ⟨h1,_,R3,rfl,.inr ⟨rfl,rfl⟩,t.mono hG,fun b hb=>.inl hb⟩
     exact h.mono fun e w' ⟨h1,h2⟩=>⟨10,_,h1,h2,OutX.shut hr1 hb⟩
   ·have hc:=drop_gen V R s ho hn hf hT hS.calls.1 hS.calls.2 (v:=.nilIface) (Post:=fun w2 w3=>Rep w3 lo p mf mt { D.numbered with ents:=dropE (nm s) D.ents,c:={ D.numbered.c with used:=D.c.used - e0.file.blocks.length,most:=max D.c.most (D.c.used - e0.file.blocks.length) } }) fun w2 bd bn bf V2 R2 _ hbd hbn hbf=>by
     by_cases k1:k = 1
     ·rw [if_pos k1]
      exact carry_drop R2 bd bn bf (by decide) (by decide) (name_size hn) hf hS2 hbd hbn hbf
     ·rw [if_neg k1]
      exact carry_drop R2 bd bn bf (by simp [k1]) (by simp [k2]) (name_size hn) hf hS2 hbd hbn hbf
    have h:=Delete_of2 (v:=0) (Post2:=fun w'=>Did3 w w' lo p mf mt D (deleteA s D.pub).2) hc fun w1 ⟨⟨w2,hz,_,R3⟩,t⟩=>by
     refine (answer_nil (V.touch t hF).sents).mono fun e w' ⟨h1,h2⟩=>?_
     subst h2
     exact ⟨h1,_,R3,hpub,.inr ⟨rfl,rfl⟩,t.mono hG,foot_drop rfl⟩
    exact h.mono fun e w' ⟨h1,h2⟩=>⟨0,_,h1,h2,OutX.ok hr1 (by split <;> omega) (by split <;> omega)⟩
 ·have hr:deleteA s D.pub = (11,D.pub):=by unfold deleteA; rw [if_neg hn]
  have h:=Delete_of (i:=some 3) (drop_err s 3 fun o1 o2=>find_bad ((V.alloc o1).alloc o2).sents ((R.alloc o1).alloc o2) s ho (by simpa using hn)) (v:=11) fun w1 ht=>anE (V.touch ht (by simp)).sents 3 (by omega) (by omega) (by omega)
  exact h.mono fun e w1 ⟨h1,h2⟩=>⟨11,D.pub,h1,Did3.same R h2,OutX.no hr (by decide)⟩
end
def cutX (s:ByteArray) (bl:List UInt8) (y:Int) (A:PubA):PubA:=
 match findA A.files (nm s) with
 | some f=>{ A with on:=false,files:=setA (nm s) { f with blocks:=f.blocks ++ [cutB y.toNat bl] } A.files,c:={ A.c with calls:=A.c.calls + 1,used:=A.c.used + 1,most:=max A.c.most (A.c.used + 1) } }
 | none=>A
section
variable {w w':World} {E:Nat → Addr} {lo p mf mt:Nat} {D:DkC}
theorem Append_x (V:Env w lo E) (R:Rep w lo p mf mt D) (ho:D.on = true) (hS:Small D.pub) (hfl:0 ≤ D.c.faults ∧ D.c.faults ≤ 1099511627776) (hcc:D.c.calls + 1 ≤ 1099511627776) {x k y:Int} (hT:TrI D.T D.c.calls x k y) (s:ByteArray) {sa:Option Addr} {n c:Nat} {bl:List UInt8} (hh:Hand w p mf mt D sa n c bl) :
  Calls Tryz.prog 192 #[ptr p,.string s,.slice sa n c] w fun e w'=>∃ v A',e = .returned (.int .i64 v) ∧ Did3 w w' lo p mf mt D A' ∧ OutX k y D.pub (appendA s bl D.pub) (cutX s bl y D.pub) v A':=by
 have hfp:findA D.pub.files (nm s) = (findE D.ents (nm s)).map Ent.file:=find_pub _ _
 have err:∀ (j:Nat) (r:Int),j < 11 → j ≠ 1 → j ≠ 9 → code j = r → appendA s bl D.pub = (r,D.pub) → (Calls Tryz.prog 231 #[ptr p,.string s,.slice sa n c] w fun e w'=>e = .returned (errV E j) ∧ Tc [] w w') →
   Calls Tryz.prog 192 #[ptr p,.string s,.slice sa n c] w fun e w'=>∃ v A',e = .returned (.int .i64 v) ∧ Did3 w w' lo p mf mt D A' ∧ OutX k y D.pub (appendA s bl D.pub) (cutX s bl y D.pub) v A':=fun j r hj h1 h9 hcd hr h=>by
  have hj0:r ≠ 0:=by
   subst hcd
   unfold code
   split <;> decide
  have h2:=Append_err2 (v:=code j) (Post2:=fun w'=>Did3 w w' lo p mf mt D D.pub) h fun w1 ht=>(anE (V.touch ht (by simp)).sents j hj h1 h9).mono fun e w2 ⟨e1,e2⟩=>⟨e1,by subst e2; exact Did3.same R ht⟩
  exact h2.mono fun e w' ⟨e1,e2⟩=>⟨code j,D.pub,e1,e2,OutX.no (by rw [hcd]; exact hr) (by rw [hcd]; exact hj0)⟩
 by_cases hn:nameB s = true
 ·cases hf:findE D.ents (nm s) with
  | none =>
   exact err 4 12 (by omega) (by omega) (by omega) rfl (by unfold appendA; rw [if_pos hn,hfp,hf]; rfl) (put_err s 4 _ (fun o1 o2=>find_none ((V.alloc o1).alloc o2).sents ((R.alloc o1).alloc o2) s ho hn hf) rfl)
  | some e0 =>
   cases hs:e0.file.shut with
   | true=>exact err 6 14 (by omega) (by omega) (by omega) rfl (by unfold appendA; rw [if_pos hn,hfp,hf]; simp [hs]) (put_no V R s ho hn hf 6 (.inl ⟨hs,rfl⟩))
   | false =>
    by_cases hl:bl.length = D.B
    ·have hl':¬ bl.length ≠ D.pub.B:=fun h=>h hl
     by_cases hu:D.Bs ≤ D.c.used
     ·have hu':D.pub.Bs ≤ D.pub.c.used:=hu
      have hr:appendA s bl D.pub = (17,{ D.pub with c:={ D.pub.c with full:=D.pub.c.full + 1 } }):=by
       unfold appendA
       rw [if_pos hn,hfp,hf]
       simp only [Option.map_some,hs,Bool.false_eq_true,if_false]
       rw [if_neg hl',if_pos hu']
      have hnB:n = D.B:=hh.len.symm.trans hl
      have h:=Append_err2 (sa:=sa) (c:=c) (n:=n) (s:=s) (v:=17) (Post2:=fun w'=>Did3 w w' lo p mf mt D { D.pub with c:={ D.pub.c with full:=D.pub.c.full + 1 } }) (put_no V R s ho hn hf 9 (.inr (.inr ⟨hs,hnB,hu,rfl⟩))) fun w1 ht=>by
       have R1:=R.touch ht (by simp)
       have V1:=V.touch ht (by simp)
       refine (answer_full V1.sents R1 hS.full.1 hS.full.2 fun v=>(V1.touch (F:=[p]) ((Tc.refl [p] w1).setCell (p:=⟨p,9,none⟩) (by simp) _) (fun b hb=>by simp at hb; subst hb; exact R.base b (by simp [DkC.foot]))).sents).mono fun e w2 ⟨e1,hR,ht2⟩=>⟨e1,_,hR,rfl,.inl ⟨rfl,rfl⟩,?_,fun b hb=>.inl hb⟩
       exact ((ht.mono (by simp)).trans ht2 (fun b hb=>by simp at hb; subst hb; exact .inl (by simp [DkC.foot])))
      exact h.mono fun e w' ⟨e1,e2⟩=>⟨17,_,e1,e2,OutX.no hr (by decide)⟩
     ·have hu':¬ D.pub.Bs ≤ D.pub.c.used:=hu
      have hr:appendA s bl D.pub = (0,{ D.pub with files:=setA (nm s) { e0.file with blocks:=e0.file.blocks ++ [bl] } D.pub.files,c:={ D.pub.c with calls:=D.pub.c.calls + 1,appends:=D.pub.c.appends + 1,used:=D.pub.c.used + 1,most:=max D.pub.c.most (D.pub.c.used + 1) } }):=by
       unfold appendA
       rw [if_pos hn,hfp,hf]
       simp only [Option.map_some,hs,Bool.false_eq_true,if_false]
       rw [if_neg hl',if_neg hu']
      have hB:=hS.size
      simp only [DkC.pub] at hB
      obtain ⟨a,rfl,ha,hout,hsrc⟩:=hh.at_ (by have:=hh.len; omega)
      have hnB:n = D.B:=hh.len.symm.trans hl
      subst hnB
      have hap:a.block ≠ p:=fun e=>hout (by simp [DkC.foot,e])
      have ham:a.block ≠ mt:=fun e=>hout (by simp [DkC.foot,e])
      have hG:∀ b ∈ p :: mt :: e0.lay.foot,b ∈ D.foot p mf mt:=fun b hb=>by
       rcases List.mem_cons.1 hb with rfl | hb
       ·simp [DkC.foot]
       ·rcases List.mem_cons.1 hb with rfl | hb
        ·simp [DkC.foot]
        ·exact foot_ent hf b hb
      have hF:∀ b ∈ p :: mt :: e0.lay.foot,lo ≤ b:=fun b hb=>R.base b (hG b hb)
      have hS2:=small_number hS hcc
      have hadd:∀ j,(a.add j).block = a.block:=fun j=>by unfold Addr.add; split <;> rfl
      have hsr2:∀ w2,Tc [p,mt] w w2 → ∀ j v,(Lib.byteCells bl)[j]? = some v → w2.cell? (a.add j) = some v:=fun w2 t j v h=>by
       rw [t.cell (p:=a.add j) (by rw [hadd]; exact ha) (by rw [hadd]; simp [hap,ham])]
       exact hsrc j v h
      by_cases k1:k = 1
      ·subst k1
       have hc:=put_gen V R s ho hn hf hs (c:=c) (a:=a) (by omega) hT hS.calls.1 hS.calls.2 (v:=errV E 1) (Post:=fun w2 w3=>Tc [] w2 w3) fun w2 bf bb bd V2 R2 _ _ _ _=>(carry_fault V2 x y _).mono fun e w3 ⟨h1,h2⟩=>⟨h1,h2,h2.mono (by simp)⟩
       have h:=Append_err2 (v:=9) (Post2:=fun w'=>Did3 w w' lo p mf mt D D.pub.faulted) hc fun w1 ⟨⟨w2,_,R2,t2⟩,t⟩=>by
        have R1:Rep w1 lo p mf mt D.numbered:=R2.touch t2 (by simp)
        refine (answer_fault (V.touch t hF) R1 hfl.1 hfl.2).mono fun e w' ⟨h1,h2,h3⟩=>⟨h1,_,h2,rfl,.inr ⟨rfl,rfl⟩,?_,fun b hb=>.inl hb⟩
        exact (t.mono hG).trans (h3.mono (G:=D.foot p mf mt) (by simp [DkC.foot])) (fun b hb=>.inl hb)
       exact h.mono fun e w' ⟨h1,h2⟩=>⟨9,_,h1,h2,OutX.fault (by rw [hr])⟩
      ·by_cases k2:k = 2
       ·subst k2
        by_cases hy:0 < y
        ·have hc:=put_gen V R s ho hn hf hs (c:=c) (a:=a) (by omega) hT hS.calls.1 hS.calls.2 (v:=errV E 2) (Post:=fun w2 w3=>∃ L,Rep w3 lo p mf mt { D.numbered.off with ents:=setE (nm s) { e0.file with blocks:=e0.file.blocks ++ [cutB y.toNat bl] } L D.ents,c:={ D.numbered.c with used:=D.c.used + 1,most:=max D.c.most (D.c.used + 1) } } ∧ ∀ b ∈ L.foot,b ∈ e0.lay.foot ∨ w2.heap.size ≤ b) fun w2 bf bb bd V2 R2 t2 hbf hbb hbd=>by
          rw [← hl] at hbb
          exact carry_put_cut V2 R2 bf bb bd hy hf hS2 a c hl (by rw [hl]; exact hh.cap) (hsr2 w2 t2) (by have:=t2.size; omega) hap hbf hbb hbd
         have h:=Append_err2 (v:=10) (Post2:=fun w'=>Did3 w w' lo p mf mt D { D.pub with on:=false,files:=setA (nm s) { e0.file with blocks:=e0.file.blocks ++ [cutB y.toNat bl] } D.pub.files,c:={ D.pub.c with calls:=D.pub.c.calls + 1,used:=D.pub.c.used + 1,most:=max D.pub.c.most (D.pub.c.used + 1) } }) hc fun w1 ⟨⟨w2,t2,_,L,R3,hL⟩,t⟩=>by
          refine (anE (V.touch t hF).sents 2 (by omega) (by omega) (by omega)).mono fun e w' ⟨h1,h2⟩=>?_
          subst h2
          refine ⟨h1,_,R3,?_,.inr ⟨rfl,rfl⟩,t.mono hG,foot_set hf rfl fun b hb=>?_⟩
          ·simp only [DkC.pub,DkC.numbered,set_pub]
          ·rcases hL b hb with h | h
           ·exact .inl h
           ·right; have:=t2.size; omega
         exact h.mono fun e w' ⟨h1,h2⟩=>⟨10,_,h1,h2,by
          have e9:cutX s bl y D.pub = { D.pub with on:=false,files:=setA (nm s) { e0.file with blocks:=e0.file.blocks ++ [cutB y.toNat bl] } D.pub.files,c:={ D.pub.c with calls:=D.pub.c.calls + 1,used:=D.pub.c.used + 1,most:=max D.pub.c.most (D.pub.c.used + 1) } }:=by
           unfold cutX
           rw [hfp,hf]
           rfl
          rw [← e9]
          exact OutX.part (by rw [hr]) hy⟩
        ·have hc:=put_gen V R s ho hn hf hs (c:=c) (a:=a) (by omega) hT hS.calls.1 hS.calls.2 (v:=errV E 2) (Post:=fun w2 w3=>Rep w3 lo p mf mt D.numbered.off) fun w2 bf bb bd V2 R2 _ _ _ _ =>
          (carry_cut0 V2 R2 x y (by omega) _).mono fun e w3 ⟨h1,h2,h3⟩=>⟨h1,h2,h3.mono (by simp)⟩
         have h:=Append_err2 (v:=10) (Post2:=fun w'=>Did3 w w' lo p mf mt D D.pub.shut) hc fun w1 ⟨⟨w2,_,_,R3⟩,t⟩=>by
          refine (anE (V.touch t hF).sents 2 (by omega) (by omega) (by omega)).mono fun e w' ⟨h1,h2⟩=>?_
          subst h2
          exact ⟨h1,_,R3,rfl,.inr ⟨rfl,rfl⟩,t.mono hG,fun b hb=>.inl hb⟩
         exact h.mono fun e w' ⟨h1,h2⟩=>⟨10,_,h1,h2,OutX.shut (by rw [hr]) hy⟩
       ·have h:=Append_ok2 V R s ho hn hf hs hl (by rw [hl]; exact hh.cap) hsrc ha hap ham (by omega) hT (by simp [k1]) (by simp [k2]) hS hcc
        refine h.mono fun e w1 ⟨h1,⟨L,hR,hL⟩,ht⟩=>⟨0,(appendA s bl D.pub).2,h1,⟨_,hR,by rw [hr]; simp only [DkC.pub,DkC.numbered,set_pub,hs],.inr ⟨rfl,rfl⟩,ht.mono hG,foot_set hf rfl hL⟩,OutX.ok (by rw [hr]) k1 k2⟩
    ·have hl':bl.length ≠ D.pub.B:=hl
     exact err 8 16 (by omega) (by omega) (by omega) rfl (by
      unfold appendA
      rw [if_pos hn,hfp,hf]
      simp only [Option.map_some,hs,Bool.false_eq_true,if_false]
      rw [if_pos hl']) (put_no V R s ho hn hf 8 (.inr (.inl ⟨hs,fun h=>hl (hh.len.trans h),rfl⟩)))
 ·exact err 3 11 (by omega) (by omega) (by omega) rfl (by unfold appendA; rw [if_neg hn]) (put_err s 3 _ (fun o1 o2=>find_bad ((V.alloc o1).alloc o2).sents ((R.alloc o1).alloc o2) s ho (by simpa using hn)) rfl)
end
section
variable {w w':World} {E:Nat → Addr} {lo p mf mt:Nat} {D:DkC}
theorem FileAt.slice {B:Nat} {L:Lay} {f:FlA} (h:FileAt w B L f):∃ a c,L.sv = .slice a f.blocks.length c:=by
 rcases h.own.2 with ⟨h1,h2⟩ | ⟨g,cap,cur,h1,_⟩
 ·exact ⟨none,0,by rw [h1,h2]⟩
 ·exact ⟨_,cap,h1⟩
set_option maxHeartbeats 400000 in
theorem Length_err (V:Env w lo E) (s:ByteArray) (i:Nat) (hi:i < 11)
  (hf:Calls Tryz.prog 86 #[ptr p,.string s] w fun e w'=>e = .returned (.tuple #[.pointer none,errV E i]) ∧ ∃ n,w' = w.drewN n) :
  Calls Tryz.prog 107 #[ptr p,.string s] w fun e w'=>e = .returned (.tuple #[.int .i64 0,.bool false,.int .i64 (code i)]) ∧ Tc [] w w':=by
 have H:=hid hf
 clear hf
 go_enter Tryz.func107,Tryz.ntmps107
 go_wp2_with (first | (go_at_call 86; refine H.out.mono ?_; rintro e w1 ⟨rfl,hq⟩; have HT:=hid (tell_err (Quiet.env hq V).sents i hi); have HQ:=hid (Quiet.touch hq []); clear hq) | (go_at_call 76; refine HT.out.mono ?_; rintro e w2 ⟨rfl,rfl⟩))
 go_ret3
 exact ⟨rfl,HQ.out⟩
set_option maxHeartbeats 400000 in
theorem Length_ok (R:Rep w lo p mf mt D) (s:ByteArray) (ho:D.on = true) (hn:nameB s = true) {e0:Ent} (hf:findE D.ents (nm s) = some e0) :
  Calls Tryz.prog 107 #[ptr p,.string s] w fun e w'=>e = .returned (.tuple #[.int .i64 e0.file.blocks.length,.bool e0.file.shut,.int .i64 0]) ∧ Tc [] w w':=by
 have H:=hid (find_some R s ho hn hf)
 have hat:=R.each e0 (fEm hf).1
 obtain ⟨ga,gc,hsv⟩:=hat.slice
 have c0:=cRw hat.row 0
 have c1:=cRw hat.row 1
 rw [hsv] at c0 c1
 simp at c0 c1
 clear hf hat hsv R
 cases hs:e0.file.shut
 all_goals
  rw [hs] at c0
  simp at c0
  go_enter Tryz.func107,Tryz.ntmps107
  go_wp2_with (go_at_call 86; refine H.out.mono ?_; rintro e w1 ⟨rfl,hq⟩; have d0:=(Quiet.cell hq _).trans c0; have d1:=(Quiet.cell hq _).trans c1; have HQ:=hid (Quiet.touch hq []); clear hq)
  go_quiet (fail)
  go_wp2
  go_ret3
  exact ⟨rfl,HQ.out.drewN _⟩
def lengthA (s:ByteArray) (A:PubA):Int × Bool × Int:=
 if nameB s then
  match findA A.files (nm s) with
  | none=>(0,false,12)
  | some f=>(f.blocks.length,f.shut,0)
 else (0,false,11)
theorem Length_any (V:Env w lo E) (R:Rep w lo p mf mt D) (ho:D.on = true) (s:ByteArray) :
  Calls Tryz.prog 107 #[ptr p,.string s] w fun e w'=>e = .returned (.tuple #[.int .i64 (lengthA s D.pub).1,.bool (lengthA s D.pub).2.1,.int .i64 (lengthA s D.pub).2.2]) ∧ Tc [] w w':=by
 unfold lengthA
 have hfp:findA D.pub.files (nm s) = (findE D.ents (nm s)).map Ent.file:=find_pub _ _
 by_cases hn:nameB s = true
 ·rw [if_pos hn,hfp]
  cases hf:findE D.ents (nm s) with
  | none=>exact Length_err V s 4 (by omega) (find_none V.sents R s ho hn hf)
  | some e0=>exact Length_ok R s ho hn hf
 ·rw [if_neg hn]
  exact Length_err V s 3 (by omega) (find_bad V.sents R s ho (by simpa using hn))
set_option maxHeartbeats 400000 in
theorem has_any {B:Nat} {L:Lay} {f:FlA} (hat:FileAt w B L f) (i:Int) :
  Calls Tryz.prog 269 #[ptr L.fb,.int .i64 i] w fun e w'=>e = .returned (.bool (decide (0 ≤ i ∧ i < f.blocks.length))) ∧ w' = w:=by
 obtain ⟨ga,gc,hsv⟩:=hat.slice
 have c1:=cRw hat.row 1
 rw [hsv] at c1
 simp at c1
 clear hat hsv
 by_cases h0:0 ≤ i
 ·by_cases h1:i < (f.blocks.length:Int)
  ·have hd:decide (0 ≤ i ∧ i < (f.blocks.length:Int)) = true:=by simp [h0,h1]
   rw [hd]
   clear hd
   go_enter Tryz.func269,Tryz.ntmps269
   go_wp2
   go_ret
   exact ⟨rfl,rfl⟩
  ·have hd:decide (0 ≤ i ∧ i < (f.blocks.length:Int)) = false:=by simp; omega
   rw [hd]
   clear hd
   go_enter Tryz.func269,Tryz.ntmps269
   go_wp2
   go_ret
   exact ⟨rfl,rfl⟩
 ·have hd:decide (0 ≤ i ∧ i < (f.blocks.length:Int)) = false:=by simp; omega
  rw [hd]
  clear hd
  go_enter Tryz.func269,Tryz.ntmps269
  go_wp2
  go_ret
  exact ⟨rfl,rfl⟩
end
section
variable {w w':World} {E:Nat → Addr} {lo p mf mt:Nat} {D:DkC}
set_option maxHeartbeats 400000 in
theorem carry_fetch (R:Rep w lo p mf mt D) {a k b:Int} (hk1:(k == 1) = false) (hk2:(k == 2) = false) :
  Calls Tryz.prog 87 #[ptr p,.agg #[.int .i64 a,.int .i64 k,.int .i64 b],.func (.func 270) #[] #[]] w fun e w'=>e = .returned .nilIface ∧ Tc [] w w':=by
 have k0:=R.cell 0
 simp only [dRow] at k0
 have hp:=ltB R.row
 go_enter Tryz.func87,Tryz.ntmps87
 go_wp2_with go_in
 go_end0
 go_wp2
 go_ret
 exact ⟨rfl,(Tc.refl [] w).alloc _⟩
set_option maxHeartbeats 400000 in
theorem fetch_err (s:ByteArray) (i:Int) (j:Nat)
  (hf:Calls Tryz.prog 86 #[ptr p,.string s] w fun e w'=>e = .returned (.tuple #[.pointer none,errV E j]) ∧ ∃ n,w' = w.drewN n) :
  Calls Tryz.prog 260 #[ptr p,.string s,.int .i64 i] w fun e w'=>e = .returned (.tuple #[.slice none 0 0,errV E j]) ∧ Tc [] w w':=by
 have H:=hid hf
 clear hf
 go_enter Tryz.func260,Tryz.ntmps260
 go_wp2_with (go_at_call 86; refine H.out.mono ?_; rintro e w1 ⟨rfl,hq⟩; have HQ:=hid (Quiet.touch hq []); clear hq)
 go_ret2
 exact ⟨rfl,HQ.out⟩
set_option maxHeartbeats 400000 in
theorem fetch_open (V:Env w lo E) (R:Rep w lo p mf mt D) (s:ByteArray) (i:Int) (ho:D.on = true) (hn:nameB s = true) {e0:Ent} (hf:findE D.ents (nm s) = some e0) (hs:e0.file.shut = false) :
  Calls Tryz.prog 260 #[ptr p,.string s,.int .i64 i] w fun e w'=>e = .returned (.tuple #[.slice none 0 0,errV E 7]) ∧ Tc [] w w':=by
 have H:=hid (find_some R s ho hn hf)
 have c0:=cRw (R.each e0 (fEm hf).1).row 0
 simp [hs] at c0
 have c7:=V.sents.var7
 clear hf hs
 go_enter Tryz.func260,Tryz.ntmps260
 go_wp2_with (go_at_call 86; refine H.out.mono ?_; rintro e w1 ⟨rfl,hq⟩; have d0:=(Quiet.cell hq _).trans c0; have d7:=(Quiet.cell hq _).trans c7; have HQ:=hid (Quiet.touch hq []); clear hq c0 c7)
 go_quiet (fail)
 go_wp2
 go_ret2
 exact ⟨rfl,HQ.out.drewN _⟩
set_option maxHeartbeats 400000 in
theorem fetch_out (V:Env w lo E) (R:Rep w lo p mf mt D) (s:ByteArray) (i:Int) (ho:D.on = true) (hn:nameB s = true) {e0:Ent} (hf:findE D.ents (nm s) = some e0) (hs:e0.file.shut = true) (hi:¬ (0 ≤ i ∧ i < e0.file.blocks.length)) :
  Calls Tryz.prog 260 #[ptr p,.string s,.int .i64 i] w fun e w'=>e = .returned (.tuple #[.slice none 0 0,errV E 8]) ∧ Tc [] w w':=by
 have H:=hid (find_some R s ho hn hf)
 have hat:=R.each e0 (fEm hf).1
 have c0:=cRw hat.row 0
 simp [hs] at c0
 have c8:=V.sents.var8
 have hd:decide (0 ≤ i ∧ i < (e0.file.blocks.length:Int)) = false:=by simpa using hi
 have HA:=hid hat
 clear hf hs hi hat
 go_enter Tryz.func260,Tryz.ntmps260
 go_wp2_with (first
  |(go_at_call 86; refine H.out.mono ?_; rintro e w1 ⟨rfl,hq⟩; have d0:=(Quiet.cell hq _).trans c0; have d8:=(Quiet.cell hq _).trans c8; have HQ:=hid hq; clear hq c0 c8)
  |(go_at_call 269; refine (has_any (HA.out.kept fun b _=>by rw [Quiet.heap HQ.out]) i).mono ?_; rintro e w2 ⟨rfl,rfl⟩))
 go_quiet (fail)
 go_wp2
 go_ret2
 exact ⟨rfl,(Quiet.touch HQ.out []).drewN _⟩
theorem FileAt.at {B:Nat} {L:Lay} {f:FlA} (h:FileAt w B L f) {i:Nat} (hi:i < f.blocks.length) :
  ∃ g cap b,L.sv = .slice (some ⟨g,0,none⟩) f.blocks.length cap ∧ f.blocks.length ≤ cap ∧ w.cell? ⟨g,i,none⟩ = some (sliceV b B) ∧ f.blocks[i].length = B ∧ BytesAt w b f.blocks[i] ∧ L.bs[i]? = some b ∧ L.sv.ownBlock = some g:=by
 have hlen:=h.len
 have hb:L.bs[i]? = some (L.bs[i]'(by omega)):=List.getElem?_eq_getElem (by omega)
 have hbl:=h.bytes i _ f.blocks[i] hb (List.getElem?_eq_getElem hi)
 rcases h.own.2 with ⟨_,h2⟩ | ⟨g,cap,cur,h1,_,hg,hc,_⟩
 ·omega
 ·refine ⟨g,cap,_,h1,hc,?_,hbl.1,hbl.2,hb,by rw [h1]; rfl⟩
  have hc2:=h.own.cells (g:=g) (by rw [h1]; rfl) i (sliceV (L.bs[i]'(by omega)) B) (by simp [hb])
  have hadd:(⟨g,0,none⟩:Addr).add i = ⟨g,i,none⟩:=by unfold Addr.add; split <;> simp_all
  rw [hadd] at hc2
  exact hc2
theorem bytes_src {b:Nat} {bl:List UInt8} (h:BytesAt w b bl):∀ j v,(Lib.byteCells bl)[j]? = some v → w.cell? ((⟨b,0,none⟩:Addr).add j) = some v:=by
 intro j v hv
 have hadd:(⟨b,0,none⟩:Addr).add j = ⟨b,j,none⟩:=by unfold Addr.add; split <;> simp_all
 rw [hadd,cRw h j]
 simpa using hv
theorem copy_at {b B:Nat} {bl:List UInt8} (h:BytesAt w b bl) (hl:bl.length = B) (h1:64 ≤ B) (h2:B ≤ 65536) :
  Calls Tryz.prog 173 #[sliceV b B,.int .i64 B] w fun e w'=>e = .returned (sliceV w.heap.size B) ∧ BytesAt w' w.heap.size bl ∧ Tc [] w w' ∧ w'.heap.size = w.heap.size + 1:=by
 have h3:=copyBlock_any bl ⟨b,0,none⟩ bl.length (B:Int) w (by omega) (Nat.le_refl _) (by omega) (by omega) (bytes_src h) (ltB h)
 rw [cutB_whole (by omega),hl] at h3
 exact h3
set_option maxRecDepth 100000 in
set_option maxHeartbeats 400000 in
theorem fetch_ok (R:Rep w lo p mf mt D) (s:ByteArray) (i:Int) (ho:D.on = true) (hn:nameB s = true) {e0:Ent} (hf:findE D.ents (nm s) = some e0) (hs:e0.file.shut = true) (hi0:0 ≤ i) (hi1:i < e0.file.blocks.length) {a k b:Int} (hT:TrI D.T D.c.calls a k b) (hk1:(k == 1) = false) (hk2:(k == 2) = false) (hS:Small D.pub) :
  Calls Tryz.prog 260 #[ptr p,.string s,.int .i64 i] w fun e w'=>∃ g,e = .returned (.tuple #[sliceV g D.B,.nilIface]) ∧ w.heap.size ≤ g ∧ BytesAt w' g (e0.file.blocks[i.toNat]'(by omega)) ∧ Rep w' lo p mf mt D.numbered ∧ Tc [p,mt] w w':=by
 have H:=hid (find_some R s ho hn hf)
 have hm:=(fEm hf).1
 have hat:=R.each e0 hm
 have c0:=cRw hat.row 0
 simp [hs] at c0
 have hd:decide (0 ≤ i ∧ i < (e0.file.blocks.length:Int)) = true:=by simp; omega
 have h0:=hS.calls.1
 have h1:=hS.calls.2
 have hB:=hS.size
 simp only [DkC.pub] at h0 h1 hB
 obtain ⟨hB1,hB2⟩:=hB
 have HA:=hid hat
 have HR:=hid R
 clear hf hs hat R hS
 go_enter Tryz.func260,Tryz.ntmps260
 go_wp2_with (first
  |(go_at_call 86; refine H.out.mono ?_; rintro e w1 ⟨rfl,hq⟩; have d0:=(Quiet.cell hq _).trans c0; have HQ:=hid hq; clear hq c0)
  |(go_at_call 269; refine (has_any (HA.out.kept fun b _=>by rw [Quiet.heap HQ.out]) i).mono ?_; rintro e w2 ⟨rfl,rfl⟩)
  |(go_at_call 88; refine (number_any (Quiet.rep HQ.out HR.out) hT h0 h1).mono ?_; rintro e w3 ⟨rfl,hR3,ht3⟩)
  |(go_at_call 87; refine (carry_fetch hR3 hk1 hk2).mono ?_; rintro e w4 ⟨rfl,ht4⟩; have hR4:=hR3.touch ht4 (by simp); obtain ⟨g,cap,bb,hsv,hcap,hcg,hlen,hby,_,_⟩:=(hR4.each e0 hm).at (i:=i.toNat) (by omega); have r1:=cRw (hR4.each e0 hm).row 1; have r0:=hR4.cell 0; rw [hsv] at r1; simp only [dRow] at r0; have HC:=hid (copy_at (w:=w4.drew) hby hlen hB1 hB2); have HR4:=hid hR4; clear hby hlen hR4 hsv))
 go_region_held3 (fun W=>W.cell? ⟨e0.lay.fb,1,none⟩ = some (.slice (some ⟨g,0,none⟩) e0.file.blocks.length cap) ∧ W.cell? ⟨g,i.toNat,none⟩ = some (sliceV bb D.B) ∧ W.cell? ⟨p,0,none⟩ = some (.int .i64 D.B)) (go_keep)
  (first | (go_at_call 173; refine HC.out.mono ?_; rintro e w5 ⟨rfl,hb5,ht5,hz5⟩; have HB5:=hid hb5; have HT5:=hid ht5; have v1:=(ht5.cell (p:=⟨e0.lay.fb,1,none⟩) (World.block_lt_of_cell? w4 _ r1) (by simp)).trans r1; have v2:=(ht5.cell (p:=⟨g,i.toNat,none⟩) (World.block_lt_of_cell? w4 _ hcg) (by simp)).trans hcg; have v3:=(ht5.cell (p:=⟨p,0,none⟩) (World.block_lt_of_cell? w4 _ r0) (by simp)).trans r0; clear hb5 ht5 hz5))
 go_wp2
 go_ret2
 have t4:Tc [p,mt] w w4:=((Quiet.touch HQ.out [p,mt]).trans ht3 (by simp)).trans ht4 (by simp)
 have t5:Tc [] w4 w5:=(Tc.refl [] w4).drew.trans HT5.out (by simp)
 exact ⟨w4.heap.size,rfl,t4.size,HB5.out,HR4.out.touch t5 (by simp),t4.trans t5 (by simp)⟩
set_option maxHeartbeats 400000 in
theorem Read_err {s:ByteArray} {i:Int} {j:Nat} (V:Env w lo E) (hj:j < 11) (h1:j ≠ 1) (h9:j ≠ 9) (h:Calls Tryz.prog 260 #[ptr p,.string s,.int .i64 i] w fun e w'=>e = .returned (.tuple #[.slice none 0 0,errV E j]) ∧ Tc [] w w') :
  Calls Tryz.prog 253 #[ptr p,.string s,.int .i64 i] w fun e w'=>e = .returned (.tuple #[.slice none 0 0,.int .i64 (code j)]) ∧ Tc [] w w':=by
 have H:=hid h
 clear h
 go_enter Tryz.func253,Tryz.ntmps253
 go_wp2_with (first | (go_at_call 260; refine H.out.mono ?_; rintro e w1 ⟨rfl,ht⟩; have HA:=hid (anE (p:=p) (V.touch ht (by simp)).sents j hj h1 h9)) | (go_at_call 42; refine HA.out.mono ?_; rintro e w2 ⟨rfl,rfl⟩))
 go_ret2
 exact ⟨rfl,ht⟩
def readA (s:ByteArray) (i:Int) (A:PubA):Option (List UInt8) × Int × PubA:=
 if nameB s then
  match findA A.files (nm s) with
  | none=>(none,12,A)
  | some f=>if f.shut then
    if 0 ≤ i ∧ i < f.blocks.length then (f.blocks[i.toNat]?,0,{ A with c:={ A.c with calls:=A.c.calls + 1,reads:=A.c.reads + 1 } }) else (none,16,A)
   else (none,15,A)
 else (none,11,A)
def Told1 (w':World) (n B:Nat) (o:Option (List UInt8)) (v:Value):Prop:=
 match o with
 | none=>v = .slice none 0 0
 | some bl=>∃ g,v = sliceV g B ∧ n ≤ g ∧ BytesAt w' g bl ∧ bl.length = B
end
end Go.Proofs.YthehcjjckabljaaGreatDoor
