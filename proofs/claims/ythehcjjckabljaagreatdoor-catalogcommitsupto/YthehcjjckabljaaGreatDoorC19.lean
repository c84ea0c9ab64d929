import Derived.Test.YthehcjjckabljaaGreatDoorC18
namespace Go.Proofs.YthehcjjckabljaaGreatDoor
open Go.RowKit Go.Deep
set_option maxRecDepth 100000
set_option linter.unusedSimpArgs false
set_option linter.unusedVariables false
attribute [local go_sem] Oper.semAt_some
theorem nilr1 (d:Nat) (l:Array Value) (W:World):(Op.equalIn (d + 1) 188 (.func (.func 154) #[] l) .nilFunc).run Tryz.prog W = .ok false W:=by
 simp [Op.equalIn,Sem.run_bind,underlying,go_sem,Tryz.underlying188,Result.andThen]
theorem nilr (l:Array Value) (W:World):(binOp .eql 188 (.func (.func 154) #[] l) .nilFunc).run Tryz.prog W = .ok (.bool false) W:=by
 have h:(Op.equal 188 (.func (.func 154) #[] l) .nilFunc).run Tryz.prog W = .ok false W:=nilr1 9999 l W
 simp [binOp,go_sem,h]
theorem ready_rdX (A:PubA) (c:Int) (i o:List ByteArray):readyE (rdX A c) i o = readyE A i o:=by
 have h1:∀ x,lnB x (rdX A c) = lnB x A:=fun x=>rfl
 have h2:∀ x,makeE (rdX A c) x = makeE A x:=fun x=>rfl
 have h3:∀ x,readE (rdX A c) x = readE A x:=fun x=>rfl
 have h4:∀ (o:List ByteArray) (seen:List (List UInt8)),readyOut (rdX A c) seen o = readyOut A seen o:=by
  intro o
  induction o with
  | nil=>intro seen; rfl
  | cons x r ih=>intro seen; simp only [readyOut,h2,ih]
 have h5:∀ (i:List ByteArray),readyIn (rdX A c) i = readyIn A i:=by
  intro i
  induction i with
  | nil=>rfl
  | cons x r ih=>simp only [readyIn,h3,ih]
 unfold readyE
 rw [h4,h5]
 rfl
section
variable {w:World} {b:Bn} {n:Nat} {A:PubA} {s:Pu.St} {F:List Nat} {kb K:Nat} {T:Int} {t:Tbl} {gen:Nat} {bsl:List (List UInt8)}
set_option maxHeartbeats 8000000 in
theorem tell_ok (S:Std w b n A s F) (C:TapX b A (bs (catN gen)) K 5 bsl (recsN t gen)) (hn:n < 549755813888) (hk:DkA w kb b (K:Int) T) (hkF:kb ∉ F) (hlk:b.lo ≤ kb) (h17:17 ≤ b.lo) (hT:Tabs w) (hfb:fmB t = true) (hnum:t.Num) (hl:Pu.leaveE s (K:Int) = 0) (hg:gen < 18446744073709551616) (hrd:readyE A (sortU (filesN t.rows)) [] = 0) :
  Calls Tryz.prog 53 #[ptr kb,.int .u64 (gen:Int)] w fun e w'=>∃ v,e = .returned (.tuple #[v,.int .i64 0]) ∧ NewTbl w' w.heap.size t v ∧
   Went w w' b (n + bsl.length) (rdX A (bsl.length:Int)) ((s.take (K:Int)).give (K:Int)) F []:=by
 have hf:=formed_is hfb
 have hroom:=S.room
 have hFlt:=S.lt
 have hklt:=ltB hk
 have HS:=hid S
 have HC:=hid C
 have HK:=hid hk
 have HTB:=hid hT
 have HNM:=hid (fun W (tt:Tc [] w W)=>Nm.name_any gen hg W (hT.quiet tt).tz)
 have HAL:=hid (fun (W:World)=>all_any (W:=W) (kb:=kb) (x:=bs (catN gen)) 5)
 have HF:=hid (And.intro hf (And.intro hfb (And.intro hnum hrd)))
 clear S C hk hT hf hfb hnum hrd
 refine (callsIn_wide (n:=5)).1 ?_
 refine callsIn_of_wp_marks Tryz.func53 rfl trivial (wpIn_wide.2 ?_)
 simp only [Tryz.ntmps53,List.size_toArray,List.length_cons,List.length_nil,Nat.reduceAdd,Nat.reduceSub,Array.replicate_succ,Array.replicate_zero,List.push_toArray,List.append_toArray,List.nil_append,List.cons_append]
 have hnq:=nilr
 go_upto_region 2 with fail
 obtain ⟨r4,hr4⟩:∃ y,y = w.heap.size:=⟨_,rfl⟩
 obtain ⟨r5,hr5⟩:∃ y,y = w.heap.size + 1:=⟨_,rfl⟩
 obtain ⟨tb,htb⟩:∃ y,y = w.heap.size + 1 + 1:=⟨_,rfl⟩
 obtain ⟨Wa,hWa⟩:∃ Wa,Wa = ((w.alloc (.cells zer5 26)).alloc (.cells #[.int .i64 0] 46)).alloc (.cells #[.slice none 0 0,.int .i64 0,.int .u64 0,.int .u64 0,.int .u64 0,.int .u64 0,.bool false] 186):=⟨_,rfl⟩
 have ta:Tc [] w Wa:=by rw [hWa]; exact (((Tc.refl [] w).alloc _).alloc _).alloc _
 have hsa:Wa.heap.size = w.heap.size + 3:=by rw [hWa]; simp
 have a4:Wa.heap[r4]? = some (.cells zer5 26 (0,0)):=by rw [hWa,hr4]; exact (Below.heap_alloc _ _ _ (by simp; omega)).trans ((Below.heap_alloc _ _ _ (by simp)).trans (heap_alloc_new w _))
 have a5:Wa.heap[r5]? = some (.cells #[.int .i64 0] 46 (0,0)):=by rw [hWa,hr5]; refine (Below.heap_alloc _ _ _ (by simp)).trans ?_; have:=heap_alloc_new (w.alloc (.cells zer5 26)) (.cells #[.int .i64 0] 46); simpa using this
 have at_:Wa.heap[tb]? = some (.cells #[.slice none 0 0,.int .i64 0,.int .u64 0,.int .u64 0,.int .u64 0,.int .u64 0,.bool false] 186 (0,0)):=by rw [hWa,htb]; have:=heap_alloc_new ((w.alloc (.cells zer5 26)).alloc (.cells #[.int .i64 0] 46)) (.cells #[.slice none 0 0,.int .i64 0,.int .u64 0,.int .u64 0,.int .u64 0,.int .u64 0,.bool false] 186); simpa using this
 rw [← hWa,← htb,← hr5,← hr4]
 have HTa:=hid ta
 have HA:=hid (And.intro a4 (And.intro a5 at_))
 have HE:=hid (And.intro hr4 (And.intro hr5 htb))
 have HSA:=hid hsa
 clear hWa ta a4 a5 at_ hr4 hr5 htb hsa
 go_wp2_with (first
  |(go_at_call 108; refine (HAL.out w1).mono ?_; rintro e w2 ⟨b1,b2,b3,rfl,t2,d1,d2,d3,e1,e2,e3⟩; have HT2:=hid t2; have HB:=hid (And.intro d1 (And.intro d2 d3)); clear t2 d1 d2 d3)
  |(go_at_call 22; refine (HNM.out _ HTa.out).mono ?_; rintro e w1 ⟨rfl,hb1⟩; have HT1:=hid (Tc.of_below (F:=[]) hb1 (Nat.le_refl _)); clear hb1))
 refine wp_range (m:=5) (gf:=154) (lb:=#[ptr b1,ptr b2,ptr b3]) rfl (enters_of Tryz.func154 (by kernel_rfl) rfl) ?_
 intro q W1 hqt hqp hqa hqb hL hD tq hsz
 obtain ⟨L,hLe⟩:∃ L,L = w2.heap.size + 1:=⟨_,rfl⟩
 obtain ⟨D,hDe⟩:∃ D,D = w2.heap.size:=⟨_,rfl⟩
 rw [← hLe] at hL ⊢
 rw [← hDe] at hD ⊢
 obtain ⟨hr4,hr5,htb⟩:=HE.out
 have hsa:=HSA.out
 have t12:Tc [] Wa w2:=HT1.out.trans HT2.out (by simp)
 have ta1:Tc [] Wa W1:=t12.trans tq (by simp)
 have tw1:Tc [] w W1:=HTa.out.trans ta1 (by simp)
 have hsz1:=t12.size
 have hsz2:=tq.size
 obtain ⟨a4,a5,at_⟩:=HA.out
 have hlt:∀ y ∈ [tb,r4,r5,L,D],w.heap.size ≤ y ∧ y < W1.heap.size:=by
  intro y hy
  simp only [List.mem_cons,List.not_mem_nil,or_false] at hy
  omega
 have hGF:∀ y ∈ [tb,r4,r5,L,D],y ∉ F:=fun y hy hx=>by have:=hFlt y hx; have:=hlt y hy; omega
 have o0:TeO b kb tb r4 r5 L D (q.at .ready none) (recsN t gen) [tb,r4,r5,L,D] 0 W1:=by
  refine ⟨⟨[],⟨.slice none 0 0,(ta1.block _ (ltB at_) (by simp)).trans at_,World.ownsRow_nil _ _ _ _,rfl,by simp⟩,by simp,by simp⟩,(ta1.block _ (ltB a4) (by simp)).trans a4,(ta1.block _ (ltB a5) (by simp)).trans a5,hL,hD,fun y hy=>⟨(hlt y hy).2,?_,?_⟩⟩
  ·have:=(hlt y hy).1; omega
  ·have:=(hlt y hy).1; omega
 have hLn:L ∉ [tb,r4,r5,D]:=by
  simp only [List.mem_cons,List.not_mem_nil,or_false]
  omega
 have htn:tb ∉ [r4,r5,L,D]:=by
  simp only [List.mem_cons,List.not_mem_nil,or_false]
  omega
 have HO0:=hid o0
 obtain ⟨d1,d2,d3⟩:=HB.out
 have hok:=recs_ok (recs_small (gen:=gen) HF.out.2.2.1 hg (by have:=HF.out.1.vars.2; omega))
 have HOK:=hid hok
 have hww:W1.heap.size ≥ w.heap.size + 3:=by omega
 have hdis:L ≠ D ∧ r4 ≠ L ∧ r5 ≠ L ∧ tb ≠ L ∧ r4 ≠ D ∧ r5 ≠ D ∧ r4 ≠ r5 ∧ tb ≠ r4 ∧ tb ≠ r5 ∧ tb ≠ D:=by omega
 have hbs:b.lo ≤ r4 ∧ b.lo ≤ r5 ∧ b.lo ≤ D ∧ b.lo ≤ L ∧ w.heap.size ≤ r4 ∧ w.heap.size ≤ r5 ∧ w.heap.size ≤ D ∧ w.heap.size ≤ L:=by omega
 have HWT:=hid tw1
 have hrw:r4 = w.heap.size:=hr4
 have HR4:=hid hrw
 clear hrw hLe hDe hr4 hr5 htb hsa hsz hsz1 hsz2 e1 e2 e3
 refine (all1_ok (Ow:=TeO b kb tb r4 r5 L D (q.at .ready none) (recsN t gen)) (G:=[tb,r4,r5,L,D]) (HS.out.quiet tw1) hl (HK.out.touch tw1 (by simp)) hkF hlk HC.out hn TeO.ok o0 hGF ((tq.block _ (ltB d1) (by simp)).trans d1) ((tq.block _ (ltB d2) (by simp)).trans d2) ((tq.block _ (ltB d3) (by simp)).trans d3) ?_).mono ?_
 ·rintro m' j hj X G o
  have HO:=hid o
  have HQB:=hid hqb
  clear hqb HO0 o0 hok
  refine yield_round o.hl (by rw [hqp]; rfl) ?_
  rw [hqa,hqp,hqt]
  clear hqa hqp hqt o
  gi_wp2
  obtain ⟨X2,hX2⟩:∃ X2,X2 = X.alloc (.cells #[.int .u64 ((recsN t gen)[j].1:Int),.int .u64 ((recsN t gen)[j].2.1:Int),.int .u64 ((recsN t gen)[j].2.2.1:Int),.int .u64 ((recsN t gen)[j].2.2.2:Int)] 176):=⟨_,rfl⟩
  have hr2:X2.heap[X.heap.size]? = some (.cells #[.int .u64 ((recsN t gen)[j].1:Int),.int .u64 ((recsN t gen)[j].2.1:Int),.int .u64 ((recsN t gen)[j].2.2.1:Int),.int .u64 ((recsN t gen)[j].2.2.2:Int)] 176):=by rw [hX2]; exact heap_alloc_new X _
  have t2:Tc [] X X2:=by rw [hX2]; exact (Tc.refl [] X).alloc _
  rw [← hX2]
  have hnL:X.heap.size ≠ L:=by have:=ltB HO.out.hl; omega
  have o2:=TeO.ok.kept _ _ _ _ _ HO.out t2 (by simp)
  generalize X.heap.size = ob at hnL hr2 ⊢
  refine ⟨o2.hl,?_⟩
  obtain ⟨X3,hX3⟩:∃ X3,X3 = X2.putObj L (.loop (q.at .busy none)):=⟨_,rfl⟩
  have o3:=o2.loop (rec':=q.at .busy none) hLn
  have hr30:X3.heap[ob]? = X2.heap[ob]?:=by rw [hX3]; exact World.putObj_heap_other hnL
  have hr3:=hr30.trans hr2
  have t3:Tc [L] X2 X3:=by rw [hX3]; exact (Tc.refl [L] X2).putObj _ (by simp)
  rw [← hX3] at o3 ⊢
  rw [HQB.out]
  obtain ⟨gl,g1,g2,g3⟩:=o3.told
  have HP:=hid (take_any g1 (Told.Ok.fold Told.Ok.new (fun r hr=>HOK.out r (List.mem_of_mem_take hr))) (recsN t gen)[j])
  have q0:=cRw hr3 0
  have q1:=cRw hr3 1
  have q2:=cRw hr3 2
  have q3:=cRw hr3 3
  simp only [List.getElem?_toArray,List.getElem?_cons_zero,List.getElem?_cons_succ] at q0 q1 q2 q3
  have HT23:=hid (And.intro t2 t3)
  have HO3:=hid o3
  have HG1:=hid g1
  clear hX2 hX3 hr30 hr2 hr3 t2 t3 o2 o3 g1 g2 g3 hnL
  gi_wp2
  refine ⟨trivial,fun h=>(by cases h),(CallsIn.inRound L (callsIn_wide.2 HP.out)).mono ?_⟩
  rintro e W4 ⟨rfl,hT4⟩
  have HT4:=hid hT4
  clear hT4
  gi_wp2
  obtain ⟨G2,k1,k2,k3⟩:=HO3.out.took hj HG1.out HT4.out (by have:=ltB HO3.out.h4; omega) htn
  have k4:=k1.loop (rec':=q.at .ready none) hLn
  refine round_on (q:=q) k1.hl ⟨rfl,?_⟩
  intro G' o'
  obtain ⟨gA,u1,u2,_⟩:=HO.out.told
  obtain ⟨gB,v1,v2,_⟩:=o'.told
  obtain rfl:G = G':=by rw [u2,v2,u1.uniq v1]
  have hLG:L ∈ G:=by rw [u2]; simp
  have tt:Tc G X (W4.putObj L (.loop (q.at .ready none))):=(((HT23.out.1.mono (by simp)).trans HT23.out.2 (fun y hy=>by simp at hy; subst hy; exact .inl hLG)).trans k2 (fun y hy=>.inl hy)).putObj _ (.inl hLG)
  refine ⟨G2,k4,tt,fun y hy=>?_⟩
  rcases k3 y hy with h | h
  ·exact .inl h
  ·exact .inr (Nat.le_trans (Nat.le_trans HT23.out.1.size HT23.out.2.size) h)
 ·rintro e W2 ⟨hv,hH⟩
  obtain ⟨G2,F2,S2,o2,hGF2,tW,hF2,hG2⟩:=hH.x
  refine ⟨hv,.ready,none,by simp,o2.hl,?_⟩
  intro W3 hW3
  have o3:=o2.loop (rec':=q.at .exhausted none) hLn
  rw [← hW3] at o3
  have t3:Tc [L] W2 W3:=by rw [hW3]; exact (Tc.refl [L] W2).putObj _ (by simp)
  obtain ⟨gl,g1,g2,g3⟩:=o3.told
  rw [List.take_length,told_all HF.out.1] at g1
  have hLG2:L ∉ F2:=hGF2 L (by rw [g2]; simp)
  have S3:Std W3 b (n + bsl.length) (rdX A (bsl.length:Int)) ((s.take (K:Int)).give (K:Int)) F2:=S2.touch t3 (fun y hy=>by simp at hy; subst hy; exact ⟨hLG2,hbs.2.2.2.1⟩)
  have hkG:kb ∉ [tb,r4,r5,L,D] ++ F:=fun hx=>by
   rcases List.mem_append.1 hx with h | h
   ·have:=hlt kb h; omega
   ·exact hkF h
  have k3:DkA W3 kb b (K:Int) T:=((HK.out.touch HWT.out (by simp)).touch tW hkG).touch t3 (by simp; omega)
  have hTb3:Tabs W3:=((HTB.out.quiet HWT.out).touch tW (fun y hy=>by
   rcases List.mem_append.1 hy with h | h
   ·have:=hlt y h; omega
   ·have:=HS.out.base y h; omega)).touch t3 (by simp; omega)
  have toldOk:(toldOf t gen).Ok:=by rw [← told_all HF.out.1]; exact Told.Ok.fold Told.Ok.new HOK.out
  have hta:=table_any g1 toldOk gen hg
  rw [told_tbl HF.out.1 HF.out.2.2.1,HF.out.2.1] at hta
  have HTA:Hid (Calls Tryz.prog 110 #[ptr tb,.int .u64 (gen:Int)] W3 fun e w'=>∃ so sr co cr,e = .returned (.tuple #[.agg #[.int .i64 t.vars,.slice so t.order.length co,.slice sr t.rows.length cr,.int .i64 t.next,.int .u64 (t.nf:Int)],.bool true]) ∧ TblAt w' t so sr ∧ (∀ a,so = some a → W3.heap.size ≤ a.block) ∧ (∀ a,sr = some a → W3.heap.size ≤ a.block) ∧ Tc [] W3 w'):=hta.mono fun e w' ⟨v,e1,⟨so,sr,co,cr,e2,h1,h2,h3⟩,h4⟩=>⟨so,sr,co,cr,by rw [e1,e2]; rfl,h1,h2,h3,h4⟩
  clear hta
  have HO3:=hid o3
  have HS3:=hid S3
  have HK3:=hid k3
  have HTB3:=hid hTb3
  have HX:=hid (And.intro hGF2 (And.intro tW (And.intro hF2 (And.intro hG2 (And.intro t3 hW3)))))
  clear hW3 t3 g1 g2 g3 hLG2 S3 k3 hTb3 toldOk o3 S2 o2 hGF2 tW hF2 hG2 hkG hH HO0 o0 hok hqt hqp hqa hqb
  dsimp only
  go_upto_region 9 with (go_at_call 110; refine HTA.out.mono ?_; rintro e W4 ⟨so,sr,co,cr,rfl,hN,hN1,hN2,hT4⟩; have HN:=hid (And.intro hN (And.intro hN1 hN2)); have HT4:=hid hT4; clear hN hN1 hN2 hT4)
  obtain ⟨W5,hW5⟩:∃ W5,W5 = W4.alloc (.cells #[.int .i64 t.vars,.slice so t.order.length co,.slice sr t.rows.length cr,.int .i64 t.next,.int .u64 (t.nf:Int)] 26):=⟨_,rfl⟩
  have t5:Tc [] W4 W5:=by rw [hW5]; exact (Tc.refl [] W4).alloc _
  have h9:W5.heap[W4.heap.size]? = some (.cells #[.int .i64 t.vars,.slice so t.order.length co,.slice sr t.rows.length cr,.int .i64 t.next,.int .u64 (t.nf:Int)] 26 (0,0)):=by rw [hW5]; exact heap_alloc_new W4 _
  rw [← hW5]
  have hl9:=ltB h9
  have hs4:=HT4.out.size
  generalize hq9:W4.heap.size = q9 at *
  have t35:Tc [] W3 W5:=HT4.out.trans t5 (by simp)
  have HT35:=hid t35
  have HT45:=hid t5
  have HN5:=hid (HN.out.1.touch t5 (by simp) (by simp))
  have c9:=fun i=>cRw h9 i
  have HFO:=hid (fun W (tt:Tc [] W5 W)=>filesOf_any (c:=cr) (HN5.out.rows.touch tt (by simp)) HN5.out.rl (fun x hx=>(HN5.out.ri x hx).2) (HTB3.out.quiet (t35.trans tt (by simp))))
  have HRY:=hid (fun W (tt:Tc [] W3 W) (sa:Option Addr) (c:Nat) (hs:StrsAt W sa (sortU (filesN t.rows)))=>Ready_any (ci:=c) (so:=none) (co:=0) (lo:=[]) (HS3.out.quiet tt) (by have:=HC.out.few; omega) (HK3.out.touch tt (by simp)) hs (StrsAt.nil _ _) (by have h1:=sortU_len (filesN t.rows); have h2:=HF.out.1.rows; have h3:(filesN t.rows).length = t.rows.length:=(by simp [filesN]); omega) (by simp))
  rw [show (rdX A (bsl.length:Int)) = rdX A (bsl.length:Int) from rfl,ready_rdX,HF.out.2.2.2] at HRY
  have HSO:=hid (fun W mb (h:SeenAt W mb (filesN t.rows))=>sorted_any h (by have h2:=HF.out.1.rows; have h3:(filesN t.rows).length = t.rows.length:=(by simp [filesN]); omega))
  have H9:=hid h9
  clear hW5 h9 t5 t35 HTA
  go_upto_region 11 with (first
   |(go_at_call 94; refine (HRY.out _ HT8.out _ _ HSA8.out).mono ?_; rintro e W8 ⟨rfl,ht8⟩; have HT9:=hid (HT8.out.trans ht8 (by simp)); have HT59:=hid (HT58.out.trans ht8 (by simp)); clear ht8; have c9:=fun i=>cRw ((HT59.out.block q9 hl9 (by simp)).trans H9.out) i)
   |(go_at_call 48; refine (HSO.out _ _ HM7.out).mono ?_; rintro e W7 ⟨sa7,c7,rfl,hs7,ht7⟩; have HSA8:=hid hs7; have HT8:=hid (HT7.out.trans ht7 (by simp)); have HT58:=hid (HT57.out.trans ht7 (by simp)); clear hs7 ht7)
   |(go_at_call 46; refine (HFO.out _ (Tc.refl _ _)).mono ?_; rintro e W6 ⟨mb,rfl,-,hm,ht6⟩; have HM7:=hid hm; have HT7:=hid (HT35.out.trans ht6 (by simp)); have HT57:=hid ht6; clear hm ht6))
  have g4:=(HT9.out.block _ (ltB HO3.out.h4) (by simp)).trans HO3.out.h4
  have g5:=(HT9.out.block _ (ltB HO3.out.h5) (by simp)).trans HO3.out.h5
  have gD:=(HT9.out.block _ (ltB HO3.out.hd) (by simp)).trans HO3.out.hd
  have c4:=fun i=>cRw g4 i
  have u4:=fun i=>uRw g4 i
  have H4:=hid g4
  have H5:=hid g5
  have HD:=hid gD
  have hl5:=ltB g5
  have hlD:=ltB gD
  obtain ⟨W9,e9,hr9,t9⟩:=box5 g4 (.int .i64 t.vars) (.slice so t.order.length co) (.slice sr t.rows.length cr) (.int .i64 t.next) (.int .u64 (t.nf:Int))
  have g59:=(t9.block _ hl5 (by simp; exact hdis.2.2.2.2.2.2.1.symm)).trans g5
  have gD9:=(t9.block _ hlD (by simp; exact fun h=>hdis.2.2.2.2.1 h.symm)).trans gD
  have c5:=cRw g59 0
  have u5:=uRw g59 0
  simp only [List.getElem?_toArray,List.getElem?_cons_zero] at c5
  rw [e9] at c5 u5
  have HE9:=hid e9
  have H9r:=hid hr9
  have HT89:=hid t9
  have HD9:=hid gD9
  have H59:=hid g59
  clear e9 hr9 t9 gD9 g59 g4 g5 gD
  clear hs4 hq9 hl9 hl5 hlD
  go_wp2_with fail
  rw [← HE9.out]
  have hD10:=(Below.heap_setCell W9 ⟨r5,0,none⟩ (.int .i64 0) D (fun h=>hdis.2.2.2.2.2.1 h.symm)).trans HD9.out
  refine ⟨by simp,.inl ⟨_,_,rfl,run_takeDeferred hD10,?_⟩⟩
  have t10:Tc [r5,D] W9 ((W9.setCell ⟨r5,0,none⟩ (.int .i64 0)).putObj D (.deferred none)):=((Tc.refl [r5,D] W9).setCell (by simp) _).putObj _ (by simp)
  have k4:=(t10.block _ (ltB H9r.out) (by simp; exact ⟨hdis.2.2.2.2.2.2.1,hdis.2.2.2.2.1⟩)).trans H9r.out
  have k5:((W9.setCell ⟨r5,0,none⟩ (.int .i64 0)).putObj D (.deferred none)).heap[r5]? = some (.cells #[.int .i64 0] 46 (0,0)):=(World.putObj_heap_other hdis.2.2.2.2.2.1).trans ((sRw H59.out 0 _).trans (by simp))
  generalize (W9.setCell ⟨r5,0,none⟩ (.int .i64 0)).putObj D (.deferred none) = WE at *
  have q4:=fun i=>cRw k4 i
  have q5:=cRw k5 0
  simp only [List.getElem?_toArray,List.getElem?_cons_zero] at q5
  refine ⟨.tuple #[tblV t so sr co cr,.int .i64 0],by simp [results,Tryz.results53,go_sem,q4,q5,tblV],?_⟩
  obtain ⟨x1,x2,x3,x4,x5,x6⟩:=HX.out
  have tE:Tc [r4,r5,D] W8 WE:=(HT89.out.mono (by simp)).trans t10 (fun y hy=>.inl (by simp at hy ⊢; rcases hy with rfl | rfl <;> simp))
  have t3E:Tc [r4,r5,D] W3 WE:=(HT9.out.mono (by simp)).trans tE (fun y hy=>.inl hy)
  obtain ⟨gl,-,g2,-⟩:=HO3.out.told
  have hlt3:r4 < W3.heap.size ∧ r5 < W3.heap.size ∧ D < W3.heap.size:=⟨ltB HO3.out.h4,ltB HO3.out.h5,ltB HO3.out.hd⟩
  have hw3:w.heap.size ≤ W3.heap.size:=by have:=hbs.2.2.2.2.1; omega
  have tN:Tc [r4,r5,D] W4 WE:=((HT45.out.trans HT59.out (by simp)).mono (by simp)).trans tE (fun y hy=>.inl hy)
  refine ⟨_,rfl,⟨so,sr,co,cr,rfl,HN.out.1.touch tN (fun a ha hx=>?_) (fun a ha hx=>?_),fun a ha=>Nat.le_trans hw3 (HN.out.2.1 a ha),fun a ha=>Nat.le_trans hw3 (HN.out.2.2 a ha)⟩,F2,HS3.out.touch t3E (fun y hy=>?_),?_,fun y hy=>?_⟩
  ·have:=HN.out.2.1 a ha
   simp only [List.mem_cons,List.not_mem_nil,or_false] at hx
   omega
  ·have:=HN.out.2.2 a ha
   simp only [List.mem_cons,List.not_mem_nil,or_false] at hx
   omega
  ·simp only [List.mem_cons,List.not_mem_nil,or_false] at hy
   rcases hy with rfl | rfl | rfl
   ·exact ⟨x1 _ (by rw [g2]; simp),hbs.1⟩
   ·exact ⟨x1 _ (by rw [g2]; simp),hbs.2.1⟩
   ·exact ⟨x1 _ (by rw [g2]; simp),hbs.2.2.1⟩
  ·refine (((HWT.out.mono (by simp)).trans x2 (fun y hy=>?_)).trans x5 (fun y hy=>?_)).trans t3E (fun y hy=>?_)
   ·rcases List.mem_append.1 hy with h | h
    ·exact .inr (hlt y h).1
    ·exact .inl (by simpa using h)
   ·simp at hy; subst hy; exact .inr hbs.2.2.2.2.2.2.2
   ·simp only [List.mem_cons,List.not_mem_nil,or_false] at hy
    right
    omega
  ·rcases x3 y hy with h | h
   ·exact .inl h
   ·exact .inr (Nat.le_trans HWT.out.size h)
end
theorem free_leave {s:Pu.St} {K:Int} (hK:1 ≤ K) (h:64 * K ≤ s.free):Pu.leaveE s K = 0:=by
 unfold Pu.St.free at h
 unfold Pu.leaveE
 split at h
 ·omega
 ·next hc =>
  rw [if_neg hc,if_neg (by omega),if_neg (by omega)]
structure SameP (s s':Pu.St):Prop where
 limit:s'.limit = s.limit
 hand:s'.hand = s.hand
 lent:s'.lent = s.lent
 closed:s'.closed = s.closed
theorem SameP.trans {s s' s2:Pu.St} (h:SameP s s') (k:SameP s' s2):SameP s s2:=⟨k.limit.trans h.limit,k.hand.trans h.hand,k.lent.trans h.lent,k.closed.trans h.closed⟩
theorem sameP_take {s:Pu.St} {K:Int} (hg:0 ≤ s.hand) (hK:0 ≤ K) (hc:s.closed = false) (h:Pu.leaveE s K = 0):SameP s ((s.take K).give K):=by
 have e:s.take K = { s with hand:=s.hand + K,peak:=max s.peak (s.hand + K + s.lent) }:=by unfold Pu.St.take; rw [if_pos h]
 rw [e]
 unfold Pu.St.give
 rw [if_pos (by unfold Pu.giveE; simp only [hc]; rw [if_neg (by simp),if_neg (by omega),if_neg (by omega)])]
 exact ⟨rfl,by show s.hand + K - K = s.hand; omega,rfl,rfl⟩
theorem SameP.free {s s':Pu.St} (h:SameP s s'):s'.free = s.free:=by
 unfold Pu.St.free
 rw [h.closed,h.hand,h.lent,h.limit]
theorem wholeE_ok {A:PubA} {s:Pu.St} {K:Int} {i o:List ByteArray} (h1:A.on = true) (h2:readyE A i o = 0) (h3:64 * K ≤ s.free):wholeE A s K 0 i o = 0:=by
 unfold wholeE
 rw [if_neg (by simp [h1]),if_neg (by simp),if_neg (by simp [h2]),if_neg (by omega)]
theorem readyE_nil {A:PubA} (h:A.on = true):readyE A [] [] = 0:=by
 unfold readyE
 rw [if_neg (by simp [h])]
 rfl
section
variable {w w1 w2 w3:World} {b:Bn} {n m:Nat} {A A1 A2:PubA} {s s1 s2:Pu.St} {F F1 G:List Nat} {kb K:Nat} {T:Int} {t:Tbl} {gen:Nat} {bsl:List (List UInt8)}
set_option maxHeartbeats 8000000 in
theorem readC_ok (S:Std w b n A s F) (C:TapX b A (bs (catN gen)) K 5 bsl (recsN t gen)) (hn:n < 549755813888) (hk:DkA w kb b (K:Int) T) (hkF:kb ∉ F) (hlk:b.lo ≤ kb) (h17:17 ≤ b.lo) (hT:Tabs w) (hfb:fmB t = true) (hnum:t.Num) (hfree:64 * (K:Int) ≤ s.free) (hg:gen < 18446744073709551616) (hg0:gen ≠ 0) (hnew:newestA A = gen) (hrd:readyE A (sortU (filesN t.rows)) [] = 0) :
  Calls Tryz.prog 20 #[ptr kb] w fun e w'=>∃ v,e = .returned (.tuple #[v,.int .u64 (gen:Int),.int .i64 0]) ∧ NewTbl w' w.heap.size t v ∧
   Went w w' b (n + bsl.length) (rdX A (bsl.length:Int)) ((s.take (K:Int)).give (K:Int)) F []:=by
 have hroom:=S.room
 have hFlt:=S.lt
 have hklt:=ltB hk
 have hKK:=C.hK
 have hl:=free_leave (s:=s) (K:=(K:Int)) (by omega) hfree
 have HW:Hid (∀ W,Tc [] w W → Calls Tryz.prog 47 #[ptr kb,.int .i64 0,.slice none 0 0,.slice none 0 0] W fun e w'=>e = .returned (.int .i64 0) ∧ Went W w' b n A s F []):=fun W tt=>by
  have h:=whole_any (ci:=0) (co:=0) (li:=[]) (lo:=[]) (S.quiet tt) (by omega) (hk.touch tt (by simp)) hkF (by omega) (StrsAt.nil _ none) (StrsAt.nil _ none) (by simp) (by simp) 0
  rw [wholeE_ok C.has.on (readyE_nil C.has.on) hfree] at h
  exact h
 have HNW:=hid (fun W F' (S':Std W b n A s F') (k':DkA W kb b (K:Int) T) (hT':Tabs W)=>newest_any S' (by omega) k' hT')
 rw [hnew] at HNW
 have HTL:=hid (fun W F' (S':Std W b n A s F') (k':DkA W kb b (K:Int) T) (hkF':kb ∉ F') (hT':Tabs W)=>tell_ok S' C hn k' hkF' hlk h17 hT' hfb hnum hl hg hrd)
 have HS:=hid S
 have HK:=hid hk
 have HTB:=hid hT
 have hgi:((gen:Int) == 0) = false:=by simp; exact hg0
 have hgi2:¬ (gen:Int) = 0:=by omega
 have HT0:=hid ((Tc.refl [] w).alloc (.cells zer5 26))
 have HB0:=hid (heap_alloc_new w (.cells zer5 26))
 have HSB:=hid S.base
 clear S C hk hT hnew hrd hfb hnum hg0
 go_enter Tryz.func20,Tryz.ntmps20
 go_upto_region 7 with (first
  |(go_at_call 52; refine (HNW.out _ _ HS1.out HK1.out HT1.out).mono ?_; rintro e w2 ⟨rfl,ht2⟩; have HT2:=hid ht2; clear ht2)
  |(go_at_call 47; refine (HW.out _ HT0.out).mono ?_; rintro e w1 ⟨rfl,hw1⟩; obtain ⟨F1,S1,t1,f1⟩:=hw1; have HS1:=hid S1; have hkF1:kb ∉ F1:=(fun hx=>by rcases f1 _ hx with h | h; exact hkF h; have:=HT0.out.size; omega); have HK1:=hid ((HK.out.touch HT0.out (by simp)).touch t1 (by simpa using hkF)); have HT1:=hid ((HTB.out.quiet HT0.out).touch t1 (fun y hy=>by have:=HSB.out y (by simpa using hy); omega)); have HF1:=hid f1; have HTt1:=hid t1; clear S1 t1 f1))
 have HTE:Hid (Calls Tryz.prog 53 #[ptr kb,.int .u64 (gen:Int)] w2 fun e w'=>∃ so sr co cr,e = .returned (.tuple #[.agg #[.int .i64 t.vars,.slice so t.order.length co,.slice sr t.rows.length cr,.int .i64 t.next,.int .u64 (t.nf:Int)],.int .i64 0]) ∧ TblAt w' t so sr ∧ (∀ a,so = some a → w2.heap.size ≤ a.block) ∧ (∀ a,sr = some a → w2.heap.size ≤ a.block) ∧ Went w2 w' b (n + bsl.length) (rdX A (bsl.length:Int)) ((s.take (K:Int)).give (K:Int)) F1 []):=
  (HTL.out w2 F1 (HS1.out.quiet HT2.out) (HK1.out.touch HT2.out (by simp)) hkF1 (HT1.out.quiet HT2.out)).mono fun e w' ⟨v,e1,⟨so,sr,co,cr,e2,h1,h2,h3⟩,h4⟩=>⟨so,sr,co,cr,by rw [e1,e2]; rfl,h1,h2,h3,h4⟩
 have hb1:=(HTt1.out.block _ (ltB HB0.out) (by simp; intro hx; have:=hFlt _ hx; omega)).trans HB0.out
 have hb2:=(HT2.out.block _ (ltB hb1) (by simp)).trans hb1
 have hn1:w.heap.size ∉ F1:=fun hx=>by
  rcases HF1.out _ hx with h | h
  ·have:=hFlt _ h; omega
  ·have:=ltB HB0.out; omega
 have HB2:=hid hb2
 have hq0:w.heap.size < w2.heap.size:=ltB hb2
 clear hb1 hb2
 go_upto_region 10 with (go_at_call 53; refine HTE.out.mono ?_; rintro e w3 ⟨so,sr,co,cr,rfl,hN,hN1,hN2,hW3⟩; have HN:=hid (And.intro hN (And.intro hN1 hN2)); have HW3:=hid hW3; clear hN hN1 hN2 hW3)
 obtain ⟨W4,hW4⟩:∃ W4,W4 = w3.alloc (.cells #[.int .i64 t.vars,.slice so t.order.length co,.slice sr t.rows.length cr,.int .i64 t.next,.int .u64 (t.nf:Int)] 26):=⟨_,rfl⟩
 have t4:Tc [] w3 W4:=by rw [hW4]; exact (Tc.refl [] w3).alloc _
 have h9:W4.heap[w3.heap.size]? = some (.cells #[.int .i64 t.vars,.slice so t.order.length co,.slice sr t.rows.length cr,.int .i64 t.next,.int .u64 (t.nf:Int)] 26 (0,0)):=by rw [hW4]; exact heap_alloc_new w3 _
 rw [← hW4]
 obtain ⟨F3,S3,t3,f3⟩:=HW3.out
 have hb3:=(t3.block _ (ltB HB2.out) (by simpa using hn1)).trans HB2.out
 have hb4:=(t4.block _ (ltB hb3) (by simp)).trans hb3
 have c9:=fun i=>cRw h9 i
 have c4:=fun i=>cRw hb4 i
 have u4:=fun i=>uRw hb4 i
 obtain ⟨W5,e5,hr5,t5⟩:=box5 hb4 (.int .i64 t.vars) (.slice so t.order.length co) (.slice sr t.rows.length cr) (.int .i64 t.next) (.int .u64 (t.nf:Int))
 have HE5:=hid e5
 have H5:=hid hr5
 have HX:=hid (And.intro S3 (And.intro t3 (And.intro f3 (And.intro t4 t5))))
 generalize w3.heap.size = q9 at *
 clear hW4 S3 t3 f3 t4 t5 e5 hr5 hb3 hb4 h9 HTE
 go_wp2_with fail
 rw [← HE5.out]
 have q5:=fun i=>cRw H5.out i
 refine bodyPost_ret (v:=.tuple #[tblV t so sr co cr,.int .u64 (gen:Int),.int .i64 0]) (by simp [results,Tryz.results20,go_sem,q5,tblV]) rfl ?_
 obtain ⟨S3,t3,f3,t4,t5⟩:=HX.out
 have hn3:w.heap.size ∉ F3:=fun hx=>by
  rcases f3 _ hx with h | h
  ·exact hn1 h
  ·omega
 have t45:Tc [w.heap.size] _ W5:=(t4.mono (by simp)).trans t5 (fun y hy=>.inl hy)
 have hlo:=hroom
 have tw2:Tc F w w2:=(HT0.out.mono (by simp)).trans (HTt1.out.trans HT2.out (by simp)) (fun y hy=>.inl (by simpa using hy))
 refine ⟨_,rfl,⟨so,sr,co,cr,rfl,HN.out.1.touch t45 (fun a ha hx=>?_) (fun a ha hx=>?_),fun a ha=>Nat.le_trans (Nat.le_of_lt hq0) (HN.out.2.1 a ha),fun a ha=>Nat.le_trans (Nat.le_of_lt hq0) (HN.out.2.2 a ha)⟩,F3,S3.touch t45 (fun y hy=>?_),?_,fun y hy=>?_⟩
 ·have:=HN.out.2.1 a ha
  simp at hx; omega
 ·have:=HN.out.2.2 a ha
  simp at hx; omega
 ·simp at hy; subst hy; exact ⟨hn3,hlo⟩
 ·have f13:∀ y ∈ [] ++ F1,y ∈ F ∨ w.heap.size ≤ y:=fun y hy=>by
   rcases HF1.out y (by simpa using hy) with h | h
   ·exact .inl h
   ·exact .inr (Nat.le_trans HT0.out.size h)
  exact ((tw2.trans t3 f13).trans t45 (fun y hy=>by simp at hy; subst hy; exact .inr (Nat.le_refl _))).mono (by simp)
 ·rcases f3 y hy with h | h
  ·rcases HF1.out y h with h | h
   ·exact .inl h
   ·exact .inr (Nat.le_trans HT0.out.size h)
  ·exact .inr (by omega)
end
theorem add_next (a:Addr) (j:Nat):(⟨(a.add j).block,(a.add j).off + 1,none⟩:Addr) = a.add (j + 1):=by
 unfold Addr.add
 rw [if_neg (Nat.succ_ne_zero j)]
 split
 ·next h=>subst h; rfl
 ·simp [Nat.add_assoc]
theorem app_nil_int (ty:TypeId) (w:World) (a:Option Addr) (c:Nat):(Builtin.append_ #[22,22] ty #[.slice none 0 0,.slice a 0 c]).run Tryz.prog w = .ok (.slice none 0 0) w:=by
 obtain ⟨i,hi,hz0,hz1,hz2⟩:=info_parts infoInt
 cases a <;> simp [Builtin.append_,run_underlying Tryz.underlying22,sizeOf,typeInfo,hi,Builtin.lenOf,Builtin.firstCells,loadCells,loadCellsFrom]
theorem app_nil_row (ty:TypeId) (w:World) (a:Option Addr) (c:Nat):(Builtin.append_ #[23,23] ty #[.slice none 0 0,.slice a 0 c]).run Tryz.prog w = .ok (.slice none 0 0) w:=by
 obtain ⟨i,hi,hz0,hz1,hz2⟩:=info_parts infoRow
 cases a <;> simp [Builtin.append_,run_underlying Tryz.underlying23,sizeOf,typeInfo,hi,Builtin.lenOf,Builtin.firstCells,loadCells,loadCellsFrom]
theorem rowC_len (l:List (Int × Nat)):(rowC l).length = l.length * 2:=by
 induction l with
 | nil=>rfl
 | cons x r ih=>simp only [rowC,List.flatMap_cons,List.length_append,List.length_cons,List.length_nil] at ih ⊢; omega
theorem rowC_get {l:List (Int × Nat)} {j:Nat} {u:Value} (h:(rowC l)[j]? = some u):∃ (k:Nat) (hk:k < l.length),(j = k * 2 ∧ u = .int .i64 l[k].1) ∨ (j = k * 2 + 1 ∧ u = .int .u64 (l[k].2:Int)):=by
 obtain ⟨hj,_⟩:=List.getElem?_eq_some_iff.1 h
 rw [rowC_len] at hj
 have hk:j / 2 < l.length:=by omega
 refine ⟨j / 2,hk,?_⟩
 obtain ⟨h1,h2⟩:=rowC_at hk
 rcases Nat.mod_two_eq_zero_or_one j with h0 | h0
 ·left
  have e:j / 2 * 2 = j:=by omega
  rw [e,h] at h1
  exact ⟨e.symm,Option.some.inj h1⟩
 ·right
  have e:j / 2 * 2 + 1 = j:=by omega
  rw [e,h] at h2
  exact ⟨e.symm,Option.some.inj h2⟩
theorem wpList_app (t:TypeId) (w:World) {ops:Array Oper} {rest:List Oper} {o:Oper} {a:Act} {Q:Exit → Act → World → Prop} (hgd:o.guard = none) (s x:Operand)
  (hop:o.op = Op.call { callee:=Callee.builtin Builtin.append,args:=#[s,x],argTypes:=#[t,t] }) {sv xv v:Value} {w':World} (hs:a.eval s = sv) (hx:a.eval x = xv) (hrun:(Builtin.append_ #[t,t] o.type #[sv,xv]).run Tryz.prog w = .ok v w')
  (hK:wpList Tryz.prog ops Q rest (a.put o.dst v) w'):wpList Tryz.prog ops Q (o :: rest) a w:=by
 refine wpList_plain hgd fun K' hK'=>?_
 unfold Oper.wp
 simp [execOp,hop,resolve,invoke,builtin,hs,hx,hrun,Result.andThen]
 exact hK' _ _ hK
section
variable {w w':World} {sa:Option Addr}
theorem run_app_ints (ty:TypeId) {l:List Int} {c:Nat} (h:IntsAt w sa l) (hn:l.length ≤ 1099511627776) :
  ∃ s2 c2 w',(Builtin.append_ #[22,22] ty #[.slice none 0 0,.slice sa l.length c]).run Tryz.prog w = .ok (.slice s2 l.length c2) w' ∧ IntsAt w' s2 l ∧ (∀ a,s2 = some a → w.heap.size ≤ a.block ∧ a.block < w'.heap.size) ∧ Below w.heap.size w w':=by
 by_cases h0:l = []
 ·subst h0
  exact ⟨none,0,w,app_nil_int ty w sa c,IntsAt.nil _ _,by simp,Below.refl _ _⟩
 ·have hp:0 < l.length:=List.length_pos_iff.2 h0
  obtain ⟨a,rfl,ha,_⟩:=h.at_ 0 hp
  have hc:∀ j u,(intC l)[j]? = some u → w.cell? (a.add j) = some u:=by
   intro j u hu
   obtain ⟨hj,e⟩:=List.getElem?_eq_some_iff.1 hu
   obtain ⟨a',e1,_,hc⟩:=h.at_ j (by simpa [intC] using hj)
   cases e1
   rw [hc,← e]
   simp [intC]
  obtain ⟨i,hi,hz0,hz1,hz2⟩:=info_parts infoInt
  obtain ⟨v',w',hr,ho,hg,_⟩:=run_append_own (P:=Tryz.prog) w w.heap.size 22 ty 3 i (.int .i64 0) 1 8 Tryz.underlying22 hi hz0 hz1 hz2 rfl (by decide) (.slice none 0 0) 0 [] (World.ownsRow_nil _ _ _ _) a l.length c (intC l) (by simp [intC]) hc (by intro x hx; obtain ⟨y,_,rfl⟩:=List.mem_map.1 hx; rfl) (by unfold maxLen; omega) (by omega) (Nat.le_refl _)
  simp only [Nat.zero_add,List.nil_append] at ho
  obtain ⟨s2,c2,rfl⟩:=oSC ho
  obtain ⟨h1,h2⟩:=ints_of_own ho
  exact ⟨s2,c2,w',hr,h1,h2,(Below.refl _ w).grown hg (Nat.le_refl _) (by simp [Value.ownBlock])⟩
theorem run_app_rows (ty:TypeId) {l:List (Int × Nat)} {c:Nat} (h:RowsAt w sa l) (hn:l.length ≤ 1099511627776) :
  ∃ s2 c2 w',(Builtin.append_ #[23,23] ty #[.slice none 0 0,.slice sa l.length c]).run Tryz.prog w = .ok (.slice s2 l.length c2) w' ∧ RowsAt w' s2 l ∧ (∀ a,s2 = some a → w.heap.size ≤ a.block ∧ a.block < w'.heap.size) ∧ Below w.heap.size w w':=by
 by_cases h0:l = []
 ·subst h0
  exact ⟨none,0,w,app_nil_row ty w sa c,RowsAt.nil _ _,by simp,Below.refl _ _⟩
 ·have hp:0 < l.length:=List.length_pos_iff.2 h0
  obtain ⟨a,rfl,ha,_⟩:=h.at_ 0 hp
  have hc:∀ j u,(rowC l)[j]? = some u → w.cell? (a.add j) = some u:=by
   intro j u hu
   obtain ⟨k,hk,hx⟩:=rowC_get hu
   obtain ⟨a',e1,_,c0,c1⟩:=h.at_ k hk
   cases e1
   rcases hx with ⟨rfl,rfl⟩ | ⟨rfl,rfl⟩
   ·exact c0
   ·rw [← c1]
    exact congrArg _ (add_next a _).symm
  obtain ⟨i,hi,hz0,hz1,hz2⟩:=info_parts infoRow
  obtain ⟨v',w',hr,ho,hg,_⟩:=run_append_own (P:=Tryz.prog) w w.heap.size 23 ty 45 i _ 2 16 Tryz.underlying23 hi hz0 hz1 hz2 rfl (by decide) (.slice none 0 0) 0 [] (World.ownsRow_nil _ _ _ _) a l.length c (rowC l) (by rw [rowC_len]) hc (by intro x hx; unfold rowC at hx; obtain ⟨y,_,hy⟩:=List.mem_flatMap.1 hx; simp at hy; rcases hy with rfl | rfl <;> rfl) (by unfold maxLen; omega) (by omega) (Nat.le_refl _)
  simp only [Nat.zero_add,List.nil_append] at ho
  obtain ⟨s2,c2,rfl⟩:=oSC ho
  obtain ⟨h1,h2⟩:=rows_of_own ho
  exact ⟨s2,c2,w',hr,h1,h2,(Below.refl _ w).grown hg (Nat.le_refl _) (by simp [Value.ownBlock])⟩
theorem heap_three (w:World) (o1 o2 o3:Obj):(((w.alloc o1).alloc o2).alloc o3).heap[w.heap.size]? = some o1 ∧ (((w.alloc o1).alloc o2).alloc o3).heap[w.heap.size + 1]? = some o2 ∧ (((w.alloc o1).alloc o2).alloc o3).heap[w.heap.size + 1 + 1]? = some o3:=by
 refine ⟨?_,?_,?_⟩
 ·rw [Below.heap_alloc _ _ _ (by simp; omega)]; exact (heap_two w _ _).1
 ·rw [Below.heap_alloc _ _ _ (by simp)]; exact (heap_two w _ _).2
 ·have:=heap_alloc_new ((w.alloc o1).alloc o2) o3
  simpa using this
variable {t:Tbl} {so sr:Option Addr} {co cr:Nat}
set_option maxHeartbeats 4000000 in
theorem copied_any (h:TblAt w t so sr):Calls Tryz.prog 10 #[tblV t so sr co cr] w fun e w'=>∃ s2 s3 c2 c3,e = .returned (tblV t s2 s3 c2 c3) ∧ TblAt w' t s2 s3 ∧ (∀ a,s2 = some a → w.heap.size ≤ a.block) ∧ (∀ a,s3 = some a → w.heap.size ≤ a.block) ∧ Tc [] w w':=by
 have HH:=hid h
 have hol:=h.ol
 have hrl:=h.rl
 clear h
 simp only [tblV]
 go_enter Tryz.func10,Tryz.ntmps10
 go_upto_region 4 with fail
 obtain ⟨W4,hW4⟩:∃ W4,W4 = (((w.alloc (.cells #[.int .i64 t.vars,.slice so t.order.length co,.slice sr t.rows.length cr,.int .i64 t.next,.int .u64 (t.nf:Int)] 26)).alloc (.cells #[.int .i64 0,.slice none 0 0,.slice none 0 0,.int .i64 0,.int .u64 0] 26)).alloc (.cells #[.int .i64 t.vars,.slice none 0 0,.slice none 0 0,.int .i64 t.next,.int .u64 (t.nf:Int)] 26)):=⟨_,rfl⟩
 have t4:Tc [] w W4:=by rw [hW4]; exact (((Tc.refl [] w).alloc _).alloc _).alloc _
 have h3:=heap_three w (.cells #[.int .i64 t.vars,.slice so t.order.length co,.slice sr t.rows.length cr,.int .i64 t.next,.int .u64 (t.nf:Int)] 26) (.cells #[.int .i64 0,.slice none 0 0,.slice none 0 0,.int .i64 0,.int .u64 0] 26) (.cells #[.int .i64 t.vars,.slice none 0 0,.slice none 0 0,.int .i64 t.next,.int .u64 (t.nf:Int)] 26)
 rw [← hW4] at h3 ⊢
 clear hW4
 obtain ⟨r0,r1,r2⟩:=h3
 obtain ⟨b0,hb0⟩:∃ b,b = w.heap.size:=⟨_,rfl⟩
 obtain ⟨b1,hb1⟩:∃ b,b = w.heap.size + 1:=⟨_,rfl⟩
 obtain ⟨b2,hb2⟩:∃ b,b = w.heap.size + 1 + 1:=⟨_,rfl⟩
 rw [← hb2] at r2 ⊢
 rw [← hb1] at r1 ⊢
 rw [← hb0] at r0 ⊢
 have hbb:b0 ≠ b1 ∧ b0 ≠ b2 ∧ b1 ≠ b2 ∧ w.heap.size ≤ b0 ∧ w.heap.size ≤ b1 ∧ w.heap.size ≤ b2:=by omega
 clear hb0 hb1 hb2
 obtain ⟨n1,n2,n3,m0,m1,m2⟩:=hbb
 have l0:=ltB r0
 have l1:=ltB r1
 have l2:=ltB r2
 obtain ⟨s2,c2,w5,hr5,hi5,hs5,hb5⟩:=run_app_ints 22 (c:=co) (HH.out.ints.touch t4 (by simp)) (by omega)
 have q0:=(hb5.block _ l0).trans r0
 have q1:=(hb5.block _ l1).trans r1
 have q2:=(hb5.block _ l2).trans r2
 have x2:=fun i=>uRw q2 i
 have z2:=fun i=>cRw q2 i
 have y0:=fun i=>cRw r0 i
 have y2:=fun i=>cRw r2 i
 have HR:=hid (And.intro q0 (And.intro q1 q2))
 have H5:=hid (And.intro hi5 (And.intro hs5 (And.intro hb5 t4)))
 clear r0 r1 r2 q0 q1 q2 hi5 hs5 hb5 t4
 go_upto_region 5 with (at_builtin; refine wpList_app 22 _ rfl (.tmp 8) (.tmp 10) rfl rfl rfl hr5 ?_)
 obtain ⟨q0,q1,q2⟩:=HR.out
 obtain ⟨hi5,hs5,hb5,t4⟩:=H5.out
 obtain ⟨W5,hW5⟩:∃ W5,W5 = w5.setCell ⟨b2,1,none⟩ (.slice s2 t.order.length c2):=⟨_,rfl⟩
 have t5:Tc [b2] w5 W5:=by rw [hW5]; exact (Tc.refl [b2] w5).setCell (by simp) _
 have p0:=(t5.block _ (ltB q0) (by simpa using n2)).trans q0
 have p1:=(t5.block _ (ltB q1) (by simpa using n3)).trans q1
 have p2:W5.heap[b2]? = some (.cells #[.int .i64 t.vars,.slice s2 t.order.length c2,.slice none 0 0,.int .i64 t.next,.int .u64 (t.nf:Int)] 26 (0,0)):=by
  rw [hW5]
  simpa using sRw q2 1 (.slice s2 t.order.length c2)
 rw [← hW5]
 clear hW5
 have t45:Tc [] w W5:=(t4.trans (Tc.of_below (F:=[]) hb5 (Nat.le_refl _)) (by simp)).trans t5 (by simp; exact m2)
 have hi6:IntsAt W5 s2 t.order:=hi5.touch t5 (fun a ha=>by have:=(hs5 a ha).1; simp; omega)
 obtain ⟨s3,c3,w6,hr6,hi7,hs6,hb6⟩:=run_app_rows 23 (c:=cr) (HH.out.rows.touch t45 (by simp)) (by omega)
 have k0:=(hb6.block _ (ltB p0)).trans p0
 have k1:=(hb6.block _ (ltB p1)).trans p1
 have k2:=(hb6.block _ (ltB p2)).trans p2
 have z5:=fun i=>cRw p0 i
 have y5:=fun i=>cRw p2 i
 have x6:=fun i=>uRw k2 i
 have z6:=fun i=>cRw k2 i
 have hs4:∀ a,s2 = some a → w.heap.size ≤ a.block:=fun a ha=>by have:=(hs5 a ha).1; have:=t4.size; omega
 have HK:=hid (And.intro k0 (And.intro k1 k2))
 have H6:=hid (And.intro hi7 (And.intro hs6 (And.intro hb6 (And.intro t45 (And.intro hi6 (And.intro hs4 hs5))))))
 have hsz:W4.heap.size ≤ w5.heap.size ∧ w5.heap.size ≤ W5.heap.size:=⟨hb5.size,t5.size⟩
 clear q0 q1 q2 hi5 hs5 hb5 t4 t5 p0 p1 p2 t45 hi6 hi7 hs6 hb6 k0 k1 k2 hs4 y0 y2 x2 z2 HR H5 hr5
 go_upto_region 6 with (at_builtin; refine wpList_app 23 _ rfl (.tmp 14) (.tmp 16) rfl rfl rfl hr6 ?_)
 obtain ⟨k0,k1,k2⟩:=HK.out
 obtain ⟨hi7,hs6,hb6,t45,hi6,hs4,hs5⟩:=H6.out
 obtain ⟨W6,hW6⟩:∃ W6,W6 = w6.setCell ⟨b2,2,none⟩ (.slice s3 t.rows.length c3):=⟨_,rfl⟩
 have t6:Tc [b2] w6 W6:=by rw [hW6]; exact (Tc.refl [b2] w6).setCell (by simp) _
 have p1:=(t6.block _ (ltB k1) (by simpa using n3)).trans k1
 have p2:W6.heap[b2]? = some (.cells #[.int .i64 t.vars,.slice s2 t.order.length c2,.slice s3 t.rows.length c3,.int .i64 t.next,.int .u64 (t.nf:Int)] 26 (0,0)):=by
  rw [hW6]
  simpa using sRw k2 2 (.slice s3 t.rows.length c3)
 rw [← hW6]
 clear hW6
 obtain ⟨W7,e7,hr7,t7⟩:=box5 p1 (.int .i64 t.vars) (.slice s2 t.order.length c2) (.slice s3 t.rows.length c3) (.int .i64 t.next) (.int .u64 (t.nf:Int))
 have z7:=fun i=>cRw p2 i
 have x7:=fun i=>uRw p1 i
 have y7:=fun i=>cRw p1 i
 have h67:Tc [b2,b1] w6 W7:=(t6.mono (by simp)).trans t7 (by simp)
 have hw7:Tc [] w W7:=(t45.trans (Tc.of_below (F:=[]) hb6 (Nat.le_refl _)) (by simp)).trans h67 (by simp; exact ⟨m2,m1⟩)
 have hi8:IntsAt W7 s2 t.order:=(hi6.touch (Tc.of_below (F:=[]) hb6 (Nat.le_refl _)) (by simp)).touch h67 (fun a ha=>by have:=(hs5 a ha).1; simp; omega)
 have hi9:RowsAt W7 s3 t.rows:=hi7.touch h67 (fun a ha=>by have:=(hs6 a ha).1; simp; omega)
 have hs8:∀ a,s3 = some a → w.heap.size ≤ a.block:=fun a ha=>by have:=(hs6 a ha).1; have:=t45.size; omega
 have HE7:=hid e7
 have H7:=hid (And.intro hr7 (And.intro hw7 (And.intro hi8 (And.intro hi9 (And.intro hs4 hs8)))))
 clear k0 k1 k2 hi7 hs6 hb6 t45 hi6 hs4 hs5 t6 t7 p1 p2 h67 hw7 hi8 hi9 hs8 e7 hr7 hr6 z5 y5 x6 z6 HK H6
 go_wp2_with fail
 rw [← HE7.out]
 obtain ⟨hr7,hw7,hi8,hi9,hs4,hs8⟩:=H7.out
 have q7:=fun i=>cRw hr7 i
 refine bodyPost_ret (v:=.agg #[.int .i64 t.vars,.slice s2 t.order.length c2,.slice s3 t.rows.length c3,.int .i64 t.next,.int .u64 (t.nf:Int)]) (by simp [results,Tryz.results10,go_sem,q7]) rfl ?_
 have h:=HH.out
 exact ⟨s2,s3,c2,c3,rfl,⟨hi8,hi9,h.ol,h.rl,h.vars,h.next,h.nf,h.oi,h.ri⟩,hs4,hs8,hw7⟩
end
end Go.Proofs.YthehcjjckabljaaGreatDoor
