import Derived.Deep.RegionHeld3
import Derived.BigQuiet
import Derived.Test.YthehcjjckabljaaGreatDoorC30
namespace Go.Proofs.YthehcjjckabljaaGreatDoor
open Go.RowKit Go.Deep
set_option maxRecDepth 100000
set_option linter.unusedSimpArgs false
set_option linter.unusedVariables false
section
variable {w:World}
set_option maxHeartbeats 16000000 in
theorem commits_any {E:Nat → Addr} {lo:Nat} {ta:Option Addr} {tc mm:Nat} {l:List ThI} {n:Int} (C:Came w E lo ta l) (hn:-9223372036854775808 ≤ n ∧ n < 9223372036854775808) (hm:l.length = min mm 1000) (hmc:mm ≤ tc) (hta:ta = none → mm = 0 ∧ tc = 0)
  {t:Tbl} {so sr:Option Addr} {co cr gen:Nat} (ht:TblAt w t so sr) (hg:gen < 18446744073709551616) :
  Calls Tryz.prog 7 #[.agg #[.int .i64 n,.slice ta mm tc],tblV t so sr co cr,.int .u64 (gen:Int)] w fun e w'=>e = .returned (.bool true) ∧ Tc [] w w':=by
 have hfew:=C.few
 have HC:=hid C
 have HTR:=hid (fun x hx=>(ht.ri x hx).2)
 have HTT:=hid (fun W (tt:Tc [] w W)=>ht.touch tt (by simp) (by simp))
 have HA:=hid (fun W (tt:Tc [] w W)=>alive_any (C.env.touch tt (by simp)) (C.tabs.quiet tt) C.low)
 have HST:=hid (fun W (tt:Tc [] w W)=>stateC (n:=n) (C.touch tt) hn hm hmc hta)
 have HCP:=hid (fun W (tt:Tc [] w W)=>copied_any (co:=co) (cr:=cr) (ht.touch tt (by simp) (by simp)))
 have HNM:=hid ht.num
 obtain ⟨m,hmf⟩:=FilesIs.some t.rows
 have HMF:=hid hmf
 obtain ⟨W1,hW1⟩:∃ W1,W1 = ((w.alloc (.cells #[.int .i64 n,.slice ta mm tc] 57)).alloc (.cells #[.int .i64 t.vars,.slice so t.order.length co,.slice sr t.rows.length cr,.int .i64 t.next,.int .u64 (t.nf:Int)] 26)):=⟨_,rfl⟩
 have H1:Hid (Tc [] w W1 ∧ W1.heap[w.heap.size]? = some (.cells #[.int .i64 n,.slice ta mm tc] 57 (0,0)) ∧ W1.heap[w.heap.size + 1]? = some (.cells #[.int .i64 t.vars,.slice so t.order.length co,.slice sr t.rows.length cr,.int .i64 t.next,.int .u64 (t.nf:Int)] 26 (0,0))):=hid (by
  rw [hW1]
  exact ⟨((Tc.refl [] w).alloc _).alloc _,heap_two w _ _⟩)
 have HBX:=hid (fun W (tt:Tc [] W1 W)=>(And.intro (fun i=>cRw ((tt.block _ (ltB H1.out.2.1) (by simp)).trans H1.out.2.1) i) (fun i=>cRw ((tt.block _ (ltB H1.out.2.2) (by simp)).trans H1.out.2.2) i)))
 have HW1:=hid hW1
 clear hW1 C ht hmf hn hm hmc hta
 simp only [tblV] at *
 go_enter Tryz.func7,Tryz.ntmps7
 go_upto_region 1 with fail
 rw [← HW1.out]
 generalize hbx:w.heap.size = bx at *
 have HBN:=hid hbx
 clear hbx HW1
 go_upto_region 4 with (go_at_call 9; refine (HA.out W1 H1.out.1).mono ?_; rintro e w2 ⟨rfl,ht2⟩; have HT2:=hid ht2; clear ht2)
 obtain ⟨c57,c26⟩:=HBX.out w2 HT2.out
 go_upto_region 5 with (go_at_call 24; refine (HST.out w2 (H1.out.1.trans HT2.out (by simp))).mono ?_; rintro e w3 ⟨B,fa,fc,D,sl,rfl,hst,ht3⟩; have HS3:=hid hst; have HT3:=hid (HT2.out.trans ht3 (by simp)); clear hst ht3)
 clear c57 c26
 obtain ⟨W4,hW4⟩:∃ W4,W4 = w3.alloc (.cells #[.int .i64 (B:Int),.slice fa sl.length fc] 42):=⟨_,rfl⟩
 have t4:Tc [] w3 W4:=by rw [hW4]; exact (Tc.refl [] w3).alloc _
 have r4:W4.heap[w3.heap.size]? = some (.cells #[.int .i64 (B:Int),.slice fa sl.length fc] 42 (0,0)):=by rw [hW4]; exact heap_alloc_new w3 _
 rw [← hW4]
 clear hW4
 obtain ⟨sb,hsb⟩:∃ sb,sb = w3.heap.size:=⟨_,rfl⟩
 rw [← hsb] at r4 ⊢
 have HT4:=hid (HT3.out.trans t4 (by simp))
 have HS4:=hid (fun W (tt:Tc [] W4 W)=>And.intro (fun i=>cRw ((tt.block _ (ltB r4) (by simp)).trans r4) i) ((HS3.out.touch t4).touch tt))
 clear t4 r4 hsb HS3 HT3 HST HA
 have HT4s:=hid trivial
 clear HT4s
 obtain ⟨c4,hs4⟩:=HS4.out W4 (Tc.refl _ _)
 have HS7:=hid hs4
 clear hs4
 have HEV:=hid (fun W (tt:Tc [] W4 W)=>HC.out.touch ((H1.out.1.trans HT4.out (by simp)).trans tt (by simp)))
 go_upto_region 6 with (first
  |(go_at_call 14; have HO:=openB (tc:=0) (tl:=[]) (HEV.out w8 HT8.out).env HS8.out (trsAt_nil w8) (by simp) 1 (by omega); simp only [List.length_nil] at HO; refine HO.mono ?_; rintro e w9 ⟨b,kb,lb,F,A,rfl,hlo9,hE9,hl9,hbed,hfr⟩; have HBD:=hid hbed; have HFR:=hid hfr; have HBL:=hid (And.intro hlo9 hl9); clear hbed hfr hlo9 hE9 hl9)
  |(go_at_call 25; refine (copyC HS7.out).mono ?_; rintro e w8 ⟨ga,gc,D8,l8,rfl,hst8,hp8,ht8⟩; have HS8:=hid hst8; have HP8:=hid hp8; have HT8:=hid ht8; clear hst8 hp8 ht8))
 clear c4
 obtain ⟨W9,hW9⟩:∃ W9,W9 = w9.alloc (.cells #[ptr b.p,ptr b.q,ptr kb] 36):=⟨_,rfl⟩
 have t9:Tc [] w9 W9:=by rw [hW9]; exact (Tc.refl [] w9).alloc _
 have r9:W9.heap[w9.heap.size]? = some (.cells #[ptr b.p,ptr b.q,ptr kb] 36 (0,0)):=by rw [hW9]; exact heap_alloc_new w9 _
 rw [← hW9]
 clear hW9
 obtain ⟨rb,hrb⟩:∃ rb,rb = w9.heap.size:=⟨_,rfl⟩
 rw [← hrb] at r9 ⊢
 have HT9:=hid ((HT8.out.trans HBD.out.touch (by simp)).trans t9 (by simp))
 have HR9:=hid r9
 have HFlt:=hid (show (∀ y ∈ F,y < rb) by rw [hrb]; exact HBD.out.S.lt)
 have ht9:=hid t9
 clear t9 r9 hrb
 obtain ⟨c57,c26⟩:=HBX.out W9 (HT4.out.trans HT9.out (by simp))
 clear c57
 go_upto_region 9 with (go_at_call 10; refine (HCP.out W9 ((H1.out.1.trans HT4.out (by simp)).trans HT9.out (by simp))).mono ?_; rintro e w10 ⟨s2,s3,c2,c3,rfl,htb,hs2,hs3,ht10⟩; have HTB:=hid (And.intro htb (And.intro hs2 hs3)); have HT10:=hid ht10; clear htb hs2 hs3 ht10)
 clear c26
 obtain ⟨W0,hW0⟩:∃ W0,W0 = w10.alloc (.cells #[.int .i64 t.vars,.slice s2 t.order.length c2,.slice s3 t.rows.length c3,.int .i64 t.next,.int .u64 (t.nf:Int)] 26):=⟨_,rfl⟩
 have t0:Tc [] w10 W0:=by rw [hW0]; exact (Tc.refl [] w10).alloc _
 have r0:W0.heap[w10.heap.size]? = some (.cells #[.int .i64 t.vars,.slice s2 t.order.length c2,.slice s3 t.rows.length c3,.int .i64 t.next,.int .u64 (t.nf:Int)] 26 (0,0)):=by rw [hW0]; exact heap_alloc_new w10 _
 skip
 rw [← hW0]
 clear hW0
 obtain ⟨qb,hqb⟩:∃ qb,qb = w10.heap.size:=⟨_,rfl⟩
 rw [← hqb] at r0 ⊢
 obtain ⟨htb,hs2,hs3⟩:=HTB.out
 have hbd:=HBD.out
 obtain ⟨K,hKd⟩:∃ K,K = B / 32 - 1:=⟨_,rfl⟩
 rw [← hKd] at hbd HFR
 have hK2:=hbd.hK
 have t90:Tc [] W9 W0:=HT10.out.trans t0 (by simp)
 have hrF:rb ∉ F:=fun h=>by have:=HFlt.out _ h; omega
 have hrl9:=ltB HR9.out
 have hqr:rb < qb:=by have h1:=HT10.out.size; omega
 have hqF:qb ∉ F:=fun h=>by have:=HFlt.out _ h; omega
 have h9q:W9.heap.size ≤ qb:=by have h1:=HT10.out.size; omega
 have hsF2:∀ a,s2 = some a → a.block ∉ F:=fun a ha h=>by have h1:=HFlt.out _ h; have h2:=hs2 a ha; omega
 have hsF3:∀ a,s3 = some a → a.block ∉ F:=fun a ha h=>by have h1:=HFlt.out _ h; have h2:=hs3 a ha; omega
 have htb0:=htb.touch t0 (by simp) (by simp)
 have hbl0:=tbl_below htb0
 have HK:Hid (∀ W,Tc F W0 W → DkA W kb b (K:Int) 1 ∧ W.heap[rb]? = some (.cells #[ptr b.p,ptr b.q,ptr kb] 36 (0,0)) ∧ W.heap[qb]? = some (.cells #[.int .i64 t.vars,.slice s2 t.order.length c2,.slice s3 t.rows.length c3,.int .i64 t.next,.int .u64 (t.nf:Int)] 26 (0,0)) ∧ TblAt W t s2 s3 ∧ Tc [] W4 W):=hid (fun W tt =>
  ⟨(hbd.dk.touch (ht9.out.trans t90 (by simp)) (by simp)).touch tt hbd.kF,(tt.block _ (Nat.lt_of_lt_of_le hrl9 t90.size) hrF).trans ((t90.block _ hrl9 (by simp)).trans HR9.out),(tt.block _ (ltB r0) hqF).trans r0,htb0.touch2 tt (fun a ha _=>hsF2 a ha) (fun a ha _=>hsF3 a ha),(HT9.out.trans t90 (by simp)).trans tt (fun y hy=>.inr (Nat.le_trans HT8.out.size (hbd.new y hy)))⟩)
 have HI0:=hid (Here.start ((hbd.S.quiet ht9.out).quiet t90))
 have HKK:=hid (And.intro hbd.kF (show kb < W0.heap.size from Nat.lt_of_lt_of_le (ltB hbd.dk) (ht9.out.trans t90 (by simp)).size))
 have HA:=hid (And.intro hbd.on (And.intro (show A.files = sl.map SFl.pub from hbd.files.trans HP8.out) hbd.blk))
 have HSO:=hid (show (∀ a,s2 = some a → t.order ≠ [] → a.block ∉ F ∧ a.block < W0.heap.size) ∧ (∀ a,s3 = some a → t.rows ≠ [] → a.block ∉ F ∧ a.block < W0.heap.size) from ⟨fun a ha e=>⟨hsF2 a ha,hbl0.1 a ha e⟩,fun a ha e=>⟨hsF3 a ha,hbl0.2 a ha e⟩⟩)
 obtain ⟨s0,hs0⟩:∃ s0,s0 = Pu.St.new ((64 * K + 1:Nat):Int) lb:=⟨_,rfl⟩
 rw [← hs0] at HI0
 have HSF:=hid (show s0.free = ((64 * K + 1:Nat):Int) ∧ s0.closed = false ∧ s0.hand = 0 ∧ s0.lent = 0 by rw [hs0]; exact ⟨new_free.1,rfl,rfl,rfl⟩)
 have hlk:lo ≤ kb:=by have h1:=(HEV.out w8 HT8.out).env.room; have h2:=hbd.kn; omega
 have HLO:=hid hlk
 have HMT:=hid (fun W F' (I:Here W0 W b 2097153000 A s0 F F')=>commit_no (so:=s2) (sr:=s3) (co:=c2) (cr:=c3) (t:=t) (gen:=gen) (c:=mayE (sl.map SFl.pub) t gen m) I.S (by omega) (HK.out W I.t).1 (I.old HKK.out.1 HKK.out.2) (by omega) (HEV.out W (HK.out W I.t).2.2.2.2).tabs (HK.out W I.t).2.2.2.1 hg (by rw [← HA.out.2.1]; exact commit_may HA.out.1 (by rw [HSF.out.1]; omega) HMF.out HTR.out))
 have HKD:=hid hKd
 clear hbd htb hs2 hs3 hqb hKd t90 hrF hrl9 hqF hsF2 hsF3 htb0 hbl0 hs0 hlk r0 t0 HTB HCP
 obtain ⟨mE,hmE⟩:∃ mE,mE = mayE (sl.map SFl.pub) t gen m:=⟨_,rfl⟩
 rw [← hmE] at HMT
 have HME:=hid hmE
 clear hmE
 have HZ:=hid (fun W (tt:Tc F W0 W)=>And.intro (fun i=>cRw (HK.out W tt).2.1 i) (And.intro (fun i=>cRw (HK.out W tt).2.2.1 i) (And.intro (HS4.out W (HK.out W tt).2.2.2.2).1 (HBX.out W (HT4.out.trans (HK.out W tt).2.2.2.2 (by simp))).2)))
 have HMY:=hid (fun W (tt:Tc F W0 W)=>(by
  have h:=rmay_any (so:=so) (sr:=sr) (co:=co) (cr:=cr) (m:=m) (b:=(B:Int)) (HS4.out W (HK.out W tt).2.2.2.2).2.st (by have:=(HS4.out W (HK.out W tt).2.2.2.2).2.blks.1; omega) (fun e he=>by have:=(HS4.out W (HK.out W tt).2.2.2.2).2.names e he; omega) (HTT.out _ ((H1.out.1.trans HT4.out (by simp)).trans (HK.out W tt).2.2.2.2 (by simp))) hg HMF.out
  rw [← HME.out] at h
  exact h:Calls Tryz.prog 26 #[.agg #[.int .i64 (B:Int),.slice fa sl.length fc],tblV t so sr co cr,.int .u64 (gen:Int)] W fun e w'=>e = .returned (.int .i64 mE) ∧ Tc [] W w'))
 have HSM:=hid (fun W (tt:Tc F W0 W)=>sameRows_true (co:=c2) (cr:=c3) (co2:=co) (cr2:=cr) (HK.out W tt).2.2.2.1 (HTT.out _ ((H1.out.1.trans HT4.out (by simp)).trans (HK.out W tt).2.2.2.2 (by simp))))
 unfold tblV at HMT HMY HSM
 obtain ⟨d0,q0,x0,y0⟩:=HZ.out W0 (Tc.refl _ _)
 have HUS:=hid (fun W F' (I:Here W0 W b 2097153000 A s0 F F')=>(by have h:=used_s I.S; rw [HSF.out.2.2.1,HSF.out.2.2.2] at h; exact h:Calls Tryz.prog 23 #[ptr b.q] W fun e w'=>e = .returned (.int .i64 (0 + 0)) ∧ Went W w' b 2097153000 A s0 F' []))
 by_cases hm0:mE = 0
 ·subst hm0
  have HMAY:=hid (mayE_ok hg HMF.out HME.out.symm)
  have hform:=HMAY.out.form
  have hfr:=HFR.out
  rw [show l8.map SFl.pub = sl.map SFl.pub from HP8.out] at hfr
  obtain ⟨A2,hA1,hA2,hA3,hA4,hA5,hA6,hA7,hA8⟩:=commit_left hfr HBL.out.2 HMAY.out HNM.out
  have C:=hfr.lay HBL.out.2 HMAY.out HNM.out
  have hblo:b.lo ≤ kb:=by rw [HBL.out.1]; exact HLO.out
  have h17:17 ≤ b.lo:=by rw [HBL.out.1]; exact HC.out.low
  have hov:overA A gen = false:=by rw [overL_A HA.out.1,HA.out.2.1]; exact HMAY.out.over
  have hrd:readyE A (sortU (filesN t.rows)) [] = 0:=by
   rw [sortU_files HMF.out.1 HMF.out.2 HTR.out,filesE_ready HA.out.1,HA.out.2.1]
   exact filesE_all (fun u hu=>by
    obtain ⟨x,hx,rfl⟩:=List.mem_map.1 ((HMF.out.2 u).1 hu)
    exact HMAY.out.files x hx)
  have hrl:(recsN t (gen + 1)).length ≤ 70000:=by
   have hf:=formed_is hform
   rw [recsN_len]
   have:=hf.vars.2
   have:=hf.rows
   omega
  have hco:=commit_ok (co:=c2) (cr:=c3) HI0.out.S C (by omega) (HK.out W0 (Tc.refl _ _)).1 HKK.out.1 (HEV.out W0 (HK.out W0 (Tc.refl _ _)).2.2.2.2).tabs h17 (HK.out W0 (Tc.refl _ _)).2.2.2.1 HSO.out.1 HSO.out.2 (by rw [HSF.out.1]; omega) (by have:=HMAY.out.lt; omega) hform hov hrd
  rw [hA1] at hco
  obtain ⟨s1,hs1⟩:∃ s1,s1 = (s0.take (K:Int)).give (K:Int):=⟨_,rfl⟩
  rw [← hs1] at hco
  have HCO:=hid (hco.mono fun e w' ⟨e1,g⟩=>(⟨e1,g.mono_n (m:=2097300000) (by omega)⟩:e = Ending.returned (.int .i64 0) ∧ Went W0 w' b 2097300000 A2 s1 F []))
  have hsp:SameP s0 s1:=by rw [hs1]; exact sameP_free (by rw [HSF.out.2.2.1]; omega) HSF.out.2.1 (by omega) (by rw [HSF.out.1]; omega)
  have HSP:=hid (show s1.hand = 0 ∧ s1.lent = 0 ∧ 64 * (K:Int) ≤ s1.free by rw [hsp.hand,hsp.lent,hsp.free,HSF.out.2.2.1,HSF.out.2.2.2,HSF.out.1]; exact ⟨rfl,rfl,by omega⟩)
  have HUS1:=hid (fun W F' (I:Here W0 W b 2097300000 A2 s1 F F')=>(by have h:=used_s I.S; rw [HSP.out.1,HSP.out.2.1] at h; exact h:Calls Tryz.prog 23 #[ptr b.q] W fun e w'=>e = .returned (.int .i64 (0 + 0)) ∧ Went W w' b 2097300000 A2 s1 F' []))
  have HSTT:=hid (fun W F' (I:Here W0 W b 2097300000 A2 s1 F F')=>(by have h:=state_s I.S (by omega); rw [hA3] at h; exact h:Calls Tryz.prog 32 #[ptr b.p] W fun e w'=>∃ fv l,e = .returned (.agg #[.int .i64 (B:Int),fv]) ∧ StIn w' fv l ∧ l.map SFl.pub = A2.files ∧ Tc [] W w'))
  have HRDC:=hid (fun W F' (I:Here W0 W b 2097300000 A2 s1 F F')=>(readC_ok I.S hA5 (by omega) (HK.out W I.t).1 (I.old HKK.out.1 HKK.out.2) hblo h17 (HEV.out W (HK.out W I.t).2.2.2.2).tabs hform HNM.out HSP.out.2.2 HMAY.out.lt (by omega) hA6 hA7).mono fun e w' ⟨v,e1,⟨zo,zr,zco,zcr,e2,hz,_⟩,g⟩=>(⟨zo,zr,zco,zcr,by rw [e1,e2]; rfl,hz,g⟩:∃ zo zr zco zcr,e = Ending.returned (.tuple #[.agg #[.int .i64 t.vars,.slice zo t.order.length zco,.slice zr t.rows.length zcr,.int .i64 t.next,.int .u64 (t.nf:Int)],.int .u64 ((gen + 1:Nat):Int),.int .i64 0]) ∧ TblAt w' t zo zr ∧ Went W w' b _ _ _ F' []))
  have HCD:=hid (fun W (tt:Tc F W0 W)=>rcommitted_any (so:=so) (sr:=sr) (co:=co) (cr:=cr) (t:=t) (gen:=gen) (K:=K) (HS4.out W (HK.out W tt).2.2.2.2).2.st.in_ (by have:=(HS4.out W (HK.out W tt).2.2.2.2).2.blks.1; omega) (HTT.out _ ((H1.out.1.trans HT4.out (by simp)).trans (HK.out W tt).2.2.2.2 (by simp))) HMAY.out.lt ⟨(HS4.out W (HK.out W tt).2.2.2.2).2.blk.1,(HS4.out W (HK.out W tt).2.2.2.2).2.blk.2.1,(HS4.out W (HK.out W tt).2.2.2.2).2.blk.2.2.1⟩ HKD.out)
  have HPE:=hid (fun (nf:SFl) (h:nf.pub = (catN (gen + 1),(⟨true,bkO 5 K B (recsN t (gen + 1)) (nBk K (recsN t (gen + 1)).length)⟩:FlA)))=>(show (insF nf (keptF t 0 sl)).map SFl.pub = A2.files by rw [insF_pub,keptF_pub,h,hA4]))
  have HSZ:=hid (show A2.files.length ≤ 1001 ∧ ∀ e ∈ A2.files,e.2.blocks.length ≤ 1099511627776 by
   have hgp:=hfr.good
   rw [hA4]
   refine ⟨?_,fun e he=>?_⟩
   ·rw [(perm_ins _ _).length_eq,List.length_cons]
    have h1:=hgp.few
    have h2:=List.length_filter_le (fun e=>keepsB t 0 e.1) (sl.map SFl.pub)
    omega
   ·rcases mem_ins.1 he with rfl | he
    ·have h1:=blsT_few (B:=B) (g:=gen + 1) hK2.1 (formed_is hform)
     exact Nat.le_trans h1 (by decide)
    ·exact Nat.le_trans (hgp.size _ (List.mem_filter.1 he).1).1 (by decide))
  have hwg:IntKind.u64.wrap ((gen:Int) + 1) = ((gen + 1:Nat):Int):=by rw [IntKind.wrap_u64]; have:=HMAY.out.lt; omega
  clear hform hfr hA1 hA2 hA3 hA4 hA5 hA6 hA7 hA8 C hblo h17 hov hrd hrl hco hs1 hsp
  unfold tblV at HCD
  go_upto_region 11 with (first
   |(go_at_call 26; refine (HMY.out _ HI11.out.t).mono ?_; rintro e w12 ⟨rfl,ht12⟩; have HI12:=hid (HI11.out.quiet ht12); obtain ⟨d2,q2,x2,y2⟩:=HZ.out w12 HI12.out.t; clear ht12)
   |(go_at_call 19; refine HCO.out.mono ?_; rintro e w11 ⟨rfl,hw11⟩; obtain ⟨F11,I11,_,_⟩:=HI0.out.went hw11; have HI11:=hid (show Here W0 w11 b 2097300000 A2 s1 F F11 from ⟨I11.S,I11.t,I11.f⟩); obtain ⟨d1,q1,x1,y1⟩:=HZ.out w11 HI11.out.t; clear hw11 I11))
  clear d0 q0 x0 y0 d1 q1 x1 y1
  go_upto_region 15 with (first
   |(go_at_call 23; refine (HUS1.out _ _ HI13.out).mono ?_; rintro e w14 ⟨rfl,hw14⟩; obtain ⟨F14,I14,_,_⟩:=HI13.out.went hw14; have HI14:=hid I14; obtain ⟨d4,q4,x4,y4⟩:=HZ.out w14 HI14.out.t; clear hw14 I14)
   |(go_at_call 13; refine (HSM.out _ HI12.out.t).mono ?_; rintro e w13 ⟨rfl,ht13⟩; have HI13:=hid (HI12.out.quiet ht13); obtain ⟨d3,q3,x3,y3⟩:=HZ.out w13 HI13.out.t; clear ht13))
  clear d2 q2 x2 y2 d3 q3 x3 y3
  go_upto_region 16 with (go_at_call 33; refine (HCD.out _ HI14.out.t).mono ?_; rintro e w15 ⟨sv,nf,rfl,hst15,hnf,ht15⟩; have HI15:=hid (HI14.out.quiet ht15); have HL15:=hid (And.intro hst15 (HPE.out nf hnf)); obtain ⟨la,lc,hsv⟩:=id hst15.sl; subst hsv; clear hst15 hnf ht15)
  clear d4 q4 x4 y4
  obtain ⟨W16,hW16⟩:∃ W16,W16 = w15.alloc (.cells #[.int .i64 (B:Int),.slice la (insF nf (keptF t 0 sl)).length lc] 42):=⟨_,rfl⟩
  have t16:Tc [] w15 W16:=by rw [hW16]; exact (Tc.refl [] w15).alloc _
  have r16:W16.heap[w15.heap.size]? = some (.cells #[.int .i64 (B:Int),.slice la (insF nf (keptF t 0 sl)).length lc] 42 (0,0)):=by rw [hW16]; exact heap_alloc_new w15 _
  rw [← hW16]
  clear hW16
  obtain ⟨cb,hcb⟩:∃ cb,cb = w15.heap.size:=⟨_,rfl⟩
  rw [← hcb] at r16 ⊢
  have HI16:=hid (HI15.out.quiet t16)
  have HR16:=hid r16
  have HL16:=hid (And.intro (HL15.out.1.below (t16.below (Nat.le_refl _) (by simp))) HL15.out.2)
  clear t16 r16 hcb
  obtain ⟨ll,hll⟩:∃ ll,ll = insF nf (keptF t 0 sl):=⟨_,rfl⟩
  rw [← hll] at HR16 HL16
  clear hll HL15
  have HSAM:=hid (fun W (tt:Tc [] W16 W) fv' l' (hst:StIn W fv' l') (hp:l'.map SFl.pub = A2.files)=>SameState_in (x:=(B:Int)) hst (HL16.out.1.below (tt.below (Nat.le_refl _) (by simp))) (by rw [hp,HL16.out.2]) (by have h1:=congrArg List.length hp; rw [List.length_map] at h1; have:=HSZ.out.1; omega) (fun e he=>HSZ.out.2 e.pub (by rw [← hp]; exact List.mem_map.2 ⟨e,he,rfl⟩)))
  have HZ6:=hid (fun W (tt:Tc [] W16 W)=>(⟨cRw (HK.out W (HI16.out.quiet tt).t).2.1 0,cRw ((tt.block _ (ltB HR16.out) (by simp)).trans HR16.out) 0,cRw ((tt.block _ (ltB HR16.out) (by simp)).trans HR16.out) 1⟩:W.cell? ⟨rb,0,none⟩ = some (ptr b.p) ∧ W.cell? ⟨cb,0,none⟩ = some (.int .i64 (B:Int)) ∧ W.cell? ⟨cb,1,none⟩ = some (.slice la ll.length lc)))
  obtain ⟨g1,hg1⟩:∃ g1,g1 = gen + 1:=⟨_,rfl⟩
  rw [← hg1] at HRDC hwg
  clear hg1
  obtain ⟨z0,z1,z2⟩:=HZ6.out W16 (Tc.refl _ _)
  go_region_held3 (fun W=>W.cell? ⟨rb,0,none⟩ = some (ptr b.p) ∧ W.cell? ⟨cb,0,none⟩ = some (.int .i64 (B:Int)) ∧ W.cell? ⟨cb,1,none⟩ = some (.slice la ll.length lc)) (go_keep)
   (first
    |(go_at_call 31; refine (HSAM.out _ HT17.out _ _ HX17.out.1 HX17.out.2).mono ?_; rintro e w18 ⟨rfl,hb18⟩; have ht18:Tc [] w17 w18:=Tc.of_below (F:=[]) hb18 (Nat.le_refl _); have HI18:=hid (HI17.out.quiet ht18); have zz:=HZ6.out w18 (HT17.out.trans ht18 (by simp)); clear hb18 ht18)
    |(go_at_call 32; refine (HSTT.out _ _ (HI16.out.quiet (Tc.refl [] _).drew)).mono ?_; rintro e w17 ⟨fv',l',rfl,hst,hp,ht17⟩; have HT17:=hid ((Tc.refl [] _).drew.trans ht17 (by simp):Tc [] W16 w17); have HI17:=hid (HI16.out.quiet HT17.out); have HX17:=hid (And.intro hst hp); have zz:=HZ6.out w17 HT17.out; clear hst hp ht17))
  clear z0 z1 z2 zz
  obtain ⟨d0,q0,x0,y0⟩:=HZ.out w18 HI18.out.t
  go_upto_region 18 with fail
  go_upto_region 19 with (go_at_call 20; refine (HRDC.out _ _ HI18.out).mono ?_; rintro e w19 ⟨zo,zr,zco,zcr,rfl,htz,hw19⟩; obtain ⟨F19,I19,_,_⟩:=HI18.out.went hw19; have HI19:=hid I19; have HTZ:=hid htz; obtain ⟨d9,q9,x9,y9⟩:=HZ.out w19 HI19.out.t; clear hw19 I19 htz)
  clear d0 q0 x0 y0 d9 q9 x9 y9
  obtain ⟨W20,hW20⟩:∃ W20,W20 = w19.alloc (.cells #[.int .i64 t.vars,.slice zo t.order.length zco,.slice zr t.rows.length zcr,.int .i64 t.next,.int .u64 (t.nf:Int)] 26):=⟨_,rfl⟩
  have t20:Tc [] w19 W20:=by rw [hW20]; exact (Tc.refl [] w19).alloc _
  have r20:W20.heap[w19.heap.size]? = some (.cells #[.int .i64 t.vars,.slice zo t.order.length zco,.slice zr t.rows.length zcr,.int .i64 t.next,.int .u64 (t.nf:Int)] 26 (0,0)):=by rw [hW20]; exact heap_alloc_new w19 _
  rw [← hW20]
  clear hW20
  obtain ⟨eb,heb⟩:∃ eb,eb = w19.heap.size:=⟨_,rfl⟩
  rw [← heb] at r20 ⊢
  have HI20:=hid (HI19.out.quiet t20)
  have HSZ0:=hid (sameRows_true (co:=zco) (cr:=zcr) (co2:=co) (cr2:=cr) (HTZ.out.touch t20 (by simp) (by simp)) (HTT.out _ ((H1.out.1.trans HT4.out (by simp)).trans (HK.out _ HI20.out.t).2.2.2.2 (by simp))))
  unfold tblV at HSZ0
  have z20:=fun i=>cRw r20 i
  obtain ⟨d3,q3,x3,y3⟩:=HZ.out W20 HI20.out.t
  clear r20 heb t20
  go_upto_region 20 with (go_at_call 13; refine HSZ0.out.mono ?_; rintro e w21 ⟨rfl,ht21⟩; have HI21:=hid (HI20.out.quiet ht21); clear ht21)
  go_ret
  exact ⟨rfl,(H1.out.1.trans HT4.out (by simp)).trans (HK.out _ HI21.out.t).2.2.2.2 (by simp)⟩
 ·have HCM:=hid (fun W F' (I:Here W0 W b 2097153000 A s0 F F')=>HMT.out W F' I hm0)
  have hne:(mE == 0) = false:=by simpa using hm0
  have hbq:(mE == mE) = true:=by simp
  go_upto_region 11 with (first
   |(go_at_call 26; refine (HMY.out _ HI11.out.t).mono ?_; rintro e w12 ⟨rfl,ht12⟩; have HI12:=hid (HI11.out.quiet ht12); obtain ⟨d2,q2,x2,y2⟩:=HZ.out w12 HI12.out.t; clear ht12)
   |(go_at_call 19; refine (HCM.out _ _ HI0.out).mono ?_; rintro e w11 ⟨rfl,hw11⟩; obtain ⟨F11,I11,_,_⟩:=HI0.out.went hw11; have HI11:=hid I11; obtain ⟨d1,q1,x1,y1⟩:=HZ.out w11 HI11.out.t; clear hw11 I11))
  clear d0 q0 x0 y0 d1 q1 x1 y1
  have HSTT:=hid (fun W F' (I:Here W0 W b 2097153000 A s0 F F')=>(by have h:=state_s I.S (by omega); rw [HA.out.2.2] at h; exact h:Calls Tryz.prog 32 #[ptr b.p] W fun e w'=>∃ fv l,e = .returned (.agg #[.int .i64 (B:Int),fv]) ∧ StIn w' fv l ∧ l.map SFl.pub = A.files ∧ Tc [] W w'))
  have HSAM:=hid (fun W (tt:Tc [] W4 W) fv' l' (hst:StIn W fv' l') (hp:l'.map SFl.pub = A.files)=>SameState_in (x:=(B:Int)) hst (HS4.out W tt).2.st.in_ (by rw [hp,HA.out.2.1]) (by have h1:=congrArg List.length hp; rw [HA.out.2.1,List.length_map,List.length_map] at h1; have:=(HS4.out W tt).2.blks.1; omega) (fun e he=>by have h1:e.pub ∈ sl.map SFl.pub:=(by rw [← HA.out.2.1,← hp]; exact List.mem_map.2 ⟨e,he,rfl⟩); have h2:=((HS4.out W tt).2.good.size _ h1).1; exact Nat.le_trans h2 (by decide)))
  have HZ4:=hid (fun W (tt:Tc F W0 W)=>(⟨cRw (HK.out W tt).2.1 0,(HS4.out W (HK.out W tt).2.2.2.2).1 0,(HS4.out W (HK.out W tt).2.2.2.2).1 1⟩:W.cell? ⟨rb,0,none⟩ = some (ptr b.p) ∧ W.cell? ⟨sb,0,none⟩ = some (.int .i64 (B:Int)) ∧ W.cell? ⟨sb,1,none⟩ = some (.slice fa sl.length fc)))
  go_upto_region 14 with (first
   |(go_at_call 23; refine (HUS.out _ _ HI13.out).mono ?_; rintro e w14 ⟨rfl,hw14⟩; obtain ⟨F14,I14,_,_⟩:=HI13.out.went hw14; have HI14:=hid I14; clear hw14 I14)
   |(go_at_call 13; refine (HSM.out _ HI12.out.t).mono ?_; rintro e w13 ⟨rfl,ht13⟩; have HI13:=hid (HI12.out.quiet ht13); obtain ⟨d3,q3,x3,y3⟩:=HZ.out w13 HI13.out.t; clear ht13))
  clear d2 q2 x2 y2 d3 q3 x3 y3
  obtain ⟨z0,z1,z2⟩:=HZ4.out w14 HI14.out.t
  go_region_held3 (fun W=>W.cell? ⟨rb,0,none⟩ = some (ptr b.p) ∧ W.cell? ⟨sb,0,none⟩ = some (.int .i64 (B:Int)) ∧ W.cell? ⟨sb,1,none⟩ = some (.slice fa sl.length fc)) (go_keep)
   (first
    |(go_at_call 31; refine (HSAM.out _ HT16.out _ _ HX16.out.1 HX16.out.2).mono ?_; rintro e w17 ⟨rfl,hb17⟩; have ht17:Tc [] w16 w17:=Tc.of_below (F:=[]) hb17 (Nat.le_refl _); have HI17:=hid (HI16.out.quiet ht17); have zz:=HZ4.out w17 HI17.out.t; clear hb17 ht17)
    |(go_at_call 32; refine (HSTT.out _ _ (HI14.out.quiet (Tc.refl [] _).drew)).mono ?_; rintro e w16 ⟨fv',l',rfl,hst,hp,ht16⟩; have HI16:=hid ((HI14.out.quiet (Tc.refl [] _).drew).quiet ht16); have HX16:=hid (And.intro hst hp); have HT16:=hid (HK.out _ HI16.out.t).2.2.2.2; have zz:=HZ4.out w16 HI16.out.t; clear hst hp ht16))
  go_wp2_with fail
  go_ret
  exact ⟨rfl,(H1.out.1.trans HT4.out (by simp)).trans (HK.out _ HI17.out.t).2.2.2.2 (by simp)⟩
end
end Go.Proofs.YthehcjjckabljaaGreatDoor
