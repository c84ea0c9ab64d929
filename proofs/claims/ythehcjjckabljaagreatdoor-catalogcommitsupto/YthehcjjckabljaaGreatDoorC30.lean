import Derived.Test.YthehcjjckabljaaGreatDoorC29
namespace Go.Proofs.YthehcjjckabljaaGreatDoor
open Go.RowKit Go.Deep
set_option maxRecDepth 100000
set_option linter.unusedSimpArgs false
set_option linter.unusedVariables false
theorem ByD.of_own1 {w:World} {base:Nat} {sv:Value} {d:List UInt8} (h:Rx.OwnB w base sv (numsU d)) (hd:d ≠ []):∃ g,ByD w [g] sv d ∧ RwD w [g] ∧ base ≤ g:=by
 have h':w.ownsRow base 5 1 sv d.length (Lib.byteCells d):=by
  have:=h
  unfold Rx.OwnB at this
  rwa [bcl_bytes,numsU_length] at this
 obtain ⟨sa,c,rfl,hs,hb⟩:=shows_own h'
 rcases h'.2 with ⟨e,h0⟩ | ⟨g,cap,cur,e,hg1,hg2,_⟩
 ·exact absurd (List.eq_nil_of_length_eq_zero h0) hd
 ·have e1:sa = some ⟨g,0,none⟩:=by injection e
  subst e1
  exact ⟨g,⟨_,_,_,rfl,hs,fun a ha _=>by cases ha; simp⟩,fun y hy=>by simp at hy; subst hy; exact ⟨_,_,_,hg2,.inr rfl⟩,hg1⟩
theorem StIn.of_own {w:World} {base:Nat} {v:Value} {l:List SFl} (h:w.ownsRow base 113 3 v l.length (l.flatMap SFl.cells)) (hb:∀ e ∈ l,BlIn w e.sv e.file.blocks):StIn w v l:=by
 obtain ⟨sa,sc,hv⟩:=oSC h
 refine ⟨⟨sa,sc,hv⟩,fun k e he=>?_⟩
 have hk:=(List.getElem?_eq_some_iff.1 he).1
 obtain ⟨g,c,hgv,hgl,_⟩:=own_block h (by omega)
 obtain ⟨c0,c1,c2⟩:=row_of h (g:=g) (by rw [hgv]; rfl) he
 refine ⟨⟨g,0,none⟩,c,hgv,hgl,?_,?_,?_,hb e (List.mem_of_getElem? he)⟩ <;> rw [zero_add_nat] <;> assumption
section
variable {w:World} {fv:Value} {l:List SFl} {t:Tbl} {so sr:Option Addr} {co cr gen B K:Nat}
set_option maxHeartbeats 16000000 in
theorem rcommitted_any (h:StIn w fv l) (hl:l.length ≤ 1048575) (ht:TblAt w t so sr) (hg:gen + 1 < 18446744073709551616) (hB:64 ≤ B ∧ B ≤ 65536 ∧ B % 32 = 0) (hK:K = B / 32 - 1) :
  Calls Tryz.prog 33 #[.agg #[.int .i64 (B:Int),fv],tblV t so sr co cr,.int .u64 (gen:Int)] w fun e w'=>∃ (sv:Value) (nf:SFl),e = .returned (.agg #[.int .i64 (B:Int),sv]) ∧ StIn w' sv (insF nf (keptF t 0 l)) ∧ nf.pub = (catN (gen + 1),⟨true,bkO 5 K B (recsN t (gen + 1)) (nBk K (recsN t (gen + 1)).length)⟩) ∧ Tc [] w w':=by
 obtain ⟨fa,fc,rfl⟩:=h.sl
 have hK2:1 ≤ K ∧ K ≤ 2047:=by omega
 have HH:=hid (fun W (tt:Tc [] w W)=>h.below (tt.below (Nat.le_refl _) (by simp)))
 have HRC:=hid (fun W (tt:Tc [] w W)=>rrecs_any (co:=co) (cr:=cr) (ht.touch tt (by simp) (by simp)) hg)
 have HKP:=hid (fun W (tt:Tc [] w W)=>rkept_any (b:=(B:Int)) (g:=0) (co:=co) (cr:=cr) (h.below (tt.below (Nat.le_refl _) (by simp))) (by omega) (ht.touch tt (by simp) (by simp)) (by decide))
 have HC:=hid (fun W=>rcatS hg W)
 have HF:=hid (fun W=>rfit_any hB.1 hB.2.1 hB.2.2 W)
 rw [← hK] at HF
 have HBB:=hid hB
 have HKE:=hid hK
 have hwg:IntKind.u64.wrap ((gen:Int) + 1) = ((gen + 1:Nat):Int):=by rw [IntKind.wrap_u64]; omega
 obtain ⟨rl,hrl⟩:∃ rl,rl = recsN t (gen + 1):=⟨_,rfl⟩
 have hne:0 < rl.length ∧ rl.length ≤ 2097153:=by rw [hrl,recsN_len]; have:=ht.ol; have:=ht.rl; omega
 have HSM:=hid (show smallR rl by rw [hrl]; exact recs_small ht.num hg ht.ol)
 rw [← hrl] at HRC ⊢
 have HRL:=hid hrl
 obtain ⟨cn,hcn⟩:∃ cn,cn = catN (gen + 1):=⟨_,rfl⟩
 rw [← hcn] at HC ⊢
 obtain ⟨W1,hW1⟩:∃ W1,W1 = (((w.alloc (.cells #[.int .i64 (B:Int),.slice fa l.length fc] 42)).alloc (.cells #[.int .i64 t.vars,.slice so t.order.length co,.slice sr t.rows.length cr,.int .i64 t.next,.int .u64 (t.nf:Int)] 26)).alloc (.cells #[.int .i64 0,.slice none 0 0] 42)):=⟨_,rfl⟩
 have HW1:=hid hW1
 have H1:Hid (Tc [] w W1 ∧ W1.heap[w.heap.size]? = some (.cells #[.int .i64 (B:Int),.slice fa l.length fc] 42 (0,0)) ∧ W1.heap[w.heap.size + 1]? = some (.cells #[.int .i64 t.vars,.slice so t.order.length co,.slice sr t.rows.length cr,.int .i64 t.next,.int .u64 (t.nf:Int)] 26 (0,0)) ∧ W1.heap[w.heap.size + 2]? = some (.cells #[.int .i64 0,.slice none 0 0] 42 (0,0)) ∧ W1.heap.size = w.heap.size + 3):=hid (by
  obtain ⟨A2,hA2⟩:∃ A2,A2 = (w.alloc (.cells #[.int .i64 (B:Int),.slice fa l.length fc] 42)).alloc (.cells #[.int .i64 t.vars,.slice so t.order.length co,.slice sr t.rows.length cr,.int .i64 t.next,.int .u64 (t.nf:Int)] 26):=⟨_,rfl⟩
  have x:=heap_two w (.cells #[.int .i64 (B:Int),.slice fa l.length fc] 42) (.cells #[.int .i64 t.vars,.slice so t.order.length co,.slice sr t.rows.length cr,.int .i64 t.next,.int .u64 (t.nf:Int)] 26)
  have z:A2.heap.size = w.heap.size + 2:=by rw [hA2]; simp
  have y:=heap_alloc_new A2 (.cells #[.int .i64 0,.slice none 0 0] 42)
  have t2:Tc [] A2 (A2.alloc (.cells #[.int .i64 0,.slice none 0 0] 42)):=(Tc.refl [] A2).alloc _
  have t0:Tc [] w A2:=by rw [hA2]; exact ((Tc.refl [] w).alloc _).alloc _
  rw [← hA2] at x
  rw [hW1,← hA2]
  rw [z] at y
  exact ⟨t0.trans t2 (by simp),(t2.block _ (by omega) (by simp)).trans x.1,(t2.block _ (by omega) (by simp)).trans x.2,y,by simp [z]⟩)
 clear hW1 h ht hB hK hrl hcn
 simp only [tblV] at *
 go_enter Tryz.func33,Tryz.ntmps33
 go_upto_region 1 with fail
 rw [← HW1.out]
 have HX:=hid (fun W (tt:Tc [] W1 W)=>And.intro (fun i=>cRw ((tt.block _ (ltB H1.out.2.1) (by simp)).trans H1.out.2.1) i) (fun i=>cRw ((tt.block _ (ltB H1.out.2.2.1) (by simp)).trans H1.out.2.2.1) i))
 rw [show w.heap.size + 1 + 1 = w.heap.size + 2 from rfl]
 have hsz1:=H1.out.2.2.2.2
 generalize hbx:w.heap.size = bx at *
 have HBN:=hid hbx
 clear hbx HW1
 obtain ⟨x0,x1⟩:=HX.out W1 (Tc.refl _ _)
 go_upto_region 2 with (go_at_call 68; refine (HRC.out W1 H1.out.1).mono ?_; rintro e w2 ⟨v2,rfl,ho2,ht2⟩; have HO2:=hid ho2; have HT2:=hid ht2; clear ho2 ht2)
 go_upto_region 3 with (go_at_call 69; refine (HC.out w2).mono ?_; rintro e w3 ⟨rfl,ht3⟩; have HT3:=hid (HT2.out.trans ht3 (by simp)); have HT23:=hid ht3; clear ht3)
 obtain ⟨W3,hW3⟩:∃ W3,W3 = w3.alloc (.cells #[.string (bs cn),.bool true,.slice none 0 0] 113):=⟨_,rfl⟩
 have t3:Tc [] w3 W3:=by rw [hW3]; exact (Tc.refl [] w3).alloc _
 have r3:W3.heap[w3.heap.size]? = some (.cells #[.string (bs cn),.bool true,.slice none 0 0] 113 (0,0)):=by rw [hW3]; exact heap_alloc_new w3 _
 rw [← hW3]
 clear hW3
 obtain ⟨fb,hfb⟩:∃ fb,fb = w3.heap.size:=⟨_,rfl⟩
 rw [← hfb] at r3 ⊢
 have hfx:bx + 3 ≤ fb:=by have:=HT3.out.size; omega
 have HT3w:=hid (HT3.out.trans t3 (by simp))
 have hlb:=ltB r3
 have HR3:=hid r3
 have HHX:=hid (fun W (tt:Tc [fb] W3 W)=>(⟨fun i=>cRw ((tt.block bx (by omega) (by simp; omega)).trans ((HT3w.out.block _ (ltB H1.out.2.1) (by simp)).trans H1.out.2.1)) i,fun i=>cRw ((tt.block (bx + 1) (by omega) (by simp; omega)).trans ((HT3w.out.block _ (ltB H1.out.2.2.1) (by simp)).trans H1.out.2.2.1)) i,(tt.block (bx + 2) (by omega) (by simp; omega)).trans ((HT3w.out.block _ (ltB H1.out.2.2.2.1) (by simp)).trans H1.out.2.2.2.1),(H1.out.1.trans HT3w.out (by simp)).trans tt (fun y hy=>by
  rw [List.mem_singleton] at hy
  exact .inr (by have:=HBN.out; omega))⟩:(∀ i,W.cell? ⟨bx,i,none⟩ = _) ∧ (∀ i,W.cell? ⟨bx + 1,i,none⟩ = _) ∧ W.heap[bx + 2]? = _ ∧ Tc [] w W))
 have h23:=HT23.out.size
 have HRW:=hid (fun W (tt:Tc [fb] W3 W)=>own_lower (oTG HO2.out ((HT23.out.trans t3 (by simp)).trans tt (fun y hy=>by
  rw [List.mem_singleton] at hy
  exact .inr (by omega))) (fun y _ hy=>by cases hy)) (Nat.zero_le _))
 obtain ⟨g,cap,hv2⟩:∃ g cap,v2 = .slice (some ⟨g,0,none⟩) rl.length cap:=by
  rcases HO2.out.2 with ⟨_,h0⟩ | ⟨g,cap,cur,e,_⟩
  ·omega
  ·exact ⟨g,cap,e⟩
 subst hv2
 have hcap:rl.length ≤ cap:=by
  rcases HO2.out.2 with ⟨e,_⟩ | ⟨g',cap',cur,e,_,_,h1,_⟩
  ·cases e
  ·injection e with e1 e2 e3
   subst e3
   exact h1
 have hKi:(0:Int) < (K:Int):=by omega
 clear x0 x1 t3 r3 HC HRC hsz1 hfb
 obtain ⟨y0,y1,_,_⟩:=HHX.out W3 (Tc.refl _ _)
 go_upto_region 4 with (go_at_call 38; refine (HF.out _).mono ?_; rintro e w4 ⟨rfl,hh⟩; have hh:=hh.symm; subst hh)
 clear y0 y1 HF
 go_wp2_with fail
 go_loopw [10] (fun i W=>∃ (j p:Nat) (ov:Value) (D:List Nat) (svs:List Value),p ≤ rl.length + K ∧ i = .int .i64 p ∧ Hid (p = j * K) ∧ Hid (j ≤ nBk K rl.length) ∧ Hid (CpI W3 W fb (.string (bs cn)) true ov D (bkO 5 K B rl j) svs)) (fun i _=>rl.length - (intOf i).toNat)
 case atStart=>exact ⟨0,0,_,[],[],Nat.zero_le _,rfl,hid (by simp),hid (Nat.zero_le _),hid (CpI.start HR3.out)⟩
 case round =>
  obtain ⟨j,p,ov,D,svs,hp,rfl,HP,HJ,HI⟩:=hrel
  obtain ⟨oa,oc,hov⟩:=oSC HI.out.blo.own
  rw [blocksOf_length] at hov
  subst hov
  obtain ⟨y0,y1,y2,htw⟩:=HHX.out wr HI.out.touch
  have HTW:=hid htw
  clear htw y2
  have yf:=cRw HI.out.row
  have uf:=uRw HI.out.row
  by_cases hlt:p < rl.length
  ·have hpi:(p:Int) < (rl.length:Int):=by omega
   have hp0:(0:Int) ≤ (p:Int):=by omega
   have hw1:IntKind.i64.wrap ((p:Int) + (K:Int)) = ((p + K:Nat):Int):=by rw [IntKind.wrap_i64]; omega
   have hjl:j ≤ 4194304:=by have:=HP.out; have:j * 1 ≤ j * K:=Nat.mul_le_mul_left _ hK2.1; omega
   obtain ⟨mn,hmn⟩:∃ mn:Nat,mn = min (p + K) rl.length:=⟨_,rfl⟩
   have hmin:min ((p:Int) + (K:Int)) (rl.length:Int) = (mn:Int):=by omega
   have hch:(chunk K j rl).length = mn - p:=by
    unfold chunk
    rw [List.length_take,List.length_drop,← HP.out]
    omega
   have hpm:p ≤ mn ∧ mn ≤ cap ∧ mn ≤ 4194304:=by omega
   have hpmi:(p:Int) ≤ (mn:Int):=by omega
   have hmci:(mn:Int) ≤ (cap:Int):=by omega
   have hm0:(0:Int) ≤ (mn:Int):=by omega
   have hcp:¬ cap = p:=by omega
   clear hmn
   have hc1:1 ≤ (chunk K j rl).length ∧ (chunk K j rl).length ≤ K:=by rw [hch]; omega
   have hch2:chunk K j rl = (rl.drop p).take K:=by unfold chunk; rw [HP.out]
   have hsm:∀ x ∈ flatR (chunk K j rl),x < 18446744073709551616:=flatR_mem (fun y hy=>List.mem_of_mem_drop (List.mem_of_mem_take hy)) HSM.out
   have HEN:Hid (∀ W,Tc [fb] W3 W → Calls Tryz.prog 70 #[.int .i64 5,.int .i64 (j:Int),.slice (some ⟨g,p * 4,none⟩) (mn - p) (cap - p),.int .i64 (B:Int)] W fun e w'=>∃ sa sc,e = .returned (.tuple #[.slice sa B sc,.int .i64 0]) ∧ Rx.OwnB w' W.heap.size (.slice sa B sc) (numsU (encU 5 j (flatR (chunk K j rl)) B)) ∧ Tc [] W w'):=hid (fun W tt=>by
    have hB:=HBB.out
    have hKo:=HKE.out
    have hfl:=flatR_length (chunk K j rl)
    have hlen:32 + 8 * (flatR (chunk K j rl)).length ≤ B:=by omega
    have h:=Rx.rencode_ok 5 j ((chunk K j rl).length) B (flatR (chunk K j rl)) g (p * 4) (cap - p) W (by rw [hch2]; exact rec_words (HRW.out W tt) p K) hfl (by have:=((HRW.out W tt).lt g rfl).2; exact this) hsm (by omega) (by omega) (by omega) hB.1 hB.2.1 hB.2.2 hc1.1 (by omega)
    have e:numsU (encU 5 j (flatR (chunk K j rl)) B) = PureCrc.enc 5 j (chunk K j rl).length (flatR (chunk K j rl)) B:=by
     unfold encU
     rw [show (flatR (chunk K j rl)).length / 4 = (chunk K j rl).length by omega,nums_bytes (PureCrc.enc_lt (by omega))]
    have hel:(encU 5 j (flatR (chunk K j rl)) B).length = B:=encU_length hlen
    rw [hch,← hch,← e] at h
    rw [hch] at h
    refine h.mono fun e w' ⟨sv,e1,ho,ht⟩=>?_
    obtain ⟨sa,sc,rfl⟩:=oSC ho
    rw [numsU_length,hel] at e1
    rw [numsU_length,hel] at ho
    exact ⟨sa,sc,e1,ho,ht⟩)
   have HCH:=hid (And.intro hch hch2)
   clear hch hch2 hsm hc1
   have HS7:=hid (fun W (tt:Tc [] wr W)=>(⟨(tt.cell (p:=⟨fb,2,none⟩) (ltB HI.out.row) (by simp)).trans (yf 2),(HHX.out W (HI.out.touch.trans tt (by simp))).1 0⟩:W.cell? ⟨fb,2,none⟩ = some (.slice oa j oc) ∧ W.cell? ⟨bx,0,none⟩ = some (.int .i64 (B:Int))))
   go_wp2_with fail
   go_region_held3 (fun W=>W.cell? ⟨fb,2,none⟩ = some (.slice oa j oc) ∧ W.cell? ⟨bx,0,none⟩ = some (.int .i64 (B:Int))) (go_keep)
    (first | (go_at_call 70; refine (HEN.out _ HI.out.touch.drew).mono ?_; rintro e w5 ⟨sa,sc,rfl,hob,ht5⟩; have HOB:=hid (And.intro hob ((Tc.refl [] wr).drew.trans ht5 (by simp))); have zz:=HS7.out w5 HOB.out.2; clear hob ht5))
   obtain ⟨hob,ht5⟩:=HOB.out
   have hdl:encU 5 j (flatR (chunk K j rl)) B ≠ []:=fun e=>by
    have h1:=congrArg List.length e
    have hfl:=flatR_length (chunk K j rl)
    have h2:=HCH.out.1
    have hB:=HBB.out
    have hKo:=HKE.out
    rw [encU_length (by rw [hfl]; omega)] at h1
    simp at h1
    omega
   obtain ⟨gb,hby,hrw,hgb⟩:=ByD.of_own1 hob hdl
   have ta:Tc [] w5 (w5.alloc (.cells #[.slice sa B sc] 118)):=(Tc.refl [] w5).alloc _
   have hown:=oTG (oTG HI.out.blo.own ht5 (fun y _ hy=>by cases hy)) ta (fun y _ hy=>by cases hy)
   rw [blocksOf_length] at hown
   have hcell:=cRw (heap_alloc_new w5 (.cells #[.slice sa B sc] 118)) 0
   simp only [List.getElem?_toArray,List.getElem?_cons_zero] at hcell
   obtain ⟨v7,w7,hrun,r1,r2,r3,r4⟩:=run_append_fresh (w5.alloc (.cells #[.slice sa B sc] 118)) 111 (.slice oa j oc) j svs hown ⟨w5.heap.size,0,none⟩ (.slice sa B sc) hcell rfl (by omega)
   have hnx:=HI.out.next (ht5.trans ta (by simp)) (hby.touch ta (by simp)) (hrw.touch ta (by simp)) (by exact hgb) hlb (by rw [blocksOf_length]; exact r1) r2 r3
   have HNX:=hid hnx.1
   have row7:=hnx.2.2
   have c7:=cRw row7
   have u7:=uRw row7
   have c5:=cRw ((ht5.block _ (ltB HI.out.row) (by simp)).trans HI.out.row)
   have n5:=World.new_ne w5 _ (c5 2)
   obtain ⟨a7,s7,e7⟩:=oSC r1
   subst e7
   have hbl:bkO 5 K B rl (j + 1) = bkO 5 K B rl j ++ [encU 5 j (flatR (chunk K j rl)) B]:=blocksOf_succ _ _ _ _ _
   have HBL:=hid hbl
   clear hob ht5 hdl hby hrw hgb ta hown hcell r1 r2 r3 r4 hnx row7 hbl y0 y1 yf uf zz
   go_wp2_with (at_builtin; refine wpList_app 111 _ rfl _ _ rfl rfl rfl hrun ?_)
   have hp9:=HP.out
   refine ⟨⟨j + 1,p + K,_,_,_,by omega,rfl,hid (by rw [Nat.succ_mul,hp9]),hid ?_,hid (by rw [HBL.out]; exact HNX.out)⟩,by simp [intOf]; omega⟩
   have h1:=nBlocks_le (len:=rl.length) hK2.1
   rcases Nat.lt_or_ge j (nBk K rl.length) with h2 | h2
   ·exact h2
   ·have:=Nat.mul_le_mul_right K h2
    omega
  ·have hj:j = nBk K rl.length:=by
    have h1:=HJ.out
    have h2:=HP.out
    rcases Nat.lt_or_ge j (nBk K rl.length) with h3 | h3
    ·have:=nBlocks_lt hK2.1 h3
     omega
    ·omega
   obtain ⟨D',hbd,_,hdm⟩:=HI.out.blo.done
   have hDl:∀ y ∈ D',W3.heap.size ≤ y ∧ y ≠ bx + 2:=fun y hy=>by
    have h9:W3.heap.size ≤ y:=by
     rcases hdm y hy with h | h
     ·exact HI.out.lo y h
     ·exact HI.out.olo y h
    exact ⟨h9,by omega⟩
   obtain ⟨nb,hnb⟩:∃ nb,nb = bkO 5 K B rl j:=⟨_,rfl⟩
   rw [← hnb] at hbd
   have hnl:nb.length = j:=by rw [hnb,blocksOf_length]
   have HNB:=hid (And.intro hnb hj)
   have HBI:=hid (And.intro hbd hDl)
   have HR2w:=hid (HHX.out wr HI.out.touch).2.2.1
   clear hj hbd hdm hDl hnb
   have hpi:¬ (p:Int) < (rl.length:Int):=by omega
   go_upto_region 10 with (go_at_call 71; refine (HKP.out wr HTW.out).mono ?_; rintro e w6 ⟨sv6,rfl,ho6,ht6⟩; have HO6:=hid ho6; have HT6:=hid ht6; obtain ⟨sa6,sc6,e6⟩:=oSC ho6; subst e6; clear ho6 ht6)
   clear y0 y1 yf uf
   obtain ⟨kl,hkl⟩:∃ kl,kl = keptF t 0 l:=⟨_,rfl⟩
   have hkll:kl.length ≤ 1048575:=by rw [hkl]; exact Nat.le_trans (List.length_filter_le _ _) hl
   have HKM:=hid (show ∀ e ∈ kl,e ∈ l from fun e he=>by rw [hkl] at he; exact (List.mem_filter.1 he).1)
   rw [← hkl] at HO6 ⊢
   have HKL:=hid hkl
   clear hkl
   obtain ⟨W7,hW7⟩:∃ W7,W7 = w6.alloc (.cells #[.int .i64 (B:Int),.slice sa6 kl.length sc6] 42):=⟨_,rfl⟩
   have t7:Tc [] w6 W7:=by rw [hW7]; exact (Tc.refl [] w6).alloc _
   have r7:W7.heap[w6.heap.size]? = some (.cells #[.int .i64 (B:Int),.slice sa6 kl.length sc6] 42 (0,0)):=by rw [hW7]; exact heap_alloc_new w6 _
   rw [← hW7]
   clear hW7
   obtain ⟨ob,hob⟩:∃ ob,ob = w6.heap.size:=⟨_,rfl⟩
   rw [← hob] at r7 ⊢
   have HT67:=hid (HT6.out.trans t7 (by simp))
   have HR7:=hid r7
   have HO7:=hid (oTG HO6.out t7 (fun y _ hy=>by cases hy))
   have HR2:=hid ((HT67.out.block _ (ltB HR2w.out) (by simp)).trans HR2w.out)
   have hobw:wr.heap.size ≤ ob:=by rw [hob]; exact HT6.out.size
   obtain ⟨w4,hw4⟩:∃ w4,w4 = wr:=⟨_,rfl⟩
   subst hw4
   have hobx:bx + 3 ≤ ob:=by have h1:=HT6.out.size; have h2:=HI.out.touch.size; omega
   have hfob:fb < ob:=by have h1:=HT6.out.size; have h2:=HI.out.touch.size; omega
   have HY:=hid (fun W (tt:Tc [] W7 W)=>(⟨fun i=>cRw ((tt.block _ (ltB HR7.out) (by simp)).trans HR7.out) i,fun i=>cRw ((tt.block fb (Nat.lt_of_lt_of_le (ltB HI.out.row) HT67.out.size) (by simp)).trans ((HT67.out.block _ (ltB HI.out.row) (by simp)).trans HI.out.row)) i,(HTW.out.trans HT67.out (by simp)).trans tt (by simp)⟩:(∀ i,W.cell? ⟨ob,i,none⟩ = _) ∧ (∀ i,W.cell? ⟨fb,i,none⟩ = _) ∧ Tc [] w W))
   have HSL:=hid (show ∀ e ∈ kl,∃ a c,e.sv = .slice a e.file.blocks.length c from fun e he=>by
    obtain ⟨q,hq,hqe⟩:=List.getElem_of_mem (HKM.out e he)
    obtain ⟨a,c,_,_,_,_,_,hb⟩:=(HH.out w (Tc.refl _ _)).at_ q e (by rw [← hqe]; exact List.getElem?_eq_getElem hq)
    exact hb.sl)
   obtain ⟨nf,hnf⟩:∃ nf:SFl,nf = ⟨cn,⟨true,nb⟩,.slice oa j oc,[]⟩:=⟨_,rfl⟩
   have HNF:=hid hnf
   have hnfn:nf.name = cn:=by rw [hnf]
   have HNN:=hid hnfn
   have HNC:=hid (show SFl.cells nf = [.string (bs cn),.bool true,.slice oa j oc] by rw [hnf]; rfl)
   clear hnf hnfn t7 r7 hob
   go_wp2_with fail
   go_loopw [14,15,16] (fun m d i W=>∃ (q:Nat) (db:Bool),q ≤ kl.length ∧ i = .int .i64 q ∧ d = .bool db ∧ Hid (mD nf (kl.take q) db) ∧ Hid (W.ownsRow W7.heap.size 113 3 m (q + db.toNat) ((mF nf (kl.take q) db).flatMap SFl.cells)) ∧ Hid (Below W7.heap.size W7 W)) (fun _ _ i _=>kl.length - (intOf i).toNat)
   case atStart=>exact ⟨0,false,Nat.zero_le _,rfl,rfl,hid (mD_nil nf),hid (World.ownsRow_nil _ _ _ _),hid (Below.refl _ _)⟩
   case round =>
    obtain ⟨q,db,hq,rfl,rfl,HMD,HM,HTI⟩:=hrel
    obtain ⟨ma,mc,rfl⟩:=oSC HM.out
    have HT9:=hid (Tc.of_below (F:=[]) HTI.out (Nat.le_refl _))
    obtain ⟨yo,yf,_⟩:=HY.out wr HT9.out
    by_cases hql:q < kl.length
    ·obtain ⟨lg,lc,hlg,hll,hlc⟩:=own_block HO7.out (by omega)
     injection hlg with e1 e2 e3
     subst e1
     subst e3
     obtain ⟨x,hx⟩:∃ x,x = kl[q]:=⟨_,rfl⟩
     have hgx:kl[q]? = some x:=by rw [hx]; exact List.getElem?_eq_getElem hql
     obtain ⟨xa,xc,hxv⟩:=HSL.out x (by rw [hx]; exact List.getElem_mem hql)
     have HTX:=hid (show kl.take (q + 1) = kl.take q ++ [x] by rw [hx]; exact take_snoc hql)
     have HXS:=hid hxv
     obtain ⟨xn,hxn⟩:∃ xn,xn = x.file.blocks.length:=⟨_,rfl⟩
     rw [← hxn] at hxv HXS
     have HCX:Hid (∀ W,Tc [] W7 W → W.cell? ⟨lg,q * 3,none⟩ = some (.string (bs x.name)) ∧ W.cell? ⟨lg,q * 3 + 1,none⟩ = some (.bool x.file.shut) ∧ W.cell? ⟨lg,q * 3 + 2,none⟩ = some (.slice xa xn xc)):=hid (fun W tt=>by
      have:=row_of (oTG HO7.out tt (fun y _ hy=>by cases hy)) (g:=lg) rfl hgx
      rw [hxv] at this
      exact this)
     clear hx hgx hxv hxn
     obtain ⟨x0,x1,x2⟩:=HCX.out wr HT9.out
     have hqi:(q:Int) < (kl.length:Int):=by omega
     cases db with
     | false =>
      by_cases hbf:bytesBefore nf.name x.name = true
      ·have hbl:Op.bytesLess (bs cn).toList (bs x.name).toList = true:=by rw [less_bs,← HNN.out]; exact hbf
       go_wp2_with fail
       go_quiet (fail)
       obtain ⟨wd,hwd⟩:∃ wd,wd = wr.drewN nq:=⟨_,rfl⟩
       have HTD:=hid (show Tc [] wr wd by rw [hwd]; exact (Tc.refl [] wr).drewN _)
       have HBD:=hid (show Below W7.heap.size W7 wd by rw [hwd]; exact ⟨HTI.out.os,HTI.out.tape,HTI.out.output,HTI.out.size,HTI.out.block⟩)
       rw [← hwd]
       clear hwd yo yf x0 x1 x2
       have HMW:=hid (oTG HM.out HTD.out (fun y _ hy=>by cases hy))
       have ⟨_,yf,_⟩:=HY.out wd (HT9.out.trans HTD.out (by simp))
       go_upto_region 17 with (at_builtin; refine wpList_file _ rfl _ _ rfl W7.heap.size (.slice ma q mc) q ((mF nf (kl.take q) false).flatMap SFl.cells) wd.heap.size (.string (bs cn)) (.bool true) (.slice oa j oc) rfl rfl (World.ownsRow.alloc HMW.out _) (heap_alloc_new wd _) rfl rfl rfl (by omega) (by simp; exact Nat.le_succ_of_le HBD.out.size) ?_; intro v5 w5 o5 g5 b5; have HO5:=hid o5; have HB5:=hid ((HBD.out.alloc HBD.out.size _).trans b5); obtain ⟨m5,c5,e5⟩:=oSC o5; subst e5; clear o5 g5 b5)
       clear yf
       have HT5:=hid (Tc.of_below (F:=[]) HB5.out (Nat.le_refl _))
       have ⟨x0,x1,x2⟩:=HCX.out w5 HT5.out
       have ⟨yo,_,_⟩:=HY.out w5 HT5.out
       go_wp2_with (at_builtin; refine wpList_file _ rfl _ _ rfl W7.heap.size (.slice m5 (q + 1) c5) (q + 1) ((mF nf (kl.take q) false).flatMap SFl.cells ++ [Value.string (bs cn),.bool true,.slice oa j oc]) w5.heap.size (.string (bs x.name)) (.bool x.file.shut) (.slice xa xn xc) rfl rfl (World.ownsRow.alloc HO5.out _) (heap_alloc_new w5 _) rfl rfl rfl (by omega) (by simp; exact Nat.le_succ_of_le HB5.out.size) ?_; intro v6 w6 o6 g6 b6; have HO6:=hid o6; have HB6:=hid ((HB5.out.alloc HB5.out.size _).trans b6); obtain ⟨m6,c6,e6⟩:=oSC o6; subst e6; clear o6 g6 b6)
       have hmd:=HMD.out
       have hes:=HNC.out
       have hxs:=HXS.out
       have htx:=HTX.out
       have ho6:=HO6.out
       refine ⟨⟨q + 1,true,hql,rfl,rfl,hid ?_,hid ?_,HB6⟩,by simp [intOf]; omega⟩
       ·rw [htx]
        exact ⟨x,by simp,hbf⟩
       ·rw [htx]
        unfold mF at ho6 ⊢
        rw [if_neg (by decide)] at ho6
        rw [if_pos rfl,insF_hit hmd hbf,List.flatMap_append,List.flatMap_append]
        rw [show List.flatMap SFl.cells [nf] = [.string (bs cn),.bool true,.slice oa j oc] by simp [hes]]
        simpa [SFl.cells,hxs,encStr,bs] using ho6
      ·have hbl:Op.bytesLess (bs cn).toList (bs x.name).toList = false:=by rw [less_bs,← HNN.out]; simpa using hbf
       go_wp2_with fail
       go_quiet (fail)
       obtain ⟨wd,hwd⟩:∃ wd,wd = wr.drewN nq:=⟨_,rfl⟩
       have HTD:=hid (show Tc [] wr wd by rw [hwd]; exact (Tc.refl [] wr).drewN _)
       have HBD:=hid (show Below W7.heap.size W7 wd by rw [hwd]; exact ⟨HTI.out.os,HTI.out.tape,HTI.out.output,HTI.out.size,HTI.out.block⟩)
       rw [← hwd]
       clear hwd yo yf x0 x1 x2
       have HMW:=hid (oTG HM.out HTD.out (fun y _ hy=>by cases hy))
       have ⟨x0,x1,x2⟩:=HCX.out wd (HT9.out.trans HTD.out (by simp))
       have ⟨yo,_,_⟩:=HY.out wd (HT9.out.trans HTD.out (by simp))
       go_wp2_with (at_builtin; refine wpList_file _ rfl _ _ rfl W7.heap.size (.slice ma q mc) q ((mF nf (kl.take q) false).flatMap SFl.cells) wd.heap.size (.string (bs x.name)) (.bool x.file.shut) (.slice xa xn xc) rfl rfl (World.ownsRow.alloc HMW.out _) (heap_alloc_new wd _) rfl rfl rfl (by omega) (by simp; exact Nat.le_succ_of_le HBD.out.size) ?_; intro v6 w6 o6 g6 b6; have HO6:=hid o6; have HB6:=hid ((HBD.out.alloc HBD.out.size _).trans b6); obtain ⟨m6,c6,e6⟩:=oSC o6; subst e6; clear o6 g6 b6)
       have hmd:=HMD.out
       have hxs:=HXS.out
       have htx:=HTX.out
       have ho6:=HO6.out
       refine ⟨⟨q + 1,false,hql,rfl,rfl,hid ?_,hid ?_,HB6⟩,by simp [intOf]; omega⟩
       ·rw [htx]
        intro y hy
        rcases List.mem_append.1 hy with hy | hy
        ·exact hmd y hy
        ·rw [List.mem_singleton] at hy
         subst hy
         simpa using hbf
       ·rw [htx]
        unfold mF at ho6 ⊢
        rw [if_neg (by decide)] at ho6
        rw [if_neg (by decide),List.flatMap_append]
        simpa [SFl.cells,hxs,encStr,bs] using ho6
     | true =>
      go_wp2_with fail
      go_quiet (fail)
      obtain ⟨wd,hwd⟩:∃ wd,wd = wr.drewN nq:=⟨_,rfl⟩
      have HTD:=hid (show Tc [] wr wd by rw [hwd]; exact (Tc.refl [] wr).drewN _)
      have HBD:=hid (show Below W7.heap.size W7 wd by rw [hwd]; exact ⟨HTI.out.os,HTI.out.tape,HTI.out.output,HTI.out.size,HTI.out.block⟩)
      rw [← hwd]
      clear hwd yo yf x0 x1 x2
      have HMW:=hid (oTG HM.out HTD.out (fun y _ hy=>by cases hy))
      have ⟨x0,x1,x2⟩:=HCX.out wd (HT9.out.trans HTD.out (by simp))
      have ⟨yo,_,_⟩:=HY.out wd (HT9.out.trans HTD.out (by simp))
      go_wp2_with (at_builtin; refine wpList_file _ rfl _ _ rfl W7.heap.size (.slice ma (q + 1) mc) (q + 1) ((mF nf (kl.take q) true).flatMap SFl.cells) wd.heap.size (.string (bs x.name)) (.bool x.file.shut) (.slice xa xn xc) rfl rfl (World.ownsRow.alloc HMW.out _) (heap_alloc_new wd _) rfl rfl rfl (by omega) (by simp; exact Nat.le_succ_of_le HBD.out.size) ?_; intro v6 w6 o6 g6 b6; have HO6:=hid o6; have HB6:=hid ((HBD.out.alloc HBD.out.size _).trans b6); obtain ⟨m6,c6,e6⟩:=oSC o6; subst e6; clear o6 g6 b6)
      have hmd:=HMD.out
      have hxs:=HXS.out
      have htx:=HTX.out
      have ho6:=HO6.out
      refine ⟨⟨q + 1,true,hql,rfl,rfl,hid ?_,hid ?_,HB6⟩,by simp [intOf]; omega⟩
      ·rw [htx]
       obtain ⟨y,hy,h2⟩:=hmd
       exact ⟨y,List.mem_append_left _ hy,h2⟩
      ·rw [htx]
       unfold mF at ho6 ⊢
       rw [if_pos rfl] at ho6
       rw [if_pos rfl,insF_on hmd,List.flatMap_append]
       simpa [SFl.cells,hxs,encStr,bs] using ho6
    ·obtain rfl:q = kl.length:=by omega
     have htk:kl.take kl.length = kl:=List.take_length
     rw [htk] at HMD HM
     have rob:=(HTI.out.block _ (ltB HR7.out)).trans HR7.out
     have ro2:=(HTI.out.block _ (ltB HR2.out)).trans HR2.out
     have HFIN:=hid (fun Wz v (hb:Below W7.heap.size W7 Wz) (ho:Wz.ownsRow W7.heap.size 113 3 v (insF nf kl).length ((insF nf kl).flatMap SFl.cells))=>(by
      have tz:Tc [] W7 Wz:=Tc.of_below (F:=[]) hb (Nat.le_refl _)
      have tf:Tc [ob,bx + 2] Wz (((Wz.setCell ⟨ob,1,none⟩ v).setCell ⟨bx + 2,0,none⟩ (.int .i64 (B:Int))).setCell ⟨bx + 2,1,none⟩ v):=(((Tc.refl _ Wz).setCell (.inl (by simp)) _).setCell (.inl (by simp)) _).setCell (.inl (by simp)) _
      have hbn:=HBN.out
      have hlw:=HT67.out.size
      have hob7:=ltB HR7.out
      have t4:Tc [bx + 2] w4 (((Wz.setCell ⟨ob,1,none⟩ v).setCell ⟨bx + 2,0,none⟩ (.int .i64 (B:Int))).setCell ⟨bx + 2,1,none⟩ v):=((HT67.out.trans tz (by simp)).mono (by simp)).trans tf (fun y hy=>by
       rcases List.mem_cons.1 hy with rfl | hy
       ·exact .inr (by omega)
       ·exact .inl hy)
      have tw:Tc [] w (((Wz.setCell ⟨ob,1,none⟩ v).setCell ⟨bx + 2,0,none⟩ (.int .i64 (B:Int))).setCell ⟨bx + 2,1,none⟩ v):=HTW.out.trans t4 (fun y hy=>by
       rw [List.mem_singleton] at hy
       exact .inr (by omega))
      refine ⟨StIn.of_own (oTG ho tf (fun y hy hx=>?_)) (fun e he=>?_),tw⟩
      ·have h9:=(ho.lt y hy).1
       simp at hx
       omega
      ·rcases insF_mem.1 he with rfl | he
       ·have h9:=HBI.out.1.touch t4 (fun y hy hx=>by
         rw [List.mem_singleton] at hy
         exact (HBI.out.2 y hx).2 hy)
        have h8:=h9.in_
        rw [HNF.out]
        exact h8
       ·obtain ⟨q,hq,hqe⟩:=List.getElem_of_mem (HKM.out e he)
        obtain ⟨_,_,_,_,_,_,_,hb9⟩:=(HH.out _ tw).at_ q e (by rw [← hqe]; exact List.getElem?_eq_getElem hq)
        exact hb9:StIn (((Wz.setCell ⟨ob,1,none⟩ v).setCell ⟨bx + 2,0,none⟩ (.int .i64 (B:Int))).setCell ⟨bx + 2,1,none⟩ v) v (insF nf kl) ∧ Tc [] w (((Wz.setCell ⟨ob,1,none⟩ v).setCell ⟨bx + 2,0,none⟩ (.int .i64 (B:Int))).setCell ⟨bx + 2,1,none⟩ v)))
     have HPB:=hid (show nf.pub = (cn,(⟨true,bkO 5 K B rl (nBk K rl.length)⟩:FlA)) by rw [HNF.out,HNB.out.1,HNB.out.2]; rfl)
     have hne2:ob ≠ bx + 2:=by omega
     cases db with
     | false =>
      have HRO:=hid rob
      have HRT:=hid ro2
      clear rob ro2
      go_upto_region 21 with (at_builtin; refine wpList_file _ rfl _ _ rfl W7.heap.size (.slice ma kl.length mc) kl.length ((mF nf kl false).flatMap SFl.cells) wr.heap.size (.string (bs cn)) (.bool true) (.slice oa j oc) rfl rfl (World.ownsRow.alloc HM.out _) (heap_alloc_new wr _) rfl rfl rfl (by omega) (by simp; exact Nat.le_succ_of_le HTI.out.size) ?_; intro v6 w6 o6 g6 b6; have HO6:=hid o6; have HB6:=hid ((HTI.out.alloc HTI.out.size _).trans b6); obtain ⟨m6,c6,e6⟩:=oSC o6; subst e6; clear o6 g6 b6)
      have hmd:=HMD.out
      have hes:=HNC.out
      have ho6:=HO6.out
      unfold mF at ho6
      rw [if_neg (by decide)] at ho6
      have hlen:(insF nf kl).length = kl.length + 1:=insF_len _ _
      have ho7:w6.ownsRow W7.heap.size 113 3 (.slice m6 (kl.length + 1) c6) (insF nf kl).length ((insF nf kl).flatMap SFl.cells):=by
       rw [hlen,insF_miss hmd,List.flatMap_append]
       rw [show List.flatMap SFl.cells [nf] = [.string (bs cn),.bool true,.slice oa j oc] by simp [hes]]
       exact ho6
      have HFF:=hid (HFIN.out w6 _ HB6.out ho7)
      have rob:=(HB6.out.block _ (ltB HR7.out)).trans HR7.out
      have ro2:=(HB6.out.block _ (ltB HR2.out)).trans HR2.out
      clear hmd hes ho6 hlen ho7 yo yf
      have o9:=cRw rob
      have p9:=uRw rob
      have HRB9:=hid rob
      have HRT9:=hid ro2
      clear rob ro2
      go_upto_region 22 with fail
      have q9:=Lib.heap_setCell_same (i:=1) HRB9.out (.slice m6 (kl.length + 1) c6)
      have s9:(w6.setCell ⟨ob,1,none⟩ (.slice m6 (kl.length + 1) c6)).heap[bx + 2]? = _:=(blk_setCell_other w6 ⟨ob,1,none⟩ (.slice m6 (kl.length + 1) c6) (bx + 2) (fun h=>hne2 h.symm)).trans HRT9.out
      obtain ⟨X9,hX9⟩:∃ X9,X9 = w6.setCell ⟨ob,1,none⟩ (.slice m6 (kl.length + 1) c6):=⟨_,rfl⟩
      rw [← hX9] at q9 s9 HFF
      rw [← hX9]
      have HX9:=hid hX9
      clear hX9 o9 p9
      have d9:=cRw q9
      have e9:=cRw s9
      have f9:=uRw s9
      have HS9:=hid s9
      clear q9 s9
      go_wp2_with fail
      have f1:=Lib.heap_setCell_same (i:=1) (Lib.heap_setCell_same (i:=0) HS9.out (.int .i64 (B:Int))) (.slice m6 (kl.length + 1) c6)
      have g0:=cRw f1 0
      have g1:=cRw f1 1
      exact bodyPost_ret (v:=.agg #[.int .i64 (B:Int),.slice m6 (kl.length + 1) c6]) (by simp [results,Tryz.results33,go_sem,g0,g1]) rfl ⟨_,nf,rfl,by rw [← HKL.out]; exact HFF.out.1,HPB.out,HFF.out.2⟩
     | true =>
      have hlen:(insF nf kl).length = kl.length + 1:=insF_len _ _
      have hm:=HM.out
      unfold mF at hm
      rw [if_pos rfl] at hm
      have ho7:wr.ownsRow W7.heap.size 113 3 (.slice ma (kl.length + 1) mc) (insF nf kl).length ((insF nf kl).flatMap SFl.cells):=by rw [hlen]; exact hm
      have HFF:=hid (HFIN.out wr _ HTI.out ho7)
      clear hlen hm ho7 yf
      go_upto_region 21 with fail
      clear yo
      have o9:=cRw rob
      have p9:=uRw rob
      have HRB9:=hid rob
      have HRT9:=hid ro2
      clear rob ro2
      go_upto_region 22 with fail
      have q9:=Lib.heap_setCell_same (i:=1) HRB9.out (.slice ma (kl.length + 1) mc)
      have s9:(wr.setCell ⟨ob,1,none⟩ (.slice ma (kl.length + 1) mc)).heap[bx + 2]? = _:=(blk_setCell_other wr ⟨ob,1,none⟩ (.slice ma (kl.length + 1) mc) (bx + 2) (fun h=>hne2 h.symm)).trans HRT9.out
      obtain ⟨X9,hX9⟩:∃ X9,X9 = wr.setCell ⟨ob,1,none⟩ (.slice ma (kl.length + 1) mc):=⟨_,rfl⟩
      rw [← hX9] at q9 s9 HFF
      rw [← hX9]
      have HX9:=hid hX9
      clear hX9 o9 p9
      have d9:=cRw q9
      have e9:=cRw s9
      have f9:=uRw s9
      have HS9:=hid s9
      clear q9 s9
      go_wp2_with fail
      have f1:=Lib.heap_setCell_same (i:=1) (Lib.heap_setCell_same (i:=0) HS9.out (.int .i64 (B:Int))) (.slice ma (kl.length + 1) mc)
      have g0:=cRw f1 0
      have g1:=cRw f1 1
      exact bodyPost_ret (v:=.agg #[.int .i64 (B:Int),.slice ma (kl.length + 1) mc]) (by simp [results,Tryz.results33,go_sem,g0,g1]) rfl ⟨_,nf,rfl,by rw [← HKL.out]; exact HFF.out.1,HPB.out,HFF.out.2⟩
end
theorem insF_pub (e:SFl):∀ l:List SFl,(insF e l).map SFl.pub = insA e.pub (l.map SFl.pub)
 | []=>rfl
 | x :: t=>by
  unfold insF
  rw [List.map_cons]
  unfold insA
  have hb:(Lit.string e.pub.1).before (.string x.pub.1) = bytesBefore e.name x.name:=rfl
  rw [hb]
  split
  ·rfl
  ·rw [List.map_cons,insF_pub e t]
theorem insA_front {c:List UInt8 × FlA} {l:List (List UInt8 × FlA)} (h:∀ e ∈ l,bytesBefore c.1 e.1 = true):insA c l = c :: l:=by
 cases l with
 | nil=>rfl
 | cons x t =>
  unfold insA
  have hb:(Lit.string c.1).before (.string x.1) = bytesBefore c.1 x.1:=rfl
  rw [hb,if_pos (h x (by simp))]
theorem filter_insA {c:List UInt8 × FlA} {p:List UInt8 → Bool} (hp:p c.1 = true):∀ {l:List (List UInt8 × FlA)},Rise l → (insA c l).filter (fun e=>p e.1) = insA c (l.filter fun e=>p e.1)
 | [],_=>by simp [insA,hp]
 | x :: t,h=>by
  have h':=List.pairwise_cons.1 h
  have hb:(Lit.string c.1).before (.string x.1) = bytesBefore c.1 x.1:=rfl
  rw [insA,hb]
  split
  ·next hc =>
   have hall:∀ e ∈ (x :: t).filter (fun e=>p e.1),bytesBefore c.1 e.1 = true:=fun e he=>by
    rcases List.mem_cons.1 (List.mem_filter.1 he).1 with rfl | he
    ·exact hc
    ·exact before_trans hc (h'.1 e he)
   rw [insA_front hall,List.filter_cons,if_pos hp]
  ·next hc =>
   rw [List.filter_cons,List.filter_cons]
   cases hx:p x.1 with
   | true =>
    rw [if_pos rfl,if_pos rfl,filter_insA hp h'.2,insA,hb,if_neg hc]
   | false =>
    rw [if_neg (by decide),if_neg (by decide)]
    exact filter_insA hp h'.2
theorem keptF_pub (t:Tbl) (g:Nat) (l:List SFl):(keptF t g l).map SFl.pub = (l.map SFl.pub).filter fun e=>keepsB t g e.1:=by
 unfold keptF
 rw [List.filter_map]
 rfl
structure May0 (P:List (List UInt8 × FlA)) (t:Tbl) (gen:Nat):Prop where
 form:fmB t = true
 lt:gen + 1 < 18446744073709551616
 over:overL P gen = false
 files:∀ x ∈ t.rows,∃ f,findA P (fileN x.2) = some f ∧ f.shut = true
theorem filesE_ok {P:List (List UInt8 × FlA)}:∀ {m:List Nat},filesE P m = 0 → ∀ u ∈ m,∃ f,findA P (fileN u) = some f ∧ f.shut = true
 | [],_,u,hu=>by cases hu
 | v :: r,h,u,hu=>by
  unfold filesE at h
  by_cases h0:fileE P (fileN v) = 0
  ·rw [if_neg (by simp [h0])] at h
   rcases List.mem_cons.1 hu with rfl | hu
   ·unfold fileE at h0
    cases hf:findA P (fileN u) with
    | none=>rw [hf] at h0; cases h0
    | some f =>
     rw [hf] at h0
     refine ⟨f,rfl,?_⟩
     cases hs:f.shut with
     | true=>rfl
     | false=>simp [hs] at h0
   ·exact filesE_ok h u hu
  ·rw [if_pos h0] at h
   exact absurd h h0
theorem filesE_all {P:List (List UInt8 × FlA)}:∀ {m:List Nat},(∀ u ∈ m,∃ f,findA P (fileN u) = some f ∧ f.shut = true) → filesE P m = 0
 | [],_=>rfl
 | v :: r,h=>by
  obtain ⟨f,h1,h2⟩:=h v (by simp)
  have h0:fileE P (fileN v) = 0:=by unfold fileE; rw [h1]; simp [h2]
  unfold filesE
  rw [if_neg (by simp [h0])]
  exact filesE_all (fun u hu=>h u (by simp [hu]))
theorem mayE_ok {P:List (List UInt8 × FlA)} {t:Tbl} {gen:Nat} {m:List Nat} (hg:gen < 18446744073709551616) (hm:FilesIs t.rows m) (h:mayE P t gen m = 0):May0 P t gen:=by
 unfold mayE at h
 cases hf:fmB t with
 | false=>rw [if_pos hf] at h; cases h
 | true =>
  rw [if_neg (by simp [hf])] at h
  by_cases hl:gen = 18446744073709551615
  ·rw [if_pos hl] at h; cases h
  ·rw [if_neg hl] at h
   cases ho:overL P gen with
   | true=>rw [ho] at h; simp at h
   | false =>
    rw [ho] at h
    refine ⟨hf,by omega,ho,fun x hx=>filesE_ok (by simpa using h) x.2 ((hm.2 _).2 (List.mem_map.2 ⟨x,hx,rfl⟩))⟩
theorem May0.none {P:List (List UInt8 × FlA)} {t:Tbl} {gen:Nat} (h:May0 P t gen):findA P (catN (gen + 1)) = none:=find_none_of (fun x hx e=>by
 have h1:=h.over
 unfold overL at h1
 rw [List.any_eq_false] at h1
 have h2:=h1 x hx
 rw [e,genN_cat h.lt] at h2
 exact h2 (decide_eq_true (by omega)))
section
variable {A:PubA} {P:List (List UInt8 × FlA)} {b:Bn} {t:Tbl} {gen K B:Nat}
structure Fresh0 (A:PubA) (P:List (List UInt8 × FlA)) (B K:Nat):Prop where
 on:A.on = true
 files:A.files = P
 blk:A.B = B
 bsz:A.Bs = 1099511627776
 used:A.c.used ≤ 2097153000
 fits:Fits A K
 hK:1 ≤ K ∧ K ≤ 40
 good:GoodP B P
theorem Fresh0.lay (h:Fresh0 A P B K) (hb:b.l = []) (hm:May0 P t gen) (hn:t.Num):LayOk b A (bs (catN (gen + 1))) 5 K (recsN t (gen + 1)):=by
 have hf:=formed_is hm.form
 have hl:(recsN t (gen + 1)).length ≤ 70000:=by
  rw [recsN_len]
  have:=hf.vars.2
  have:=hf.rows
  omega
 have hnb:=blsT_few (B:=A.B) (g:=gen + 1) h.hK.1 hf
 rw [blocksOf_length] at hnb
 refine ⟨hb,⟨h.on,nameCat _,?_⟩,h.fits,⟨h.hK.1,by have:=h.hK.2; omega⟩,by decide,by decide,recs_small hn hm.lt (by have:=hf.vars.2; omega),by omega,?_⟩
 ·rw [h.files]
  exact hm.none
 ·rw [h.bsz]
  have:=h.used
  omega
theorem commit_left (h:Fresh0 A P B K) (hb:b.l = []) (hm:May0 P t gen) (hn:t.Num) :
  ∃ A2,tidyB b (filesN t.rows ++ [catN (gen + 1)]) (putA A K t (gen + 1)) = (0,A2) ∧ A2.on = true ∧ A2.B = B ∧ A2.files = insA (catN (gen + 1),⟨true,blsT K B t (gen + 1)⟩) (P.filter fun e=>keepsB t 0 e.1) ∧
   TapX b A2 (bs (catN (gen + 1))) K 5 (blsT K B t (gen + 1)) (recsN t (gen + 1)) ∧ newestA A2 = gen + 1 ∧ readyE A2 (sortU (filesN t.rows)) [] = 0 ∧ (namesA (putA A K t (gen + 1))).length ≤ 1001:=by
 have C:=h.lay hb hm hn
 have hg:=hm.lt
 have hPr:Rise P:=h.good.rise
 have hfl:(putA A K t (gen + 1)).files = insA (catN (gen + 1),⟨true,blsT K B t (gen + 1)⟩) P:=by
  show insA (nm (bs (catN (gen + 1))),_) A.files = _
  rw [h.files,h.blk]
  rfl
 have hrise:Rise (putA A K t (gen + 1)).files:=by rw [hfl]; exact rise_ins hPr hm.none _
 have hgood:∀ e ∈ (putA A K t (gen + 1)).files,nameB (bs e.1) = true:=fun e he=>by
  rw [hfl] at he
  rcases mem_ins.1 he with rfl | he
  ·exact nameCat _
  ·exact h.good.name e he
 obtain ⟨A2,h1,h2,h3,h4,h5,h6⟩:=tidyB_all C.nil (kept:=filesN t.rows ++ [catN (gen + 1)]) (A:=putA A K t (gen + 1)) h.on hrise hgood
 have hfil:A2.files = insA (catN (gen + 1),⟨true,blsT K B t (gen + 1)⟩) (P.filter fun e=>keepsB t 0 e.1):=by
  rw [h6,hfl]
  have e1:=filter_insA (c:=(catN (gen + 1),(⟨true,blsT K B t (gen + 1)⟩:FlA))) (p:=fun x=>decide (x ∈ filesN t.rows ++ [catN (gen + 1)])) (by simp) hPr
  rw [e1]
  congr 1
  apply List.filter_congr
  intro e he
  have hne:e.1 ≠ catN (gen + 1):=find_absent hm.none e he
  unfold keepsB
  simp [hne]
 have hrise2:Rise A2.files:=by rw [h6]; exact hrise.filter _
 have hcat:(catN (gen + 1),(⟨true,blsT K B t (gen + 1)⟩:FlA)) ∈ A2.files:=by
  rw [hfil]
  exact mem_ins.2 (.inl rfl)
 have hHas:Has A2 (bs (catN (gen + 1))) (blsT K B t (gen + 1)):=⟨h2,nameCat _,find_mem hrise2.ne hcat⟩
 have hB2:A2.B = B:=h3.trans h.blk
 have hrow:∀ x ∈ t.rows,∃ f,findA A2.files (fileN x.2) = some f ∧ f.shut = true:=fun x hx=>by
  obtain ⟨f,hf,hs⟩:=hm.files x hx
  refine ⟨f,find_mem hrise2.ne ?_,hs⟩
  rw [hfil]
  refine mem_ins.2 (.inr (List.mem_filter.2 ⟨mem_find hf,?_⟩))
  unfold keepsB
  simp only [Bool.or_eq_true,decide_eq_true_eq]
  exact .inl (List.mem_map.2 ⟨x,hx,rfl⟩)
 have hri:∀ x ∈ t.rows,x.2 < 18446744073709551616:=fun x hx=>(hn.ri x hx).2
 obtain ⟨m,hmf⟩:=FilesIs.some t.rows
 refine ⟨A2,h1,h2,hB2,hfil,⟨C.nil,hHas,⟨by rw [hB2,← h.blk]; exact C.fit.h64,by rw [hB2,← h.blk]; exact C.fit.hmax,by rw [hB2,← h.blk]; exact C.fit.h32,by rw [hB2,← h.blk]; exact C.fit.k⟩,C.hK,C.k1,C.k2,C.small,C.len,blocksOf_length _ _ _ _ _,fun j hj=>?_⟩,?_,?_,?_⟩
 ·rw [blocksOf_length] at hj
  rw [hB2]
  exact blocksOf_get hj
 ·unfold newestA
  refine fold_newest _ _ (Nat.zero_le _) (fun x hx=>?_) (.inr ⟨bs (catN (gen + 1)),?_,?_,?_,?_⟩)
  ·obtain ⟨e,he,rfl⟩:=mem_namesA h2 hx
   rw [nm_bs]
   rw [hfil] at he
   rcases mem_ins.1 he with rfl | he
   ·rw [genN_cat hg]; exact Nat.le_refl _
   ·have hk:=(List.mem_filter.1 he).2
    unfold keepsB at hk
    simp at hk
    obtain ⟨r,hr,e1⟩:=List.mem_map.1 hk
    rw [← e1,genN_file]
    omega
  ·unfold namesA
   rw [if_pos h2]
   exact List.mem_map.2 ⟨_,hcat,rfl⟩
  ·rw [nm_bs]; exact genN_cat hg
  ·rw [length_has hHas]
  ·rw [length_has hHas]
 ·rw [sortU_files hmf.1 hmf.2 hri,filesE_ready h2]
  apply filesE_all
  intro u hu
  obtain ⟨x,hx,rfl⟩:=List.mem_map.1 ((hmf.2 u).1 hu)
  exact hrow x hx
 ·have e1:(namesA (putA A K t (gen + 1))).length = (insA (catN (gen + 1),(⟨true,blsT K B t (gen + 1)⟩:FlA)) P).length:=by
   unfold namesA
   rw [if_pos (show (putA A K t (gen + 1)).on = true from h.on),List.length_map,hfl]
  rw [e1,(perm_ins _ _).length_eq,List.length_cons]
  have:=h.good.few
  omega
end
section
variable {w:World} {E:Nat → Addr} {lo B:Nat} {fa:Option Addr} {fc:Nat} {D:List Nat} {l:List SFl} {L:List Thg}
theorem openB (V:Env w lo E) (h:Sta w B (.slice fa l.length fc) D l L) {ta:Option Addr} {tc:Nat} {tl:List TrA} (htl:TrsAt w ta tl) (htn:tl.length ≤ 1099511627776) (x:Nat) (hx:x ≤ 1048576) :
  Calls Tryz.prog 14 #[.agg #[.int .i64 (B:Int),.slice fa l.length fc],.int .i64 (x:Int),.slice ta tl.length tc] w fun e w'=>∃ b kb lb F A,e = .returned (.tuple #[.agg #[ptr b.p,ptr b.q,ptr kb],.bool true]) ∧ b.lo = lo ∧ b.E = E ∧ b.l = tl ∧ Bed w w' b kb (B / 32 - 1) F lb B x (l.map SFl.pub) A ∧ Fresh0 A (l.map SFl.pub) B (B / 32 - 1):=by
 obtain ⟨h1,h2,h3⟩:=h.good.mount ⟨h.blk.1,h.blk.2.1,h.blk.2.2.1⟩
 refine (open_ok (n:=2097153000) (tc:=tc) V V.room h.st.in_ htl htn (by omega) h3 (by omega) h1 ⟨h.blk.1,h.blk.2.1,h.blk.2.2.1⟩ x hx).mono fun e w' ⟨b,kb,lb,F,e1,e2,e3,e4,ht,hS,hk,hkF,hk1,hk2,hF⟩=>⟨b,kb,lb,F,mountA B 1099511627776 l l.length,e1,e2,e3,e4,?_⟩
 have e1:(mountA B 1099511627776 l l.length).files = l.map SFl.pub:=by simp [mountA]
 have hb:=h.blk
 have hu:=h.good.used
 refine ⟨⟨hS,hk,hkF,hF,hk1,ht,e1,rfl,by rw [total_mount]; rfl,rfl,⟨hb.1,hb.2.1,hb.2.2.1,rfl⟩,by omega⟩,⟨rfl,e1,rfl,rfl,?_,⟨hb.1,hb.2.1,hb.2.2.1,rfl⟩,by omega,h.good⟩⟩
 show ((usedN l l.length:Nat):Int) ≤ _
 omega
end
end Go.Proofs.YthehcjjckabljaaGreatDoor
