import Derived.Test.YthehcjjckabljaaGreatDoorC27
namespace Go.Proofs.YthehcjjckabljaaGreatDoor
open Go.RowKit Go.Deep
set_option maxRecDepth 100000
set_option linter.unusedSimpArgs false
set_option linter.unusedVariables false
section
variable {w:World} {fv:Value} {l:List SFl} {b:Int} {D:List Nat}
def FindIs (l:List SFl) (nm:List UInt8) (r:Int):Prop:=(r = -1 ∧ ∀ e ∈ l,e.name ≠ nm) ∨ ∃ (k:Nat) (e:SFl),r = k ∧ l[k]? = some e ∧ e.name = nm ∧ ∀ j (f:SFl),j < k → l[j]? = some f → f.name ≠ nm
set_option maxHeartbeats 4000000 in
theorem rfind_any (h:StD w D fv l) (hl:l.length ≤ 1048576) (n:List UInt8):Calls Tryz.prog 63 #[.agg #[.int .i64 b,fv],.string (bs n)] w fun e w'=>∃ r:Int,e = .returned (.int .i64 r) ∧ FindIs l n r ∧ Tc [] w w':=by
 obtain ⟨fa,fc,rfl⟩:=h.sl
 have HH:=hid (fun W (tt:Tc [] w W)=>h.touch tt (fun y hy=>by cases hy))
 clear h
 go_enter Tryz.func63,Tryz.ntmps63
 go_upto_region 1 with fail
 obtain ⟨W1,hW1⟩:∃ W1,W1 = w.alloc (.cells #[.int .i64 b,.slice fa l.length fc] 42):=⟨_,rfl⟩
 have t1:Tc [] w W1:=by rw [hW1]; exact (Tc.refl [] w).alloc _
 have r1:W1.heap[w.heap.size]? = some (.cells #[.int .i64 b,.slice fa l.length fc] 42 (0,0)):=by rw [hW1]; exact heap_alloc_new w _
 rw [← hW1]
 have HT1:=hid t1
 have c1:=cRw r1
 have HS:=HH.out W1 t1
 clear hW1 t1 r1
 generalize w.heap.size = bx at *
 go_wp2_with fail
 go_loop [5] (fun i=>∃ k:Nat,k ≤ l.length ∧ i = .int .i64 k ∧ Hid (∀ j (f:SFl),j < k → l[j]? = some f → f.name ≠ n)) (fun i=>l.length - (intOf i).toNat)
 case atStart=>exact ⟨0,Nat.zero_le _,rfl,hid (fun j f hj=>absurd hj (by omega))⟩
 case round =>
  obtain ⟨k,hk,rfl,HA⟩:=hrel
  by_cases hlt:k < l.length
  ·obtain ⟨e,he⟩:∃ e,e = l[k]:=⟨_,rfl⟩
   have hge:l[k]? = some e:=by rw [he]; exact List.getElem?_eq_getElem hlt
   obtain ⟨a,c',hfa,_,hal,c0',_,_,_⟩:=HS.at_ k e hge
   injection hfa with e1 e2 e3
   subst e1
   subst e3
   have hki:(k:Int) < (l.length:Int):=by omega
   have hbe:((bs e.name).toList == (bs n).toList) = (e.name == n):=by
    have h:∀ l:List UInt8,(bs l).toList = l:=fun l=>ByteArray.toList_mk l
    rw [h,h]
   have c0:W1.cell? (a.add (k * 3)) = some (.string (bs e.name)):=c0'
   clear c0'
   have HG:=hid hge
   clear hge he hal
   cases hc:(e.name == n) with
   | true =>
    rw [hc] at hbe
    have HN:=hid (show e.name = n by simpa using hc)
    clear hc
    go_wp2_with fail
    go_ret
    exact ⟨_,rfl,.inr ⟨k,e,rfl,HG.out,HN.out,HA.out⟩,HT1.out⟩
   | false =>
    rw [hc] at hbe
    have HN:=hid (show e.name ≠ n by simpa using hc)
    clear hc
    go_wp2_with fail
    refine ⟨⟨k + 1,hlt,rfl,hid (fun j f hj hf=>?_)⟩,by simp [intOf]; omega⟩
    by_cases hjk:j = k
    ·subst hjk
     rw [HG.out] at hf
     cases hf
     exact HN.out
    ·exact HA.out j f (by omega) hf
  ·obtain rfl:k = l.length:=by omega
   go_wp2_with fail
   go_ret
   refine ⟨_,rfl,.inl ⟨rfl,fun e he=>?_⟩,HT1.out⟩
   obtain ⟨j,hj,rfl⟩:=List.getElem_of_mem he
   exact HA.out j _ hj (List.getElem?_eq_getElem hj)
theorem rise_few:∀ {m R:List Nat},m.Pairwise (· < ·) → (∀ x ∈ m,x ∈ R) → m.length ≤ R.length
 | [],R,_,_=>Nat.zero_le _
 | a :: t,R,hp,hs=>by
  rw [List.pairwise_cons] at hp
  have ha:a ∈ R:=hs a (by simp)
  have h1:=rise_few (R:=R.erase a) hp.2 (fun x hx=>(List.mem_erase_of_ne (by have:=hp.1 x hx; omega)).2 (hs x (by simp [hx])))
  rw [List.length_erase_of_mem ha] at h1
  have h2:0 < R.length:=List.length_pos_of_mem ha
  simp only [List.length_cons]
  omega
structure SrtIs (R m:List Nat):Prop where
 rise:m.Pairwise (· < ·)
 mem:∀ x ∈ m,x ∈ R
 all:∀ x ∈ R,(∃ y ∈ m,x ≤ y) → x ∈ m
def BestIs (R m:List Nat) (i best:Nat) (more:Bool):Prop:=
 if more = true then best ∈ R.take i ∧ (∀ y ∈ m,y < best) ∧ ∀ x ∈ R.take i,(∀ y ∈ m,y < x) → best ≤ x
 else ∀ x ∈ R.take i,∃ y ∈ m,x ≤ y
theorem SrtIs.app {R m:List Nat} {best:Nat} (h:SrtIs R m) (hb:BestIs R m R.length best true):SrtIs R (m ++ [best]):=by
 unfold BestIs at hb
 rw [if_pos rfl,List.take_length] at hb
 obtain ⟨h1,h2,h3⟩:=hb
 refine ⟨?_,fun x hx=>?_,fun x hx ⟨y,hy,hxy⟩=>?_⟩
 ·rw [List.pairwise_append]
  exact ⟨h.rise,List.pairwise_singleton _ _,fun a ha b hb=>by rw [List.mem_singleton] at hb; subst hb; exact h2 a ha⟩
 ·rcases List.mem_append.1 hx with hx | hx
  ·exact h.mem x hx
  ·rw [List.mem_singleton] at hx; subst hx; exact h1
 ·by_cases hq:∃ y ∈ m,x ≤ y
  ·exact List.mem_append_left _ (h.all x hx hq)
  ·have h4:∀ y ∈ m,y < x:=fun y hy=>Nat.lt_of_not_le (fun h=>hq ⟨y,hy,h⟩)
   have h5:=h3 x hx h4
   rcases List.mem_append.1 hy with hy | hy
   ·exact absurd ⟨y,hy,hxy⟩ hq
   ·rw [List.mem_singleton] at hy
    subst hy
    exact List.mem_append_right _ (by rw [List.mem_singleton]; omega)
theorem SrtIs.whole {R m:List Nat} {best:Nat} (h:SrtIs R m) (hb:BestIs R m R.length best false):∀ x,x ∈ m ↔ x ∈ R:=fun x=>by
 unfold BestIs at hb
 rw [if_neg (by decide),List.take_length] at hb
 exact ⟨h.mem x,fun hx=>h.all x hx (hb x hx)⟩
theorem pair_last {m:List Nat} (h:m.Pairwise (· < ·)) {y:Nat} (hy:y ∈ m) (h0:0 < m.length):y ≤ m[m.length - 1]:=by
 obtain ⟨i,hi,rfl⟩:=List.getElem_of_mem hy
 by_cases he:i = m.length - 1
 ·subst he; exact Nat.le_refl _
 ·exact Nat.le_of_lt (List.pairwise_iff_getElem.1 h i (m.length - 1) hi (by omega) (by omega))
theorem last_all {m:List Nat} (h:m.Pairwise (· < ·)) (h0:0 < m.length) {x:Nat}:(∀ y ∈ m,y < x) ↔ m[m.length - 1] < x:=
 ⟨fun hx=>hx _ (List.getElem_mem _),fun hx y hy=>Nat.lt_of_le_of_lt (pair_last h hy h0) hx⟩
end
theorem BestIs.took {R m:List Nat} {k best f:Nat} {mo:Bool} (h:BestIs R m k best mo) (hk:R[k]? = some f) (hf:∀ y ∈ m,y < f) (hb:mo = true → f < best):BestIs R m (k + 1) f true:=by
 obtain ⟨hlt,hR⟩:=List.getElem?_eq_some_iff.1 hk
 have ht:R.take (k + 1) = R.take k ++ [f]:=by rw [List.take_succ_eq_append_getElem hlt,hR]
 unfold BestIs at h ⊢
 rw [if_pos rfl,ht]
 refine ⟨by simp,hf,fun x hx hy=>?_⟩
 rcases List.mem_append.1 hx with hx | hx
 ·cases mo with
  | true =>
   rw [if_pos rfl] at h
   have:=h.2.2 x hx hy
   have:=hb rfl
   omega
  | false =>
   rw [if_neg (by decide)] at h
   obtain ⟨y,h1,h2⟩:=h x hx
   have:=hy y h1
   omega
 ·rw [List.mem_singleton] at hx
  omega
theorem BestIs.pass {R m:List Nat} {k best f:Nat} {mo:Bool} (h:BestIs R m k best mo) (hk:R[k]? = some f) (hn:(∃ y ∈ m,f ≤ y) ∨ (mo = true ∧ best ≤ f)):BestIs R m (k + 1) best mo:=by
 obtain ⟨hlt,hR⟩:=List.getElem?_eq_some_iff.1 hk
 have ht:R.take (k + 1) = R.take k ++ [f]:=by rw [List.take_succ_eq_append_getElem hlt,hR]
 unfold BestIs at h ⊢
 rw [ht]
 cases mo with
 | true =>
  rw [if_pos rfl] at h ⊢
  refine ⟨List.mem_append_left _ h.1,h.2.1,fun x hx hy=>?_⟩
  rcases List.mem_append.1 hx with hx | hx
  ·exact h.2.2 x hx hy
  ·rw [List.mem_singleton] at hx
   subst hx
   rcases hn with ⟨y,h1,h2⟩ | ⟨_,h2⟩
   ·have:=hy y h1; omega
   ·exact h2
 | false =>
  rw [if_neg (by decide)] at h ⊢
  intro x hx
  rcases List.mem_append.1 hx with hx | hx
  ·exact h x hx
  ·rw [List.mem_singleton] at hx
   subst hx
   rcases hn with h2 | ⟨h2,_⟩
   ·exact h2
   ·cases h2
theorem BestIs.start (R m:List Nat):BestIs R m 0 0 false:=by
 unfold BestIs
 rw [if_neg (by decide)]
 intro x hx
 cases hx
def numC (l:List Nat):List Value:=l.map fun u:Nat=>.int .u64 (u:Int)
theorem info24:(Tryz.prog.info? 24).map (fun i=>(i.zero,i.size,i.bytes)) = some (some (.int .u64 0),1,8):=by kernel_rfl
theorem wpList_num (w:World) {ops:Array Oper} {rest:List Oper} {o:Oper} {a:Act} {Q:Exit → Act → World → Prop} (hgd:o.guard = none) (s x:Operand)
  (hop:o.op = Op.call { callee:=Callee.builtin Builtin.append,args:=#[s,x],argTypes:=#[120,120] })
  (base:Nat) (v:Value) (n:Nat) (xs:List Value) (b:Nat) (c0:Value) (hs:a.eval s = v) (hx:a.eval x = .slice (some ⟨b,0,none⟩) 1 1) (hown:w.ownsRow base 24 1 v n xs) (hb:w.heap[b]? = some (.cells #[c0] 24 (0,0))) (h0:c0.oneCell' = true) (hn:n ≤ 1099511627776) (hbase:base ≤ w.heap.size)
  (hK:∀ v' w',w'.ownsRow base 24 1 v' (n + 1) (xs ++ [c0]) → Below base w w' → wpList Tryz.prog ops Q rest (a.put o.dst v') w'):wpList Tryz.prog ops Q (o :: rest) a w:=by
 refine wpList_plain hgd fun K' hK'=>?_
 obtain ⟨i,hi,hz0,hz1,hz2⟩:=info_parts info24
 have hnews:∀ j u,[c0][j]? = some u → w.cell? ((⟨b,0,none⟩:Addr).add j) = some u:=by
  intro j u hu
  have hadd:(⟨b,0,none⟩:Addr).add j = ⟨b,j,none⟩:=by unfold Addr.add; split <;> simp_all
  rw [hadd,cRw hb j]
  simpa using hu
 obtain ⟨v',w',hrun,ho,hg,_⟩:=run_append_own (P:=Tryz.prog) w base 120 o.type 24 i _ 1 8 Tryz.underlying120 hi hz0 hz1 hz2 rfl (by decide) v n xs hown ⟨b,0,none⟩ 1 1 [c0] rfl hnews (by simp [h0]) (by unfold maxLen; omega) (by omega) hbase
 have hbw:Below base w w':=(Below.refl _ w).grown hg hbase (fun k hk=>(hown.lt k hk).1)
 unfold Oper.wp
 simp [execOp,hop,resolve,invoke,builtin,hs,hx,hrun,Result.andThen]
 exact hK' _ _ (hK v' w' ho hbw)
def sliceN:Value → Nat
 | .slice _ n _=>n
 | _=>0
section
variable {w:World} {t:Tbl} {so sr:Option Addr} {co cr:Nat}
set_option maxHeartbeats 8000000 in
theorem rsorted_any (h:TblAt w t so sr) :
  Calls Tryz.prog 61 #[tblV t so sr co cr] w fun e w'=>∃ v m,e = .returned v ∧ w'.ownsRow w.heap.size 24 1 v m.length (numC m) ∧ m.Pairwise (· < ·) ∧ (∀ x,x ∈ m ↔ x ∈ t.rows.map Prod.snd) ∧ Tc [] w w':=by
 have HH:=hid (fun W (tt:Tc [] w W)=>h.touch tt (by simp) (by simp))
 have hrl:=h.rl
 have HRI:=hid (fun x hx=>(h.ri x hx).2)
 obtain ⟨Wb,hWb⟩:∃ Wb,Wb = w.alloc (.cells #[.int .i64 t.vars,.slice so t.order.length co,.slice sr t.rows.length cr,.int .i64 t.next,.int .u64 (t.nf:Int)] 26):=⟨_,rfl⟩
 have tb:Tc [] w Wb:=by rw [hWb]; exact (Tc.refl [] w).alloc _
 have hrb:Wb.heap[w.heap.size]? = some (.cells #[.int .i64 t.vars,.slice so t.order.length co,.slice sr t.rows.length cr,.int .i64 t.next,.int .u64 (t.nf:Int)] 26 (0,0)):=by rw [hWb]; exact heap_alloc_new w _
 have hbs:Wb.heap.size = w.heap.size + 1:=by rw [hWb]; simp
 have HBX:=hid (fun W (bb:Below Wb.heap.size Wb W)=>fun i=>cRw ((bb.block _ (ltB hrb)).trans hrb) i)
 have HTB:=hid tb
 have HWB:=hid hWb
 clear h tb hrb hWb
 obtain ⟨R,hR⟩:∃ R,R = t.rows.map Prod.snd:=⟨_,rfl⟩
 rw [← hR]
 have HR:=hid hR
 have HRL:=hid (show R.length = t.rows.length by rw [hR,List.length_map])
 clear hR
 simp only [tblV] at *
 go_enter Tryz.func61,Tryz.ntmps61
 go_upto_region 1 with fail
 rw [← HWB.out]
 generalize hbx:w.heap.size = bx at *
 have HBN:=hid hbx
 clear hbx
 go_wp2_with fail
 go_loopw [3] (fun v W=>∃ m:List Nat,Hid (SrtIs R m) ∧ Hid (W.ownsRow Wb.heap.size 24 1 v m.length (numC m)) ∧ Hid (Below Wb.heap.size Wb W)) (fun v _=>t.rows.length + 1 - sliceN v)
 case atStart=>exact ⟨[],hid ⟨List.Pairwise.nil,fun x hx=>(by cases hx),fun x hx ⟨y,hy,_⟩=>(by cases hy)⟩,hid (World.ownsRow_nil _ _ _ _),hid (Below.refl _ _)⟩
 case round =>
  obtain ⟨m,HS,HV,HT⟩:=hrel
  obtain ⟨va,vc,rfl⟩:=oSC HV.out
  have hml:m.length ≤ 1048576:=by
   have h1:=rise_few HS.out.rise HS.out.mem
   have h2:=HRL.out
   omega
  obtain ⟨w3,hw3⟩:∃ w3,w3 = wr:=⟨_,rfl⟩
  subst hw3
  go_wp2_with fail
  go_loopw [4,5,6] (fun bv mv i W=>∃ (k best:Nat) (mo:Bool),k ≤ t.rows.length ∧ i = .int .i64 k ∧ bv = .int .u64 (best:Int) ∧ mv = .bool mo ∧ Hid (BestIs R m k best mo) ∧ Hid (Tc [] w3 W)) (fun _ _ i _=>t.rows.length - (intOf i).toNat)
  case atStart=>exact ⟨0,0,false,Nat.zero_le _,rfl,rfl,rfl,hid (BestIs.start _ _),hid (Tc.refl _ _)⟩
  case round =>
   obtain ⟨k,best,mo,hk,rfl,rfl,rfl,HB,HT2⟩:=hrel
   have HTB2:=hid (show Below Wb.heap.size Wb wr from HT.out.trans (HT2.out.below HT.out.size (fun b hb=>by cases hb)))
   have cb:=HBX.out wr HTB2.out
   have HTW:=hid (HTB.out.trans (Tc.of_below (F:=[]) HTB2.out (Nat.le_refl _)) (by simp))
   have HV2:=hid (oTG HV.out HT2.out (fun y _ hy=>by cases hy))
   by_cases hlt:k < t.rows.length
   ·obtain ⟨a,rfl,hab,c0,c1⟩:=(HH.out _ HTW.out).rows.at_ k hlt
    have HRK:=hid (show R[k]? = some t.rows[k].2 by rw [HR.out,List.getElem?_map,List.getElem?_eq_getElem hlt]; rfl)
    have hf0:=HRI.out _ (List.getElem_mem hlt)
    clear hab
    generalize t.rows[k] = x at *
    obtain ⟨x0,f⟩:=x
    dsimp only at c0 c1 HRK hf0
    have hki:(k:Int) < (t.rows.length:Int):=by omega
    have HSTEP:=hid (fun (best':Nat) (mo':Bool) (hb:BestIs R m (k + 1) best' mo')=>(by
     exact ⟨⟨k + 1,best',mo',hlt,rfl,rfl,rfl,hid hb,HT2⟩,by simp [intOf]; omega⟩:(∃ (k2 best:Nat) (mo:Bool),k2 ≤ t.rows.length ∧ Value.int .i64 ((k:Int) + 1) = .int .i64 k2 ∧ Value.int .u64 (best':Int) = .int .u64 (best:Int) ∧ Value.bool mo' = .bool mo ∧ Hid (BestIs R m k2 best mo) ∧ Hid (Tc [] w3 wr)) ∧ t.rows.length - (intOf (Value.int .i64 ((k:Int) + 1))).toNat < t.rows.length - (intOf (Value.int .i64 (k:Int))).toNat))
    rcases Nat.eq_zero_or_pos m.length with hm0 | hm0
    ·obtain rfl:m = []:=List.eq_nil_of_length_eq_zero hm0
     have hall:∀ y ∈ ([]:List Nat),y < f:=fun y hy=>by cases hy
     cases mo with
     | false =>
      have HN:=hid (HB.out.took HRK.out hall (fun h=>by cases h))
      clear hall hm0
      go_wp2_with fail
      exact HSTEP.out _ _ HN.out
     | true =>
      by_cases hfb:f < best
      ·have HN:=hid (HB.out.took HRK.out hall (fun _=>hfb))
       have hfi:(f:Int) < (best:Int):=by omega
       clear hall hm0
       go_wp2_with fail
       exact HSTEP.out _ _ HN.out
      ·have HN:=hid (HB.out.pass HRK.out (.inr ⟨rfl,by omega⟩))
       have hfi:¬ (f:Int) < (best:Int):=by omega
       clear hall hm0
       go_wp2_with fail
       exact HSTEP.out _ _ HN.out
    ·obtain ⟨q,hq⟩:∃ q,m.length = q + 1:=⟨m.length - 1,by omega⟩
     obtain ⟨g,c,hgv,hgl,hgc⟩:=own_block HV2.out hm0
     injection hgv with e1 e2 e3
     subst e1
     subst e3
     have hql:q < m.length:=by omega
     obtain ⟨last,hla⟩:∃ last,last = m[q]:=⟨_,rfl⟩
     have hlg:m[q]? = some last:=by rw [hla]; exact List.getElem?_eq_getElem hql
     have cl:wr.cell? ⟨g,q,none⟩ = some (.int .u64 (last:Int)):=by
      have:=HV2.out.cells (g:=g) rfl q (.int .u64 (last:Int)) (by unfold numC; rw [List.getElem?_map,hlg]; rfl)
      rw [azA] at this
      exact this
     have hla2:m[m.length - 1] = last:=by rw [hla]; congr 1; omega
     have HALL:=hid (show (∀ y ∈ m,y < f) ↔ last < f by rw [last_all HS.out.rise hm0,hla2])
     have HLM:=hid (show last ∈ m by rw [hla]; exact List.getElem_mem hql)
     have hn0:¬ (m.length:Int) = 0:=by omega
     have hn1:((m.length:Int) == 0) = false:=beq_false_of_ne hn0
     have hidx:IntKind.i64.wrap ((m.length:Int) - 1) = (q:Int):=by rw [IntKind.wrap_i64]; omega
     have hqi:(q:Int) < (m.length:Int):=by omega
     have hq0:q ≤ 1048576:=by omega
     clear hq hgl hgc hla hlg hla2 hm0
     by_cases hfl:last < f
     ·have hfi:(last:Int) < (f:Int):=by omega
      cases mo with
      | false =>
       have HN:=hid (HB.out.took HRK.out (HALL.out.2 hfl) (fun h=>by cases h))
       clear hfl
       go_wp2_with fail
       exact HSTEP.out _ _ HN.out
      | true =>
       by_cases hfb:f < best
       ·have HN:=hid (HB.out.took HRK.out (HALL.out.2 hfl) (fun _=>hfb))
        have hfj:(f:Int) < (best:Int):=by omega
        clear hfl hfb
        go_wp2_with fail
        exact HSTEP.out _ _ HN.out
       ·have HN:=hid (HB.out.pass HRK.out (.inr ⟨rfl,by omega⟩))
        have hfj:¬ (f:Int) < (best:Int):=by omega
        clear hfl hfb
        go_wp2_with fail
        exact HSTEP.out _ _ HN.out
     ·have hfi:¬ (last:Int) < (f:Int):=by omega
      have HN:=hid (HB.out.pass HRK.out (.inl ⟨last,HLM.out,by omega⟩))
      clear hfl
      cases mo <;> (
       go_wp2_with fail
       exact HSTEP.out _ _ HN.out)
   ·obtain rfl:k = t.rows.length:=by omega
    have HBE:=hid (show BestIs R m R.length best mo by rw [HRL.out]; exact HB.out)
    have hsz:=HTB2.out.size
    cases mo with
    | false =>
     go_wp2_with fail
     go_ret
     exact ⟨_,m,rfl,own_lower HV2.out (by rw [hbs,HBN.out]; omega),HS.out.rise,SrtIs.whole HS.out HBE.out,HTW.out⟩
    | true =>
     go_wp2_with (at_builtin; refine wpList_num _ rfl _ _ rfl Wb.heap.size (.slice va m.length vc) m.length (numC m) wr.heap.size (.int .u64 (best:Int)) rfl rfl (HV2.out.alloc _) (heap_alloc_new wr _) rfl (by omega) (by simp; omega) ?_; intro v5 w5 o5 b5; have HO5:=hid o5; have HB5:=hid b5; obtain ⟨a5,c5,e5⟩:=oSC o5; subst e5; clear o5 b5)
     have HS2:=SrtIs.app HS.out HBE.out
     have hlt2:m.length + 1 ≤ t.rows.length:=by
      have h1:=rise_few HS2.rise HS2.mem
      rw [List.length_append,HRL.out] at h1
      exact h1
     refine ⟨⟨m ++ [best],hid HS2,hid ?_,hid ((HTB2.out.alloc HTB2.out.size _).trans HB5.out)⟩,by simp [sliceN]; omega⟩
     rw [List.length_append]
     unfold numC
     rw [List.map_append]
     exact HO5.out
end
theorem hexC_lt:∀ i,i < 16 → ∀ j,j < 16 → i < j → PureHex.hexC i < PureHex.hexC j:=by decide
theorem lt_append:∀ {a b x y:List UInt8},a.length = b.length → a < b → a ++ x < b ++ y
 | [],[],x,y,_,h=>absurd h (by decide)
 | [],_ :: _,_,_,h,_=>by cases h
 | _ :: _,[],_,_,h,_=>by cases h
 | a :: s,b :: t,x,y,hl,h=>by
  rw [List.cons_lt_cons_iff] at h
  rw [List.cons_append,List.cons_append,List.cons_lt_cons_iff]
  rcases h with h | ⟨h1,h2⟩
  ·exact .inl h
  ·exact .inr ⟨h1,lt_append (by simpa using hl) h2⟩
theorem lt_front:∀ (a:List UInt8) {x y:List UInt8},x < y → a ++ x < a ++ y
 | [],_,_,h=>h
 | c :: s,x,y,h=>by
  rw [List.cons_append,List.cons_append,List.cons_lt_cons_iff]
  exact .inr ⟨rfl,lt_front s h⟩
theorem hexW_lt:∀ (n u v:Nat),u < v → v < 16 ^ n → PureHex.hexW n u < PureHex.hexW n v
 | 0,u,v,h,hv=>by simp at hv; omega
 | n + 1,u,v,h,hv=>by
  have hq:v / 16 < 16 ^ n:=Nat.div_lt_of_lt_mul (by rw [Nat.pow_succ,Nat.mul_comm] at hv; exact hv)
  rw [PureHex.hexW,PureHex.hexW]
  by_cases he:u / 16 = v / 16
  ·rw [he]
   apply lt_front
   rw [List.cons_lt_cons_iff]
   exact .inl (hexC_lt _ (Nat.mod_lt _ (by decide)) _ (Nat.mod_lt _ (by decide)) (by omega))
  ·exact lt_append (by rw [PureHex.hexW_len,PureHex.hexW_len]) (hexW_lt n _ _ (by omega) hq)
theorem fileN_lt {u v:Nat} (h:u < v) (hv:v < 18446744073709551616):fileN u < fileN v:=by
 unfold fileN
 exact lt_front _ (hexW_lt 16 u v h (by omega))
theorem sortU_files {rows:List (Int × Nat)} {m:List Nat} (hm:m.Pairwise (· < ·)) (hx:∀ x,x ∈ m ↔ x ∈ rows.map Prod.snd) (hr:∀ x ∈ rows,x.2 < 18446744073709551616):sortU (filesN rows) = m.map fun u=>bs (fileN u):=by
 have hb:∀ x ∈ m,x < 18446744073709551616:=fun x h=>by
  obtain ⟨y,hy,rfl⟩:=List.mem_map.1 ((hx x).1 h)
  exact hr y hy
 have hp:(m.map fileN).Pairwise (· < ·):=by
  rw [List.pairwise_map]
  exact hm.imp_of_mem (fun {a b} ha hb' hab=>fileN_lt hab (hb b hb'))
 have hnd:(m.map fileN).Nodup:=hp.imp (fun {a b} hab e=>by subst e; exact List.lt_irrefl _ hab)
 have hperm:(uniq (filesN rows)).Perm (m.map fileN):=by
  rw [List.perm_ext_iff_of_nodup (nodup_uniq _) hnd]
  intro a
  rw [mem_uniq]
  unfold filesN
  constructor
  ·intro h
   obtain ⟨y,hy,rfl⟩:=List.mem_map.1 h
   exact List.mem_map.2 ⟨y.2,(hx _).2 (List.mem_map.2 ⟨y,hy,rfl⟩),rfl⟩
  ·intro h
   obtain ⟨u,hu,rfl⟩:=List.mem_map.1 h
   obtain ⟨y,hy,rfl⟩:=List.mem_map.1 ((hx u).1 hu)
   exact List.mem_map.2 ⟨y,hy,rfl⟩
 unfold sortU
 rw [mergeSort_of_perm hperm,List.mergeSort_of_pairwise (hp.imp (fun {a b} hab=>by simpa using List.le_of_lt hab)),List.map_map]
 rfl
def fileE (l:List (List UInt8 × FlA)) (nm:List UInt8):Int:=match findA l nm with
 | none=>12
 | some f=>if f.shut then 0 else 15
def filesE (l:List (List UInt8 × FlA)):List Nat → Int
 | []=>0
 | u :: r=>if fileE l (fileN u) ≠ 0 then fileE l (fileN u) else filesE l r
def overL (l:List (List UInt8 × FlA)) (gen:Nat):Bool:=l.any fun e=>decide (gen < genN e.1)
def mayE (l:List (List UInt8 × FlA)) (t:Tbl) (gen:Nat) (m:List Nat):Int:=if fmB t = false then 170 else if gen = 18446744073709551615 then 7 else if overL l gen then 13 else filesE l m
theorem fileE_read {A:PubA} (ho:A.on = true) (u:Nat):readE A (bs (fileN u)) = fileE A.files (fileN u):=by
 unfold readE lnB lengthA fileE
 rw [if_pos ho,if_pos (nameFile u),show nm (bs (fileN u)) = fileN u from rfl]
 cases h:findA A.files (fileN u) with
 | none=>rfl
 | some f=>cases hs:f.shut <;> simp [readOf,hs]
theorem filesE_ready {A:PubA} (ho:A.on = true) (m:List Nat):readyE A (m.map fun u=>bs (fileN u)) [] = filesE A.files m:=by
 have hin:∀ m:List Nat,readyIn A (m.map fun u=>bs (fileN u)) = filesE A.files m:=fun m=>by
  induction m with
  | nil=>rfl
  | cons u r ih =>
   show (if readE A (bs (fileN u)) ≠ 0 then readE A (bs (fileN u)) else readyIn A (r.map fun u=>bs (fileN u))) = _
   rw [fileE_read ho,ih]
   rfl
 unfold readyE
 rw [if_neg (by simp [ho]),if_neg (by simp [readyOut]),hin]
theorem overL_A {A:PubA} (ho:A.on = true) (gen:Nat):overA A gen = overL A.files gen:=by
 unfold overA overL namesA
 rw [if_pos ho,List.any_map]
 rfl
theorem mayE_code {A:PubA} (ho:A.on = true) {t:Tbl} {gen:Nat} {m:List Nat} (hm:m.Pairwise (· < ·)) (hx:∀ x,x ∈ m ↔ x ∈ t.rows.map Prod.snd) (hr:∀ x ∈ t.rows,x.2 < 18446744073709551616) :
  mayE A.files t gen m = if refuseE (overA A gen) t gen ≠ 0 then refuseE (overA A gen) t gen else readyE A (sortU (filesN t.rows)) []:=by
 rw [sortU_files hm hx hr,filesE_ready ho,overL_A ho]
 unfold mayE refuseE
 by_cases h1:fmB t = false
 ·simp [h1]
 ·by_cases h2:gen = 18446744073709551615
  ·simp [h1,h2]
  ·cases h3:overL A.files gen <;> simp [h1,h2,h3]
theorem before_total {a b:List UInt8} (h:bytesBefore b a = false) (hn:b ≠ a):bytesBefore a b = true:=ahead (by rw [less_before,h]; simpa using hn)
theorem before_iff {a b:List UInt8}:bytesBefore a b = true ↔ a < b:=⟨before_lt a b,fun h=>by
 cases hb:bytesBefore b a with
 | true=>exact absurd (before_lt b a hb) (List.lt_asymm h)
 | false=>exact before_total hb (fun e=>by subst e; exact List.lt_irrefl _ h)⟩
theorem before_trans {a b c:List UInt8} (h1:bytesBefore a b = true) (h2:bytesBefore b c = true):bytesBefore a c = true:=before_iff.2 (List.lt_trans (before_iff.1 h1) (before_iff.1 h2))
abbrev RiseS (l:List SFl):Prop:=l.Pairwise fun a b=>bytesBefore a.name b.name = true
theorem insF_rise {e:SFl}:∀ {l:List SFl},RiseS l → (∀ x ∈ l,x.name ≠ e.name) → RiseS (insF e l)
 | [],_,_=>List.pairwise_singleton _ _
 | x :: t,h,hn=>by
  have h':=List.pairwise_cons.1 h
  unfold insF
  split
  ·next hb =>
   refine List.pairwise_cons.2 ⟨fun y hy=>?_,h⟩
   rcases List.mem_cons.1 hy with rfl | hy
   ·exact hb
   ·exact before_trans hb (h'.1 y hy)
  ·next hb =>
   refine List.pairwise_cons.2 ⟨fun y hy=>?_,insF_rise h'.2 (fun y hy=>hn y (by simp [hy]))⟩
   rcases insF_mem.1 hy with rfl | hy
   ·exact before_total (by simpa using hb) (fun e=>hn x (by simp) e.symm)
   ·exact h'.1 y hy
theorem sortF_rise {l:List SFl} (h:(l.map SFl.name).Nodup):RiseS (sortF l):=by
 have hf:∀ (l acc:List SFl),RiseS acc → (l.map SFl.name).Nodup → (∀ e ∈ l,∀ x ∈ acc,x.name ≠ e.name) → RiseS (l.foldl (fun acc e=>insF e acc) acc):=fun l=>by
  induction l with
  | nil=>intro acc h _ _; exact h
  | cons e t ih =>
   intro acc h1 h2 h3
   rw [List.map_cons,List.nodup_cons] at h2
   refine ih _ (insF_rise h1 (h3 e (by simp))) h2.2 (fun y hy x hx=>?_)
   rcases insF_mem.1 hx with rfl | hx
   ·exact fun e9=>h2.1 (List.mem_map.2 ⟨y,hy,e9.symm⟩)
   ·exact h3 y (by simp [hy]) x hx
 exact hf l [] List.Pairwise.nil h (fun e he x hx=>by cases hx)
theorem stP_of {B:Nat} {l:List Thg}:(∀ p ∈ stP B l,∃ x ∈ l,p = thFile B x) ∧ ((stP B l).map Prod.fst).Nodup:=by
 have hf:∀ (l:List Thg) (acc:List (List UInt8 × FlA)),(acc.map Prod.fst).Nodup → (∀ p ∈ l.foldl (fun acc x=>if hasN acc (thName x) = true then acc else acc ++ [thFile B x]) acc,p ∈ acc ∨ ∃ x ∈ l,p = thFile B x) ∧ ((l.foldl (fun acc x=>if hasN acc (thName x) = true then acc else acc ++ [thFile B x]) acc).map Prod.fst).Nodup:=fun l=>by
  induction l with
  | nil=>intro acc h; exact ⟨fun p hp=>.inl hp,h⟩
  | cons x t ih =>
   intro acc h
   simp only [List.foldl_cons]
   split
   ·obtain ⟨h1,h2⟩:=ih acc h
    refine ⟨fun p hp=>?_,h2⟩
    rcases h1 p hp with h9 | ⟨y,hy,e⟩
    ·exact .inl h9
    ·exact .inr ⟨y,by simp [hy],e⟩
   ·next hn =>
    have hnd:((acc ++ [thFile B x]).map Prod.fst).Nodup:=by
     rw [List.map_append,List.nodup_append]
     refine ⟨h,by simp,fun a ha b hb e=>?_⟩
     simp only [List.map_cons,List.map_nil,List.mem_singleton] at hb
     subst e
     subst hb
     apply hn
     obtain ⟨p,hp,hp2⟩:=List.mem_map.1 ha
     unfold hasN
     rw [List.any_eq_true]
     exact ⟨p,hp,by rw [hp2]; simp [thFile]⟩
    obtain ⟨h1,h2⟩:=ih _ hnd
    refine ⟨fun p hp=>?_,h2⟩
    rcases h1 p hp with h9 | ⟨y,hy,e⟩
    ·rcases List.mem_append.1 h9 with h9 | h9
     ·exact .inl h9
     ·rw [List.mem_singleton] at h9
      exact .inr ⟨x,by simp,h9⟩
    ·exact .inr ⟨y,by simp [hy],e⟩
 obtain ⟨h1,h2⟩:=hf l [] (by simp)
 refine ⟨fun p hp=>?_,h2⟩
 rcases h1 p hp with h | h
 ·cases h
 ·exact h
theorem stray_nameB:∀ r,r < 10 → nameB (bs (strayL r)) = true:=by
 intro r hr
 match r,hr with
 | 0,_=>decide
 | 1,_=>decide
 | 2,_=>decide
 | 3,_=>decide
 | 4,_=>decide
 | 5,_=>decide
 | 6,_=>decide
 | 7,_=>decide
 | 8,_=>decide
 | 9,_=>decide
theorem thName_ok (x:Thg):nameB (bs (thName x)) = true:=by
 unfold thName
 split
 ·exact nameCat _
 ·split
  ·exact stray_nameB _ (Nat.mod_lt _ (by decide))
  ·exact nameFile _
def Few (x:Thg):Prop:=x.t.order.length ≤ 1048576 ∧ x.t.rows.length ≤ 1048576
theorem thBlocks_ok {B:Nat} (hB:64 ≤ B ∧ B % 32 = 0) {x:Thg} (hx:Few x):(thBlocks B x).length ≤ 2097153 ∧ ∀ d ∈ thBlocks B x,d.length = B:=by
 have hchunk:∀ (K j:Nat) (l:List Rc),(chunk K j l).length ≤ K:=fun K j l=>by unfold chunk; rw [List.length_take]; omega
 unfold thBlocks
 split
 ·have hl:(recsN x.t x.gen).length ≤ 2097153:=by rw [recsN_len]; have:=hx.1; have:=hx.2; omega
  generalize recsN x.t x.gen = l at *
  refine ⟨?_,fun d hd=>?_⟩
  ·rw [blocksOf_length]
   refine Nat.le_trans ?_ hl
   unfold nBk
   rcases Nat.eq_zero_or_pos l.length with h0 | h0
   ·rw [h0]
    have:(0 + (B / 32 - 1) - 1) / (B / 32 - 1) = 0:=Nat.div_eq_of_lt (by omega)
    omega
   ·apply Nat.div_le_of_le_mul
    have h1:1 ≤ B / 32 - 1:=by omega
    have h2:(B / 32 - 1) * l.length = (B / 32 - 1) * (l.length - 1) + (B / 32 - 1):=by
     obtain ⟨q,hq⟩:∃ q,l.length = q + 1:=⟨l.length - 1,by omega⟩
     rw [hq,Nat.mul_succ]
     rfl
    have h3:1 * (l.length - 1) ≤ (B / 32 - 1) * (l.length - 1):=Nat.mul_le_mul_right _ h1
    omega
  ·unfold bkO at hd
   obtain ⟨j,_,rfl⟩:=List.mem_map.1 hd
   apply encU_length
   rw [flatR_length]
   have:=hchunk (B / 32 - 1) j l
   omega
 ·split
  ·refine ⟨by simp,fun d hd=>?_⟩
   rw [List.mem_singleton] at hd
   rw [hd,List.length_replicate]
  ·refine ⟨by simp,fun d hd=>?_⟩
   rw [List.mem_singleton] at hd
   rw [hd]
   unfold encU
   rw [bytesU_length,PureCrc.enc_length]
   simp
   omega
structure GoodP (B:Nat) (P:List (List UInt8 × FlA)):Prop where
 name:∀ p ∈ P,nameB (bs p.1) = true
 rise:P.Pairwise fun a b=>bytesBefore a.1 b.1 = true
 size:∀ p ∈ P,p.2.blocks.length ≤ 2097153 ∧ ∀ d ∈ p.2.blocks,d.length = B
 few:P.length ≤ 1000
theorem sum_le {α:Type} {f:α → Nat} {M:Nat}:∀ {l:List α},(∀ e ∈ l,f e ≤ M) → (l.map f).sum ≤ l.length * M
 | [],_=>by simp
 | e :: t,h=>by
  have h1:=sum_le (l:=t) (fun x hx=>h x (by simp [hx]))
  have h2:=h e (by simp)
  rw [List.map_cons,List.sum_cons,List.length_cons,Nat.succ_mul]
  omega
theorem GoodP.used {B:Nat} {P:List (List UInt8 × FlA)} (h:GoodP B P):total P ≤ 2097153000:=by
 unfold total
 have h1:=sum_le (f:=fun e:List UInt8 × FlA=>e.2.blocks.length) (M:=2097153) (l:=P) (fun e he=>(h.size e he).1)
 have h2:P.length * 2097153 ≤ 1000 * 2097153:=Nat.mul_le_mul_right _ h.few
 omega
theorem GoodP.mount {B:Nat} {l:List SFl} (h:GoodP B (l.map SFl.pub)) (hB:64 ≤ B ∧ B ≤ 65536 ∧ B % 32 = 0):MountV B B 1099511627776 l none ∧ l.length ≤ 1000 ∧ usedN l l.length ≤ 2097153000:=by
 have hl:l.length ≤ 1000:=by simpa using h.few
 have hu:usedN l l.length ≤ 2097153000:=by rw [← total_mount]; exact h.used
 have hr:RiseS l:=List.pairwise_map.1 h.rise
 have hg:GoodL l:=⟨fun e he=>h.name _ (List.mem_map.2 ⟨e,he,rfl⟩),hr,by omega,by omega⟩
 refine ⟨.inl ⟨rfl,⟨by omega,by omega,by omega,by decide,by decide⟩,rfl,fun j e hj he=>⟨hg.names e (List.mem_of_getElem? he),?_,fun b hb=>?_⟩,by omega⟩,hl,hu⟩
 ·have ht:∀ l:List UInt8,(⟨l.toArray⟩:ByteArray).toList = l:=fun l=>ByteArray.toList_mk l
  rw [ht,ht]
  exact hg.behind he
 ·have:=(h.size _ (List.mem_map.2 ⟨e,List.mem_of_getElem? he,rfl⟩)).2 b hb
  rw [this]
theorem GoodP.state {B:Nat} (hB:64 ≤ B ∧ B % 32 = 0) {sl:List SFl} {l:List Thg} (hs:sl.map SFl.pub = stP B l) (hl:l.length ≤ 1000) (hx:∀ x ∈ l,Few x):GoodP B ((sortF sl).map SFl.pub):=by
 have hnd:(sl.map SFl.name).Nodup:=by
  have:=(stP_of (B:=B) (l:=l)).2
  rw [← hs,List.map_map] at this
  exact this
 have hof:∀ p ∈ (sortF sl).map SFl.pub,∃ x ∈ l,p = thFile B x:=fun p hp=>by
  obtain ⟨e,he,rfl⟩:=List.mem_map.1 hp
  apply (stP_of (B:=B) (l:=l)).1
  rw [← hs]
  exact List.mem_map.2 ⟨e,sortF_mem.1 he,rfl⟩
 refine ⟨fun p hp=>?_,List.pairwise_map.2 (sortF_rise hnd),fun p hp=>?_,?_⟩
 ·obtain ⟨x,_,rfl⟩:=hof p hp
  exact thName_ok x
 ·obtain ⟨x,hx2,rfl⟩:=hof p hp
  exact thBlocks_ok hB (hx x hx2)
 ·rw [List.length_map,sortF_len]
  have h1:=congrArg List.length hs
  have h2:=stP_len B l
  rw [List.length_map] at h1
  omega
def FilesIs (rows:List (Int × Nat)) (m:List Nat):Prop:=m.Pairwise (· < ·) ∧ ∀ x,x ∈ m ↔ x ∈ rows.map Prod.snd
theorem rise_some (R:List Nat):∃ m:List Nat,m.Pairwise (· < ·) ∧ ∀ x,x ∈ m ↔ x ∈ R:=by
 induction R with
 | nil=>exact ⟨[],List.Pairwise.nil,fun x=>Iff.rfl⟩
 | cons a R ih =>
  obtain ⟨m,h1,h2⟩:=ih
  refine ⟨(m.filter fun x=>decide (x < a)) ++ a :: (m.filter fun x=>decide (a < x)),?_,fun x=>?_⟩
  ·rw [List.pairwise_append,List.pairwise_cons]
   refine ⟨h1.filter _,⟨fun x hx=>by simpa using (List.mem_filter.1 hx).2,h1.filter _⟩,fun x hx y hy=>?_⟩
   have hx2:x < a:=by simpa using (List.mem_filter.1 hx).2
   rcases List.mem_cons.1 hy with rfl | hy
   ·exact hx2
   ·have:a < y:=by simpa using (List.mem_filter.1 hy).2
    omega
  ·rw [List.mem_append,List.mem_cons,List.mem_cons,List.mem_filter,List.mem_filter,h2]
   simp only [decide_eq_true_eq]
   constructor
   ·rintro (⟨h,_⟩ | rfl | ⟨h,_⟩)
    ·exact .inr h
    ·exact .inl rfl
    ·exact .inr h
   ·rintro (rfl | h)
    ·exact .inr (.inl rfl)
    ·rcases Nat.lt_trichotomy x a with h3 | h3 | h3
     ·exact .inl ⟨h,h3⟩
     ·exact .inr (.inl h3)
     ·exact .inr (.inr ⟨h,h3⟩)
theorem FilesIs.some (rows:List (Int × Nat)):∃ m,FilesIs rows m:=rise_some _
theorem FilesIs.one {rows:List (Int × Nat)} {m m':List Nat} (h:FilesIs rows m) (h':FilesIs rows m'):m = m':=by
 have nd:∀ {l:List Nat},l.Pairwise (· < ·) → l.Nodup:=fun hl=>hl.imp (fun {a b} hab e=>by omega)
 exact List.Perm.eq_of_pairwise (le:=(· < ·)) (fun a b _ _ h1 h2=>by omega) h.1 h'.1 ((List.perm_ext_iff_of_nodup (nd h.1) (nd h'.1)).2 (fun x=>by rw [h.2,h'.2]))
theorem FindIs.find {l:List SFl} {nm:List UInt8} {r:Int} (h:FindIs l nm r):(r = -1 ∧ findA (l.map SFl.pub) nm = none) ∨ ∃ (k:Nat) (e:SFl),r = k ∧ l[k]? = some e ∧ findA (l.map SFl.pub) nm = some e.file:=by
 rcases h with ⟨h1,h2⟩ | ⟨k,e,h1,h2,h3,h4⟩
 ·refine .inl ⟨h1,find_none_of (fun x hx=>?_)⟩
  obtain ⟨e,he,rfl⟩:=List.mem_map.1 hx
  exact h2 e he
 ·refine .inr ⟨k,e,h1,h2,?_⟩
  obtain ⟨hk,hke⟩:=List.getElem?_eq_some_iff.1 h2
  have hl:l = l.take k ++ e :: l.drop (k + 1):=by
   rw [← hke,List.getElem_cons_drop,List.take_append_drop]
  have hfr:∀ x ∈ l.take k,x.name ≠ nm:=fun x hx=>by
   obtain ⟨j,hj,rfl⟩:=List.getElem_of_mem hx
   rw [List.length_take] at hj
   rw [List.getElem_take]
   exact h4 j _ (by omega) (List.getElem?_eq_getElem (by omega))
  rw [hl]
  unfold findA
  rw [List.map_append,List.find?_append,List.map_cons]
  rw [List.find?_eq_none.2 (fun x hx=>by
   obtain ⟨y,hy,rfl⟩:=List.mem_map.1 hx
   exact fun h=>hfr y hy (of_decide_eq_true h))]
  simp [SFl.pub,h3]
theorem filesE_step {P:List (List UInt8 × FlA)} {m:List Nat} {k:Nat} (hk:k < m.length):filesE P (m.drop k) = if fileE P (fileN m[k]) ≠ 0 then fileE P (fileN m[k]) else filesE P (m.drop (k + 1)):=by
 rw [List.drop_eq_getElem_cons hk]
 rfl
section
variable {w:World} {fv:Value} {l:List SFl} {b:Int} {D:List Nat} {t:Tbl} {so sr:Option Addr} {co cr gen:Nat}
set_option maxHeartbeats 16000000 in
theorem rmay_any (h:StD w D fv l) (hl:l.length ≤ 1048576) (hn:∀ e ∈ l,e.name.length ≤ 1048576) (ht:TblAt w t so sr) (hg:gen < 18446744073709551616) {m:List Nat} (hm:FilesIs t.rows m) :
  Calls Tryz.prog 26 #[.agg #[.int .i64 b,fv],tblV t so sr co cr,.int .u64 (gen:Int)] w fun e w'=>e = .returned (.int .i64 (mayE (l.map SFl.pub) t gen m)) ∧ Tc [] w w':=by
 obtain ⟨fa,fc,rfl⟩:=h.sl
 have HH:=hid (fun W (tt:Tc [] w W)=>h.touch tt (fun y hy=>by cases hy))
 have HNL:=hid hn
 have HTT:=hid (fun W (tt:Tc [] w W)=>ht.touch tt (by simp) (by simp))
 have HF:=hid (fun W (tt:Tc [] w W)=>rformed_any (co:=co) (cr:=cr) (ht.touch tt (by simp) (by simp)))
 have HSO:=hid (fun W (tt:Tc [] w W)=>rsorted_any (co:=co) (cr:=cr) (ht.touch tt (by simp) (by simp)))
 have HFI:=hid (fun W (tt:Tc [] w W)=>rfind_any (b:=b) (h.touch tt (fun y hy=>by cases hy)) hl)
 have HRI:=hid (fun x hx=>(ht.ri x hx).2)
 have HM:=hid hm
 have HRL:=hid ht.rl
 have HGN:=hid (fun (s:ByteArray) (hs:s.size ≤ 1048576) W=>rgen_any s hs W)
 have HFN:=hid (fun (u:Nat) (hu:u < 18446744073709551616) W=>Nm.rfile_any u hu W)
 have HE:=hid (show mayE (l.map SFl.pub) t gen m = if fmB t = false then 170 else if gen = 18446744073709551615 then 7 else if overL (l.map SFl.pub) gen then 13 else filesE (l.map SFl.pub) m from rfl)
 clear hn ht hm h
 generalize mayE (l.map SFl.pub) t gen m = R at *
 obtain ⟨W1,hW1⟩:∃ W1,W1 = ((w.alloc (.cells #[.int .i64 b,.slice fa l.length fc] 42)).alloc (.cells #[.int .i64 t.vars,.slice so t.order.length co,.slice sr t.rows.length cr,.int .i64 t.next,.int .u64 (t.nf:Int)] 26)):=⟨_,rfl⟩
 have H1:Hid (Tc [] w W1 ∧ W1.heap[w.heap.size]? = some (.cells #[.int .i64 b,.slice fa l.length fc] 42 (0,0)) ∧ W1.heap[w.heap.size + 1]? = some (.cells #[.int .i64 t.vars,.slice so t.order.length co,.slice sr t.rows.length cr,.int .i64 t.next,.int .u64 (t.nf:Int)] 26 (0,0))):=hid (by
  rw [hW1]
  exact ⟨((Tc.refl [] w).alloc _).alloc _,heap_two w _ _⟩)
 have HBX:=hid (fun W (tt:Tc [] W1 W)=>(And.intro (fun i=>cRw ((tt.block _ (ltB H1.out.2.1) (by simp)).trans H1.out.2.1) i) (fun i=>cRw ((tt.block _ (ltB H1.out.2.2) (by simp)).trans H1.out.2.2) i)))
 have HW1:=hid hW1
 clear hW1
 simp only [tblV] at *
 go_enter Tryz.func26,Tryz.ntmps26
 go_upto_region 1 with fail
 rw [← HW1.out]
 generalize hbx:w.heap.size = bx at *
 have HBN:=hid hbx
 clear hbx
 obtain ⟨c42,c26⟩:=HBX.out W1 (Tc.refl _ _)
 go_upto_region 2 with (go_at_call 12; refine (HF.out _ H1.out.1).mono ?_; rintro e w2 ⟨rfl,ht2⟩; have HT2:=hid ht2; clear ht2)
 clear c42 c26
 obtain ⟨c42,c26⟩:=HBX.out w2 HT2.out
 cases hfb:fmB t with
 | false =>
  have HR:=hid (show R = 170 by rw [HE.out,if_pos hfb])
  go_wp2_with fail
  go_ret
  exact ⟨by rw [HR.out]; rfl,H1.out.1.trans HT2.out (by simp)⟩
 | true =>
  by_cases hgl:gen = 18446744073709551615
  ·have HR:=hid (show R = 7 by rw [HE.out,if_neg (by simp [hfb]),if_pos hgl])
   subst hgl
   go_wp2_with fail
   go_ret
   exact ⟨by rw [HR.out]; rfl,H1.out.1.trans HT2.out (by simp)⟩
  ·have HE2:=hid (show R = if overL (l.map SFl.pub) gen then 13 else filesE (l.map SFl.pub) m by rw [HE.out,if_neg (by simp [hfb]),if_neg hgl])
   have hgi:¬ (gen:Int) = 18446744073709551615:=by omega
   have hgb:((gen:Int) == 18446744073709551615) = false:=by simpa using hgi
   clear hgl
   go_wp2_with fail
   go_loopw [8] (fun i W=>∃ k:Nat,k ≤ l.length ∧ i = .int .i64 k ∧ Hid (∀ j (e:SFl),j < k → l[j]? = some e → ¬ gen < genN e.name) ∧ Hid (Tc [] w2 W)) (fun i _=>l.length - (intOf i).toNat)
   case atStart=>exact ⟨0,Nat.zero_le _,rfl,hid (fun j e hj=>absurd hj (by omega)),hid (Tc.refl _ _)⟩
   case round =>
    obtain ⟨k,hk,rfl,HA,HT⟩:=hrel
    clear c42 c26
    have HTA:=hid (HT2.out.trans HT.out (by simp))
    have HTW:=hid (H1.out.1.trans HTA.out (by simp))
    obtain ⟨c42,c26⟩:=HBX.out wr HTA.out
    by_cases hlt:k < l.length
    ·obtain ⟨e,he⟩:∃ e,e = l[k]:=⟨_,rfl⟩
     have hge:l[k]? = some e:=by rw [he]; exact List.getElem?_eq_getElem hlt
     obtain ⟨a,c',hfa,_,hal,c0',_,_,_⟩:=(HH.out wr HTW.out).at_ k e hge
     injection hfa with e1 e2 e3
     subst e1
     subst e3
     have hki:(k:Int) < (l.length:Int):=by omega
     have HGE:=hid hge
     have HGG:=hid (HGN.out (bs e.name) (by show e.name.toArray.size ≤ 1048576; rw [List.size_toArray]; exact HNL.out e (by rw [he]; exact List.getElem_mem hlt)))
     have c0:wr.cell? (a.add (k * 3)) = some (.string (bs e.name)):=c0'
     clear c0' he hge hal
     go_upto_region 10 with (go_at_call 60; refine (HGG.out wr).mono ?_; rintro e3 w3 ⟨rfl,hh⟩; have hh:=hh.symm; subst hh)
     rw [nm_bs]
     by_cases hgt:gen < genN e.name
     ·have HR:=hid (show R = 13 by
       rw [HE2.out,if_pos]
       unfold overL
       rw [List.any_eq_true]
       exact ⟨e.pub,List.mem_map.2 ⟨e,List.mem_of_getElem? HGE.out,rfl⟩,decide_eq_true hgt⟩)
      have hgti:(gen:Int) < (genN e.name:Int):=by omega
      go_wp2_with fail
      go_ret
      exact ⟨by rw [HR.out]; rfl,HTW.out⟩
     ·have hgti:¬ (gen:Int) < (genN e.name:Int):=by omega
      have HNG:=hid hgt
      clear hgt
      go_wp2_with fail
      refine ⟨⟨k + 1,hlt,rfl,hid (fun j f hj hf=>?_),HT⟩,by simp [intOf]; omega⟩
      by_cases hjk:j = k
      ·subst hjk
       rw [HGE.out] at hf
       cases hf
       exact HNG.out
      ·exact HA.out j f (by omega) hf
    ·obtain rfl:k = l.length:=by omega
     have HE3:=hid (show R = filesE (l.map SFl.pub) m by
      rw [HE2.out,if_neg]
      unfold overL
      rw [Bool.not_eq_true,List.any_eq_false]
      intro p hp
      obtain ⟨e,he,rfl⟩:=List.mem_map.1 hp
      obtain ⟨j,hj,rfl⟩:=List.getElem_of_mem he
      exact fun h=>HA.out j _ hj (List.getElem?_eq_getElem hj) (of_decide_eq_true h))
     go_upto_region 13 with (go_at_call 61; refine (HSO.out wr HTW.out).mono ?_; rintro e5 w5 ⟨v5,m5,rfl,ho5,hp5,hx5,ht5⟩; have HO5:=hid ho5; have HM5:=hid (FilesIs.one ⟨hp5,hx5⟩ HM.out); have HT5:=hid ht5; clear ho5 hp5 hx5 ht5)
     clear c42 c26
     have hmm:=HM5.out
     subst hmm
     have HTB5:=hid (HTA.out.trans HT5.out (by simp))
     obtain ⟨va,vc,rfl⟩:=oSC HO5.out
     have hml:m5.length ≤ 1048576:=by
      have h1:=rise_few (m:=m5) (R:=t.rows.map Prod.snd) HM.out.1 (fun x hx=>(HM.out.2 x).1 hx)
      have h2:=HRL.out
      rw [List.length_map] at h1
      omega
     obtain ⟨wl,hwl⟩:∃ wl,wl = wr:=⟨_,rfl⟩
     subst hwl
     go_wp2_with fail
     go_loopw [11] (fun i W=>∃ k:Nat,k ≤ m5.length ∧ i = .int .i64 k ∧ Hid (R = filesE (l.map SFl.pub) (m5.drop k)) ∧ Hid (Tc [] w5 W)) (fun i _=>m5.length - (intOf i).toNat)
     case atStart=>exact ⟨0,Nat.zero_le _,rfl,HE3,hid (Tc.refl _ _)⟩
     case round =>
      obtain ⟨q,hq,rfl,HRQ,HTQ⟩:=hrel
      have HTC:=hid (HTB5.out.trans HTQ.out (by simp))
      have HTD:=hid (H1.out.1.trans HTC.out (by simp))
      obtain ⟨c42,c26⟩:=HBX.out wr HTC.out
      by_cases hql:q < m5.length
      ·obtain ⟨g,c,hgv,hgl2,hgc⟩:=own_block (oTG HO5.out HTQ.out (fun y _ hy=>by cases hy)) (by omega)
       injection hgv with e1 e2 e3
       subst e1
       subst e3
       obtain ⟨u,hu⟩:∃ u,u = m5[q]:=⟨_,rfl⟩
       have hug:m5[q]? = some u:=by rw [hu]; exact List.getElem?_eq_getElem hql
       have cl:wr.cell? ⟨g,q,none⟩ = some (.int .u64 (u:Int)):=by
        have:=(oTG HO5.out HTQ.out (fun y _ hy=>by cases hy)).cells (g:=g) rfl q (.int .u64 (u:Int)) (by unfold numC; rw [List.getElem?_map,hug]; rfl)
        rw [azA] at this
        exact this
       have hqi:(q:Int) < (m5.length:Int):=by omega
       have hub:u < 18446744073709551616:=by
        obtain ⟨x,hx,hxu⟩:=List.mem_map.1 ((HM.out.2 u).1 (List.mem_of_getElem? hug))
        rw [← hxu]
        exact HRI.out x hx
       have HST:=hid (filesE_step (P:=l.map SFl.pub) hql)
       rw [← hu] at HST
       have HFU:=hid (HFN.out u hub)
       clear hgl2 hgc hu hug hub
       go_upto_region 17 with (go_at_call 62; refine (HFU.out wr).mono ?_; rintro e6 w6 ⟨rfl,hb6⟩; have HT6:=hid (Tc.of_below (F:=[]) hb6 (Nat.le_refl _)); clear hb6)
       clear c42 c26 cl
       have HTE:=hid (HTC.out.trans HT6.out (by simp))
       have HTF:=hid (H1.out.1.trans HTE.out (by simp))
       obtain ⟨c42,c26⟩:=HBX.out w6 HTE.out
       go_upto_region 18 with (go_at_call 63; refine (HFI.out w6 HTF.out (fileN u)).mono ?_; rintro e7 w7 ⟨r,rfl,hfi,ht7⟩; have HFO:=hid hfi; have HT7:=hid ht7; clear hfi ht7)
       clear c42 c26
       have HTG:=hid (HTE.out.trans HT7.out (by simp))
       have HTH:=hid (H1.out.1.trans HTG.out (by simp))
       obtain ⟨c42,c26⟩:=HBX.out w7 HTG.out
       rcases FindIs.find HFO.out with ⟨rfl,hf⟩ | ⟨kk,e,rfl,hke,hf⟩
       ·have HR:=hid (show R = 12 by
         rw [HRQ.out,HST.out]
         unfold fileE
         rw [hf]
         rfl)
        clear hf
        go_wp2_with fail
        go_ret
        exact ⟨by rw [HR.out]; rfl,HTH.out⟩
       ·obtain ⟨a,c',hfa,_,hal,_,c1',_,_⟩:=(HH.out w7 HTH.out).at_ kk e hke
        injection hfa with e1 e2 e3
        subst e1
        subst e3
        have hkl:=(List.getElem?_eq_some_iff.1 hke).1
        have hk0:¬ (kk:Int) < 0:=by omega
        have hki:(kk:Int) < (l.length:Int):=by omega
        have hkb:kk ≤ 1048576:=by omega
        cases hs:e.file.shut with
        | false =>
         have HR:=hid (show R = 15 by
          rw [HRQ.out,HST.out]
          unfold fileE
          rw [hf]
          simp [hs])
         rw [hs] at c1'
         clear hf hke hal hs hkl
         go_wp2_with fail
         go_ret
         exact ⟨by rw [HR.out]; rfl,HTH.out⟩
        | true =>
         have HR:=hid (show R = filesE (l.map SFl.pub) (m5.drop (q + 1)) by
          rw [HRQ.out,HST.out]
          unfold fileE
          rw [hf]
          simp [hs])
         rw [hs] at c1'
         have HTZ:=hid ((HTQ.out.trans HT6.out (by simp)).trans HT7.out (by simp))
         clear hf hke hal hs hkl
         go_wp2_with fail
         exact ⟨⟨q + 1,hql,rfl,HR,HTZ⟩,by simp [intOf]; omega⟩
      ·obtain rfl:q = m5.length:=by omega
       have HR:=hid (show R = 0 by rw [HRQ.out,List.drop_length]; rfl)
       go_wp2_with fail
       go_ret
       exact ⟨by rw [HR.out]; rfl,HTD.out⟩
end
section
variable {w:World} {kv:Value} {c wr:Int} {Pr:World → World → Prop} {b:Bn} {n:Nat} {A:PubA} {s:Pu.St} {F:List Nat} {kb:Nat} {K T:Int} {t:Tbl} {so sr:Option Addr} {co cr gen:Nat}
set_option maxHeartbeats 8000000 in
theorem commit_go (HRF:Hid (∀ W,Tc [] w W → Calls Tryz.prog 45 #[kv,tblV t so sr co cr,.int .u64 (gen:Int)] W fun e w'=>e = .returned (.int .i64 wr) ∧ Tc [] W w'))
  (HWH:Hid (∀ W sa c' li,Tc [] w W → StrsAt W sa li → li = (if wr = 0 then sortU (filesN t.rows) else []) → Calls Tryz.prog 47 #[kv,.int .i64 wr,.slice sa li.length c',.slice none 0 0] W fun e w'=>e = .returned (.int .i64 c) ∧ Pr W w'))
  (h0:c ≠ 0) (ht:TblAt w t so sr) (hT:Tabs w) :
  Calls Tryz.prog 19 #[kv,tblV t so sr co cr,.int .u64 (gen:Int)] w fun e w'=>e = .returned (.int .i64 c) ∧ ∃ W,Tc [] w W ∧ Pr W w':=by
 have hc1:(c == 0) = false:=by simpa using h0
 have hc2:¬ c = 0:=h0
 have HFO:=hid (fun W (tt:Tc [] w W)=>filesOf_any (c:=cr) (ht.rows.touch tt (by simp)) ht.rl (fun x hx=>(ht.ri x hx).2) (hT.quiet tt))
 have HFL:=hid (show (filesN t.rows).length ≤ 1099511627776 by have h3:=ht.rl; unfold filesN; rw [List.length_map]; omega)
 have HT0:=hid ((Tc.refl [] w).alloc (.cells #[.int .i64 t.vars,.slice so t.order.length co,.slice sr t.rows.length cr,.int .i64 t.next,.int .u64 (t.nf:Int)] 26))
 have HR0:=hid (heap_alloc_new w (.cells #[.int .i64 t.vars,.slice so t.order.length co,.slice sr t.rows.length cr,.int .i64 t.next,.int .u64 (t.nf:Int)] 26))
 clear h0 ht hT
 simp only [tblV] at *
 go_enter Tryz.func19,Tryz.ntmps19
 go_wp2_with (go_at_call 45; refine (HRF.out _ HT0.out).mono ?_; rintro e w1 ⟨rfl,ht1⟩; have HT1:=hid (HT0.out.trans ht1 (by simp)); have HR1:=hid ((ht1.block _ (ltB HR0.out) (by simp)).trans HR0.out); clear ht1)
 rw [run_makeMap_n w1]
 obtain ⟨mb,hmb⟩:∃ mb,mb = w1.heap.size:=⟨_,rfl⟩
 have hm0:SeenAt (w1.alloc (.map #[] 0)) mb []:=⟨.map [],by rw [hmb]; exact empty_map _ _ _ _ (heap_alloc_new w1 _),fun k=>by simp [Maps.has]⟩
 obtain ⟨W2,hW2⟩:∃ W2,W2 = w1.alloc (.map #[] 0):=⟨_,rfl⟩
 have t2:Tc [] w1 W2:=by rw [hW2]; exact (Tc.refl [] w1).alloc _
 rw [← hW2] at hm0
 rw [← hW2,← hmb]
 clear hW2 hmb
 have HM0:=hid hm0
 have HT2:=hid (HT1.out.trans t2 (by simp))
 have HR2:=hid ((t2.block _ (ltB HR1.out) (by simp)).trans HR1.out)
 clear t2 hm0
 have c2:=fun i=>cRw HR2.out i
 by_cases hw:wr = 0
 ·subst hw
  rw [if_pos rfl] at HWH
  go_wp2_with (first
   |(go_at_call 47; refine (HWH.out _ _ _ _ HT4.out HSR.out rfl).mono ?_; rintro e w5 ⟨rfl,hp5⟩; have HP5:=hid hp5; clear hp5)
   |(go_at_call 48; refine (sorted_any HMB.out HFL.out).mono ?_; rintro e w4 ⟨sa,c,rfl,hsa,ht4⟩; have HSR:=hid hsa; have HT4:=hid (HT3.out.trans ht4 (by simp)); clear hsa ht4)
   |(go_at_call 46; refine (HFO.out _ HT2.out).mono ?_; rintro e w3 ⟨mb,rfl,hmb,hsm,ht3⟩; have HMB:=hid hsm; have HT3:=hid (HT2.out.trans ht3 (by simp)); clear hsm ht3))
  go_ret
  exact ⟨rfl,_,HT4.out,HP5.out⟩
 ·rw [if_neg hw] at HWH
  have hw1:(wr == 0) = false:=by simpa using hw
  go_wp2_with (first
   |(go_at_call 47; refine (HWH.out _ _ _ _ HT4.out HSR.out (by simp [sortU,uniq])).mono ?_; rintro e w5 ⟨rfl,hp5⟩; have HP5:=hid hp5; clear hp5)
   |(go_at_call 48; refine (sorted_any HM0.out (by simp)).mono ?_; rintro e w4 ⟨sa,c,rfl,hsa,ht4⟩; have HSR:=hid hsa; have HT4:=hid (HT2.out.trans ht4 (by simp)); clear hsa ht4))
  go_ret
  exact ⟨rfl,_,HT4.out,HP5.out⟩
theorem refusal_all (S:Std w b n A s F) (hn:n < 1099511627776) (hk:DkA w kb b K T) (hT:Tabs w) (h:TblAt w t so sr) (hg:gen < 18446744073709551616) :
  Calls Tryz.prog 45 #[ptr kb,tblV t so sr co cr,.int .u64 (gen:Int)] w fun e w'=>e = .returned (.int .i64 (refuseE (overA A gen) t gen)) ∧ Tc [] w w':=by
 cases hf:fmB t with
 | false =>
  have e:refuseE (overA A gen) t gen = 170:=by unfold refuseE; rw [if_pos hf]
  rw [e]
  exact refusal_form h hg hf _
 | true =>
  by_cases hl:gen = 18446744073709551615
  ·have e:refuseE (overA A gen) t gen = 7:=by unfold refuseE; rw [if_neg (by simp [hf]),if_pos hl]
   rw [e]
   subst hl
   exact refusal_last h hf _
  ·exact refusal_desk S hn hk hT h (by omega) hf
def commitE (A:PubA) (s:Pu.St) (K:Int) (t:Tbl) (gen:Nat):Int:=wholeE A s K (refuseE (overA A gen) t gen) (if refuseE (overA A gen) t gen = 0 then sortU (filesN t.rows) else []) []
theorem commit_no (S:Std w b n A s F) (hn:n < 1099511627776) (hk:DkA w kb b K T) (hkF:kb ∉ F) (hK:0 ≤ K ∧ K ≤ 4096) (hT:Tabs w) (h:TblAt w t so sr) (hg:gen < 18446744073709551616) (hc:commitE A s K t gen = c) (h0:c ≠ 0) :
  Calls Tryz.prog 19 #[ptr kb,tblV t so sr co cr,.int .u64 (gen:Int)] w fun e w'=>e = .returned (.int .i64 c) ∧ Went w w' b n A s F []:=by
 have hrl:=h.rl
 refine (commit_go (kv:=ptr kb) (Pr:=fun W w'=>Went W w' b n A s F []) (hid fun W tt=>refusal_all (S.quiet tt) hn (hk.touch tt (by simp)) (hT.quiet tt) (h.touch tt (by simp) (by simp)) hg) (hid fun W sa c' li tt hs hl=>?_) h0 h hT).mono fun e w' ⟨h1,W,t1,g⟩=>⟨h1,Went.pre t1 g (by simp)⟩
 have hll:li.length ≤ 1099511627776:=by
  rw [hl]
  split
  ·have:=sortU_len (filesN t.rows)
   have h2:(filesN t.rows).length = t.rows.length:=by unfold filesN; simp
   omega
  ·simp
 have hw:=whole_any (ci:=c') (co:=0) (lo:=[]) (S.quiet tt) hn (hk.touch tt (by simp)) hkF hK hs (StrsAt.nil _ none) hll (by simp) (refuseE (overA A gen) t gen)
 unfold commitE at hc
 rw [← hl] at hc
 rw [hc] at hw
 exact hw
end
section
variable {w w':World} {b:Bn} {n:Nat} {A:PubA} {s:Pu.St} {F:List Nat} {kb:Nat} {K T:Int}
theorem zero_add_nat (g k:Nat):(⟨g,0,none⟩:Addr).add k = ⟨g,k,none⟩:=by unfold Addr.add; split <;> simp_all
theorem BkA.in_ {B:Nat} {sv:Value} {bs:List Nat} {blocks:List (List UInt8)} (h:BkA w B sv bs blocks):BlIn w sv blocks:=⟨h.sliceL,fun i hi=>by
 obtain ⟨G,gc,xa,xn,xc,e,c,hs⟩:=h.sh.at_ i hi
 exact ⟨⟨G,0,none⟩,gc,xa,xn,xc,e,World.block_lt_of_cell? w ⟨G,i,none⟩ c,by rw [zero_add_nat]; exact c,hs⟩⟩
theorem StateAt.in_ {n B:Nat} {fv:Value} {l:List SFl} (h:StateAt w n B fv l):StIn w fv l:=⟨h.sliceL,fun k e he=>by
 have hk:=(List.getElem?_eq_some_iff.1 he).1
 obtain ⟨g,c,hv⟩:=h.slice1 (by omega)
 obtain ⟨c0,c1,c2⟩:=h.cellsAt he hv
 refine ⟨⟨g,0,none⟩,c,hv,World.block_lt_of_cell? w ⟨g,k * 3,none⟩ c0,?_,?_,?_,(h.each e (List.mem_of_getElem? he)).in_⟩ <;> rw [zero_add_nat] <;> assumption⟩
theorem state_s (h:Std w b n A s F) (hn:n ≤ 1099511627776):Calls Tryz.prog 32 #[ptr b.p] w fun e w'=>∃ fv l,e = .returned (.agg #[.int .i64 (A.B:Int),fv]) ∧ StIn w' fv l ∧ l.map SFl.pub = A.files ∧ Tc [] w w':=by
 obtain ⟨Fd,⟨D,R,rfl,_⟩,_⟩:=h.disk
 exact (State_any R (h.inv.small hn)).mono fun e w' ⟨fv,l,e1,hs,hp,hb⟩=>⟨fv,l,e1,hs.in_,hp,Tc.of_below (F:=[]) hb (Nat.le_refl _)⟩
theorem new_free {lim:Int} {lb:Nat}:(Pu.St.new lim lb).free = lim ∧ (Pu.St.new lim lb).closed = false ∧ (Pu.St.new lim lb).hand = 0 ∧ (Pu.St.new lim lb).lent = 0 ∧ (Pu.St.new lim lb).limit = lim:=by
 refine ⟨?_,rfl,rfl,rfl,rfl⟩
 unfold Pu.St.free Pu.St.new
 simp
theorem commit_may {A:PubA} {s:Pu.St} {K:Int} (ho:A.on = true) (h:64 * K ≤ s.free) {t:Tbl} {gen:Nat} {m:List Nat} (hm:FilesIs t.rows m) (hr:∀ x ∈ t.rows,x.2 < 18446744073709551616):commitE A s K t gen = mayE A.files t gen m:=by
 rw [mayE_code ho hm.1 hm.2 hr]
 unfold commitE wholeE
 rw [if_neg (by simp [ho])]
 by_cases h1:refuseE (overA A gen) t gen = 0
 ·simp only [h1,ne_eq,not_true_eq_false,if_false,if_true]
  by_cases h2:readyE A (sortU (filesN t.rows)) [] = 0
  ·simp [h2]
   omega
  ·simp [h2]
 ·simp [h1]
end
end Go.Proofs.YthehcjjckabljaaGreatDoor
