import Derived.Test.YthehcjjckabljaaGreatDoorC25
namespace Go.Proofs.YthehcjjckabljaaGreatDoor
open Go.RowKit Go.Deep
set_option maxRecDepth 100000
set_option linter.unusedSimpArgs false
set_option linter.unusedVariables false
structure ThI where
 x:Thg
 so:Option Addr
 sr:Option Addr
 co:Nat
 cr:Nat
structure ThsAt (w:World) (sa:Option Addr) (l:List ThI):Prop where
 at_:∀ k (hk:k < l.length),∃ a,sa = some a ∧ a.block < w.heap.size ∧ w.cell? (a.add (k * 9)) = some (.int .i64 l[k].x.kind) ∧ w.cell? ⟨(a.add (k * 9)).block,(a.add (k * 9)).off + 1,none⟩ = some (.int .u64 (l[k].x.n:Int)) ∧ w.cell? ⟨(a.add (k * 9)).block,(a.add (k * 9)).off + 2,none⟩ = some (.bool l[k].x.shut) ∧
  w.cell? ⟨(a.add (k * 9)).block,(a.add (k * 9)).off + 3,none⟩ = some (.int .i64 l[k].x.t.vars) ∧ w.cell? ⟨(a.add (k * 9)).block,(a.add (k * 9)).off + 4,none⟩ = some (.slice l[k].so l[k].x.t.order.length l[k].co) ∧ w.cell? ⟨(a.add (k * 9)).block,(a.add (k * 9)).off + 5,none⟩ = some (.slice l[k].sr l[k].x.t.rows.length l[k].cr) ∧ w.cell? ⟨(a.add (k * 9)).block,(a.add (k * 9)).off + 6,none⟩ = some (.int .i64 l[k].x.t.next) ∧ w.cell? ⟨(a.add (k * 9)).block,(a.add (k * 9)).off + 7,none⟩ = some (.int .u64 (l[k].x.t.nf:Int)) ∧ w.cell? ⟨(a.add (k * 9)).block,(a.add (k * 9)).off + 8,none⟩ = some (.int .u64 (l[k].x.gen:Int)) ∧
  TblAt w l[k].x.t l[k].so l[k].sr ∧ l[k].x.n < 18446744073709551616 ∧ l[k].x.gen < 18446744073709551616 ∧ (-9223372036854775808 ≤ l[k].x.kind ∧ l[k].x.kind < 9223372036854775808)
theorem ThsAt.touch {w w':World} {sa:Option Addr} {l:List ThI} (h:ThsAt w sa l) (t:Tc [] w w'):ThsAt w' sa l:=⟨fun k hk=>by
 obtain ⟨a,e,h2,c0,c1,c2,c3,c4,c5,c6,c7,c8,ht,hr⟩:=h.at_ k hk
 have hb:(a.add (k * 9)).block = a.block:=add_block a _
 have cc:∀ q:Addr,q.block = a.block → w'.cell? q = w.cell? q:=fun q hq=>t.cell (by rw [hq]; exact h2) (by simp)
 exact ⟨a,e,Nat.lt_of_lt_of_le h2 t.size,(cc _ hb).trans c0,(cc ⟨_,_ + 1,none⟩ hb).trans c1,(cc ⟨_,_ + 2,none⟩ hb).trans c2,(cc ⟨_,_ + 3,none⟩ hb).trans c3,(cc ⟨_,_ + 4,none⟩ hb).trans c4,(cc ⟨_,_ + 5,none⟩ hb).trans c5,(cc ⟨_,_ + 6,none⟩ hb).trans c6,(cc ⟨_,_ + 7,none⟩ hb).trans c7,(cc ⟨_,_ + 8,none⟩ hb).trans c8,ht.touch t (by simp) (by simp),hr⟩⟩
def hasN (acc:List (List UInt8 × FlA)) (nm:List UInt8):Bool:=acc.any fun p=>p.1 == nm
def stP (B:Nat) (l:List Thg):List (List UInt8 × FlA):=l.foldl (fun acc x=>if hasN acc (thName x) = true then acc else acc ++ [thFile B x]) []
theorem stP_snoc (B:Nat) (l:List Thg) (x:Thg):stP B (l ++ [x]) = if hasN (stP B l) (thName x) = true then stP B l else stP B l ++ [thFile B x]:=by
 unfold stP
 rw [List.foldl_append]
 rfl
theorem stP_len (B:Nat) (l:List Thg):(stP B l).length ≤ l.length:=by
 have h:∀ (l:List Thg) (acc:List (List UInt8 × FlA)),(l.foldl (fun acc x=>if hasN acc (thName x) = true then acc else acc ++ [thFile B x]) acc).length ≤ acc.length + l.length:=fun l=>by
  induction l with
  | nil=>intro acc; simp
  | cons x t ih =>
   intro acc
   simp only [List.foldl_cons]
   split
   ·have:=ih acc; simp only [List.length_cons]; omega
   ·have:=ih (acc ++ [thFile B x]); simp only [List.length_append,List.length_cons,List.length_nil] at this ⊢; omega
 have:=h l []
 simpa [stP] using this
def hasS (sl:List SFl) (nm:List UInt8):Bool:=sl.any fun e=>e.name == nm
theorem hasS_pub (sl:List SFl) (nm:List UInt8):hasN (sl.map SFl.pub) nm = hasS sl nm:=by
 unfold hasN hasS
 rw [List.any_map]
 rfl
theorem hasS_next {sl:List SFl} {nm:List UInt8} {q:Nat} (h:q < sl.length):hasS (sl.take (q + 1)) nm = (hasS (sl.take q) nm || (sl[q].name == nm)):=by
 unfold hasS
 rw [List.take_succ_eq_append_getElem h,List.any_append]
 simp
theorem own_rowBlock {w:World} {base size n:Nat} {ty:TypeId} {v:Value} {xs:List Value} (h:w.ownsRow base ty size v n xs) {g:Nat} (hg:v.ownBlock = some g):∃ cur,w.heap[g]? = some (.cells cur ty (0,0)):=by
 rcases h.2 with ⟨e,_⟩ | ⟨g',cap,cur,e,_,hg',_⟩
 ·rw [e] at hg; simp [Value.ownBlock] at hg
 ·rw [e] at hg; simp [Value.ownBlock] at hg; subst hg; exact ⟨cur,hg'⟩
theorem FsD.grow {wr w7:World} {base n:Nat} {v:Value} {xs:List Value} {D D5:List Nat} {sl:List SFl} {e:SFl} {o:Obj} (h:FsD wr D sl) (he:BlD wr D5 e.sv e.file.blocks) (hr:RwD wr D5) (ho:wr.ownsRow base 113 3 v n xs) (hg:(wr.alloc o).grownBy w7 v.ownBlock):FsD w7 (D ++ D5) (sl ++ [e]):=by
 have F1:=h.snoc he hr
 have ta:Tc [] wr (wr.alloc o):=(Tc.refl [] wr).alloc _
 have t7:Tc (v.ownBlock.toList) (wr.alloc o) w7:=(Tc.refl _ _).grown hg (fun k hk=>.inl (by rw [hk]; simp))
 refine (F1.touch ta (by simp)).touch t7 (fun y hy=>?_)
 obtain ⟨cur,hc⟩:=own_rowBlock ho (show v.ownBlock = some y by simpa using hy)
 exact F1.rows.apart hc (by decide) (by decide)
section
variable {w:World} {l:List ThI} {ta:Option Addr} {tc:Nat} {n:Int}
set_option maxHeartbeats 8000000 in
theorem stateW_any (h:ThsAt w ta l) (hl:l.length ≤ 1000) (hn:-9223372036854775808 ≤ n ∧ n < 9223372036854775808) {m:Nat} (hm:l.length = min m 1000) (hmc:m ≤ tc) (hta:ta = none → m = 0 ∧ tc = 0) :
  Calls Tryz.prog 24 #[.agg #[.int .i64 n,.slice ta m tc]] w fun e w'=>∃ (B:Nat) (sl:List SFl) (D:List Nat) (fv:Value),e = .returned (.agg #[.int .i64 (B:Int),fv]) ∧ (64 ≤ B ∧ B ≤ 65536 ∧ B % 32 = 0 ∧ B ≤ 1312) ∧ StD w' D fv (sortF sl) ∧ sl.map SFl.pub = stP B (l.map ThI.x) ∧ (∀ y ∈ D,w.heap.size ≤ y) ∧ Tc [] w w':=by
 have HBL:=hid (fun W=>block_any hn W)
 have HTH:=hid (fun W (tt:Tc [] w W)=>h.touch tt)
 obtain ⟨W0,hW0⟩:∃ W0,W0 = w.alloc (.cells #[.int .i64 n,.slice ta m tc] 57):=⟨_,rfl⟩
 have t0:Tc [] w W0:=by rw [hW0]; exact (Tc.refl [] w).alloc _
 have r0:W0.heap[w.heap.size]? = some (.cells #[.int .i64 n,.slice ta m tc] 57 (0,0)):=by rw [hW0]; exact heap_alloc_new w _
 have hz0:W0.heap.size = w.heap.size + 1:=by rw [hW0]; simp
 clear h
 go_enter Tryz.func24,Tryz.ntmps24
 go_upto_region 1 with fail
 rw [← hW0]
 clear hW0
 obtain ⟨W1,hW1⟩:∃ W1,W1 = W0.alloc (.cells #[.int .i64 0,.slice none 0 0] 42):=⟨_,rfl⟩
 have t1:Tc [] W0 W1:=by rw [hW1]; exact (Tc.refl [] W0).alloc _
 have r1:W1.heap[w.heap.size + 1]? = some (.cells #[.int .i64 0,.slice none 0 0] 42 (0,0)):=by rw [hW1,← hz0]; exact heap_alloc_new W0 _
 have hz1:W1.heap.size = w.heap.size + 2:=by rw [hW1]; simp [hz0]
 have r01:=(t1.block _ (ltB r0) (by simp)).trans r0
 rw [← hW1]
 have c0:=cRw r01
 have u0:=uRw r01
 clear hW1
 go_upto_region 2 with fail
 have hmin:(min (m:Int) 1000).toNat = l.length:=by omega
 rw [hmin]
 have HTC:Hid (l.length ≤ tc):=hid (by omega)
 clear hmin hm hmc
 obtain ⟨W2,hW2⟩:∃ W2,W2 = W1.setCell ⟨w.heap.size,1,none⟩ (.slice ta l.length tc):=⟨_,rfl⟩
 have r2:W2.heap[w.heap.size]? = some (.cells #[.int .i64 n,.slice ta l.length tc] 57 (0,0)):=by rw [hW2]; exact Lib.heap_setCell_same r01 _
 have r3:W2.heap[w.heap.size + 1]? = some (.cells #[.int .i64 0,.slice none 0 0] 42 (0,0)):=by rw [hW2]; exact (blk_setCell_other _ _ _ _ (by show w.heap.size + 1 ≠ w.heap.size; omega)).trans r1
 have t2:Tc [] w W2:=by rw [hW2]; exact (t0.trans t1 (by simp)).setCell (.inr (Nat.le_refl _)) _
 have hz2:W2.heap.size = w.heap.size + 2:=by rw [hW2]; simpa [World.setCell] using hz1
 rw [← hW2]
 clear hW2 r1 r01 c0 u0 hz1 hz0 t0 t1 r0
 have c2:=cRw r2
 have HT2:=hid (And.intro t2 (And.intro r2 (And.intro r3 hz2)))
 clear t2 r2 r3 hz2
 go_upto_region 3 with (go_at_call 15; obtain ⟨B,hB',hcl⟩:=HBL.out _; have hB:=hid hB'; refine hcl.mono ?_; rintro e w1 ⟨rfl,hh⟩; have hh:=hh.symm; subst hh; clear hcl hB')
 clear c2 HBL
 generalize hrb:w.heap.size = rb at *
 have HRB:=hid hrb
 clear hrb
 go_wp2_with fail
 go_loopw [4,5] (fun v i W=>∃ (k:Nat) (sl:List SFl) (D:List Nat),k ≤ l.length ∧ i = .int .i64 k ∧ Hid (W.ownsRow W2.heap.size 113 3 v sl.length (sl.flatMap SFl.cells)) ∧ Hid (FsD W D sl ∧ ∀ y ∈ D,W2.heap.size ≤ y) ∧ Hid (sl.map SFl.pub = stP B ((l.take k).map ThI.x)) ∧ Hid (Below W2.heap.size W2 W)) (fun _ i _=>l.length - (intOf i).toNat)
 case atStart=>exact ⟨0,[],[],Nat.zero_le _,rfl,hid (World.ownsRow_nil _ _ _ _),hid ⟨FsD.nil _,fun y hy=>by cases hy⟩,hid rfl,hid (Below.refl _ _)⟩
 case round =>
  obtain ⟨k,sl,D,hk,rfl,HV,HFS,HP,HT⟩:=hrel
  obtain ⟨va,vc,rfl⟩:=oSC HV.out
  have HTW:=hid (HT2.out.1.trans (Tc.of_below (F:=[]) HT.out (Nat.le_refl _)) (by simp))
  have hsl:sl.length ≤ k:=by
   have h1:=congrArg List.length HP.out
   have h2:=stP_len B ((l.take k).map ThI.x)
   simp only [List.length_map,List.length_take] at h1 h2
   omega
  have hr2:=(HT.out.block rb (by have:=HT2.out.2.2.2; omega)).trans HT2.out.2.1
  have cb:=cRw hr2
  clear hr2
  by_cases hlt:k < l.length
  ·obtain ⟨a,rfl,hal,c0,c1,c2,c3,c4,c5,c6,c7,c8,htb,hn0,hg0,hk0⟩:=(HTH.out wr HTW.out).at_ k hlt
   have HPK:=hid (show (l.take (k + 1)).map ThI.x = (l.take k).map ThI.x ++ [l[k].x] by rw [List.take_succ_eq_append_getElem hlt,List.map_append]; rfl)
   generalize l[k] = y at *
   obtain ⟨x,so,sr,co,cr⟩:=y
   dsimp only at c0 c1 c2 c3 c4 c5 c6 c7 c8 htb hn0 hg0 hk0 HPK
   have HFA:=hid (file_any (co:=co) (cr:=cr) htb hn0 hg0 hk0 ⟨hB.out.1,hB.out.2.1,hB.out.2.2.1⟩)
   have hki:(k:Int) < (l.length:Int):=by omega
   clear htb hn0 hg0 hk0 hal
   unfold thgV at HFA
   go_upto_region 8 with (go_at_call 58; refine HFA.out.mono ?_; rintro e w5 ⟨sv,D5,rfl,hbl,hrw,hD5,ht5⟩; obtain ⟨xa,xc,rfl,hx9⟩:=id hbl; clear hx9; have H5:=hid (And.intro hbl (And.intro hrw (And.intro hD5 ht5))); clear hbl hrw hD5 ht5)
   obtain ⟨nb,hnb⟩:∃ nb,nb = thBlocks B x:=⟨_,rfl⟩
   rw [← hnb] at H5 ⊢
   obtain ⟨W6,hW6⟩:∃ W6,W6 = w5.alloc (.cells #[.string (bs (thName x)),.bool x.shut,.slice xa nb.length xc] 113):=⟨_,rfl⟩
   have t6:Tc [] w5 W6:=by rw [hW6]; exact (Tc.refl [] w5).alloc _
   have r6:W6.heap[w5.heap.size]? = some (.cells #[.string (bs (thName x)),.bool x.shut,.slice xa nb.length xc] 113 (0,0)):=by rw [hW6]; exact heap_alloc_new w5 _
   rw [← hW6]
   obtain ⟨hbl,hrw,hD5,ht5⟩:=H5.out
   have HT6:=hid (ht5.trans t6 (by simp))
   have HR6:=hid r6
   have H6:=hid (And.intro (hbl.touch t6 (by simp)) (And.intro (hrw.touch t6 (by simp)) hD5))
   have HNB:=hid hnb
   clear hbl hrw hD5 ht5 hW6 t6 r6 H5 hnb c0 c1 c2 c3 c4 c5 c6 c7 c8 cb HFA
   generalize w5.heap.size = bf at *
   have HV6:=hid (oTG HV.out HT6.out (fun y _ hy=>by cases hy))
   obtain ⟨nm,hnm⟩:∃ nm,nm = thName x:=⟨_,rfl⟩
   rw [← hnm] at HR6 ⊢
   have HNM:=hid hnm
   clear hnm
   obtain ⟨w3,hw3⟩:∃ w3,w3 = wr:=⟨_,rfl⟩
   subst hw3
   go_wp2_with fail
   go_loopw [7,8] (fun d j W=>∃ q:Nat,q ≤ sl.length ∧ j = .int .i64 q ∧ d = .bool (hasS (sl.take q) nm) ∧ Hid (Tc [] W6 W)) (fun _ j _=>sl.length - (intOf j).toNat)
   case atStart=>exact ⟨0,Nat.zero_le _,rfl,rfl,hid (Tc.refl _ _)⟩
   case round =>
    obtain ⟨q,hq,rfl,rfl,HTI⟩:=hrel
    by_cases hql:q < sl.length
    ·have HNX:=hid (hasS_next (nm:=nm) hql)
     obtain ⟨e,he⟩:∃ e,e = sl[q]:=⟨_,rfl⟩
     have hge:sl[q]? = some e:=by rw [he]; exact List.getElem?_eq_getElem hql
     rw [← he] at HNX
     obtain ⟨lg,lc,hlg,hll,hlc⟩:=own_block HV6.out (by omega)
     injection hlg with e1 e2 e3
     subst e1
     subst e3
     obtain ⟨x0',_,_⟩:=row_of (oTG HV6.out HTI.out (fun y _ hy=>by cases hy)) (g:=lg) rfl hge
     have x0:wr.cell? ⟨lg,q * 3,none⟩ = some (.string (bs e.name)):=x0'
     clear x0'
     have y0:=cRw ((HTI.out.block bf (ltB HR6.out) (by simp)).trans HR6.out) 0
     generalize hasS (sl.take q) nm = dq at *
     clear he hge hlt
     have hbe:((bs e.name).toList == (bs nm).toList) = (e.name == nm):=by
      have h:∀ l:List UInt8,(bs l).toList = l:=fun l=>ByteArray.toList_mk l
      rw [h,h]
     cases hc:(e.name == nm) with
     | true =>
      rw [hc] at hbe
      go_wp2_with fail
      go_quiet (fail)
      go_wp2_with fail
      refine ⟨⟨q + 1,hql,rfl,by rw [HNX.out,hc,Bool.or_true],hid (HTI.out.drewN _)⟩,by simp [intOf]; omega⟩
     | false =>
      rw [hc] at hbe
      go_wp2_with fail
      go_quiet (fail)
      go_wp2_with fail
      refine ⟨⟨q + 1,hql,rfl,by rw [HNX.out,hc,Bool.or_false],hid (HTI.out.drewN _)⟩,by simp [intOf]; omega⟩
    ·obtain rfl:q = sl.length:=by omega
     have htk:sl.take sl.length = sl:=List.take_length
     rw [htk]
     have HFS9:=hid (And.intro (HFS.out.1.touch (HT6.out.trans HTI.out (by simp)) (by simp)) HFS.out.2)
     have HBW:=hid (show Below W2.heap.size W2 wr from HT.out.trans ((HT6.out.trans HTI.out (by simp)).below HT.out.size (fun b hb=>by cases hb)))
     have HVW:=hid (oTG HV6.out HTI.out (fun y _ hy=>by cases hy))
     have r9:=(HTI.out.block bf (ltB HR6.out) (by simp)).trans HR6.out
     have c9:=cRw r9
     have hpb:=HP.out
     have hsp:hasN (stP B ((l.take k).map ThI.x)) (thName x) = hasS sl nm:=by rw [← hpb,hasS_pub,HNM.out]
     have hstep:=stP_snoc B ((l.take k).map ThI.x) x
     rw [hsp] at hstep
     have HST:=hid (show stP B ((l.take (k + 1)).map ThI.x) = if hasS sl nm = true then stP B ((l.take k).map ThI.x) else stP B ((l.take k).map ThI.x) ++ [thFile B x] by rw [HPK.out]; exact hstep)
     clear hstep hsp hpb htk
     cases hh9:hasS sl nm with
     | true =>
      have hst:=HST.out
      rw [if_pos hh9] at hst
      have HST2:=hid hst
      clear hst HST
      go_wp2_with fail
      refine ⟨⟨k + 1,sl,D,hlt,rfl,HVW,HFS9,hid (by rw [HST2.out]; exact HP.out),HBW⟩,by simp [intOf]; omega⟩
     | false =>
      have hst:=HST.out
      rw [if_neg (by rw [hh9]; decide)] at hst
      have HST2:=hid hst
      clear hst HST
      go_wp2_with (at_builtin; refine wpList_file _ rfl _ _ rfl W2.heap.size (.slice va sl.length vc) sl.length (sl.flatMap SFl.cells) wr.heap.size (.string (bs nm)) (.bool x.shut) (.slice xa nb.length xc) rfl rfl (World.ownsRow.alloc HVW.out _) (heap_alloc_new wr _) rfl rfl rfl (by omega) (by simp; exact Nat.le_succ_of_le HBW.out.size) ?_; intro v7 w7 o7 g7 b7; have HO7:=hid o7; have HG7:=hid g7; have HB7:=hid ((HBW.out.alloc HBW.out.size _).trans b7); obtain ⟨m7,c7,e7⟩:=oSC o7; subst e7; clear o7 g7 b7)
      obtain ⟨hbl,hrw,hD5⟩:=H6.out
      have hF:=HFS9.out.1.grow (e:=⟨nm,⟨x.shut,nb⟩,.slice xa nb.length xc,[]⟩) (hbl.touch HTI.out (by simp)) (hrw.touch HTI.out (by simp)) HVW.out HG7.out
      have ho7:=HO7.out
      have hst:=HST2.out
      have hp:=HP.out
      have hnb:=HNB.out
      have hnm:=HNM.out
      refine ⟨⟨k + 1,_,_,hlt,rfl,hid ?_,hid ⟨hF,fun y hy=>?_⟩,hid ?_,HB7⟩,by simp [intOf]; omega⟩
      ·rw [List.length_append,List.flatMap_append]
       simpa [SFl.cells,encStr,bs] using ho7
      ·rcases List.mem_append.1 hy with hy | hy
       ·exact HFS9.out.2 y hy
       ·exact Nat.le_trans HT.out.size (hD5 y hy)
      ·rw [hst,List.map_append,hp,hnm,hnb]
       rfl
  ·obtain rfl:k = l.length:=by omega
   have htk:l.take l.length = l:=List.take_length
   have HSA:=hid (state_any (b:=(B:Int)) HV.out (by omega) (fun e he=>by obtain ⟨xa,xc,e1,_⟩:=HFS.out.1.each e he; exact ⟨_,_,_,e1⟩))
   obtain ⟨tt2,r2,r3,hz2⟩:=HT2.out
   have hr3:=(HT.out.block (rb + 1) (by omega)).trans r3
   have HR3:=hid hr3
   clear tt2 r2 r3 hz2 hr3
   rw [htk] at HP
   clear htk
   go_upto_region 16 with fail
   go_wp2_with (go_at_call 59; refine HSA.out.mono ?_; rintro e w9 ⟨s9,rfl,ho9,ht9⟩; have hr9:=(ht9.block (rb + 1) (ltB HR3.out) (by simp)).trans HR3.out; have c9:=cRw hr9; have u9:=uRw hr9; have HO9:=hid ho9; have HT9:=hid ht9; have HR9:=hid hr9; obtain ⟨sa,sc,e9⟩:=oSC ho9; subst e9; clear ho9 ht9 hr9)
   have hrb:=HRB.out
   have f1:=Lib.heap_setCell_same (i:=1) (Lib.heap_setCell_same (i:=0) HR9.out (.int .i64 (B:Int))) (.slice sa sl.length sc)
   have g0:=cRw f1 0
   have g1:=cRw f1 1
   have hz2:=HT2.out.2.2.2
   have hwz:=HT.out.size
   have hF:=(HFS.out.1.sub (m:=sortF sl) (fun e he=>sortF_mem.1 he)).touch HT9.out (by simp)
   have t9:Tc [rb + 1] w9 ((w9.setCell ⟨rb + 1,0,none⟩ (.int .i64 (B:Int))).setCell ⟨rb + 1,1,none⟩ (.slice sa sl.length sc)):=((Tc.refl _ w9).setCell (.inl (by simp)) _).setCell (.inl (by simp)) _
   have ho9:=HO9.out
   have hlen:=sortF_len sl
   rw [← hlen] at ho9
   have hFd:=hF.touch t9 (fun y hy hx=>by
    rw [List.mem_singleton] at hy
    subst hy
    have:=HFS.out.2 _ hx
    omega)
   have hOd:=oTG ho9 t9 (fun y hy hx=>by
    rw [List.mem_singleton] at hx
    have:=(ho9.lt y hy).1
    omega)
   obtain ⟨D',hD',hDm⟩:=hFd.done hOd
   rw [hlen] at hD'
   refine bodyPost_ret (v:=.agg #[.int .i64 (B:Int),.slice sa sl.length sc]) (by simp [results,Tryz.results24,go_sem,g0,g1]) rfl ⟨B,sl,D',_,rfl,hB.out,hD',HP.out,fun y hy=>?_,((HTW.out.trans HT9.out (by simp)).setCell (.inr (by show _ ≤ rb + 1; omega)) _).setCell (.inr (by show _ ≤ rb + 1; omega)) _⟩
   rcases (hDm y hy).2 with h1 | h1
   ·have:=HFS.out.2 y h1; omega
   ·have:=(hOd.lt y h1).1; omega
end
end Go.Proofs.YthehcjjckabljaaGreatDoor
