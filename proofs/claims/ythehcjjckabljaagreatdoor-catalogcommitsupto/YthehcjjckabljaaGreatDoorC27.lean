import Derived.Test.YthehcjjckabljaaGreatDoorC26
namespace Go.Proofs.YthehcjjckabljaaGreatDoor
open Go.RowKit Go.Deep
set_option maxRecDepth 100000
set_option linter.unusedSimpArgs false
set_option linter.unusedVariables false
theorem conv_back (W:World) (d:List UInt8):∃ cc W',(convert 9 118 (.string (bs d))).run Tryz.prog W = .ok (.slice (some ⟨W.heap.size,0,none⟩) d.length cc) W' ∧ ByD W' [W.heap.size] (.slice (some ⟨W.heap.size,0,none⟩) d.length cc) d ∧ RwD W' [W.heap.size] ∧ Tc [] W W' ∧ W'.heap.size = W.heap.size + 1:=by
 have hsz:(bs d).size = d.length:=by show d.toArray.size = _; simp
 have h:=Lib.run_convert_string_bytes (P:=Tryz.prog) W 9 118 5 (bs d) Tryz.underlying9 Tryz.underlying118 Tryz.underlying5
 rw [hsz] at h
 refine ⟨_,_,h,⟨_,_,_,rfl,⟨rfl,grownCap_ge _ _ _ _,fun _=>⟨_,rfl,by rw [Lib.bytesWorld_size]; exact Nat.lt_succ_self _,fun j v hj=>?_⟩,fun e=>by cases e⟩,fun a ha _=>by cases ha; simp⟩,fun y hy=>?_,Tc.of_below (Lib.bytesWorld_below W 5 _) (Nat.le_refl _),Lib.bytesWorld_size _ _ _⟩
 ·have hjl:j < d.length:=by
   have:=(List.getElem?_eq_some_iff.1 hj).1
   simpa [Lib.byteCells_length] using this
  rw [azA,Lib.bytesWorld_cell W 5 (bs d) j (by rw [hsz]; exact hjl),← hj]
  simp [Lib.byteCells,hjl,bs]
 ·rw [List.mem_singleton] at hy
  subst hy
  exact ⟨_,_,_,Lib.bytesWorld_at_new W 5 _,.inr rfl⟩
section
variable {w:World} {l:List SFl} {fv:Value} {D:List Nat} {b:Int}
structure CpW (w W:World) (b:Int) (fv ov:Value) (bw:Nat):Prop where
 src:W.heap[bw]? = some (.cells #[.int .i64 b,fv] 42 (0,0))
 res:W.heap[bw + 1]? = some (.cells #[.int .i64 0,.slice none 0 0] 42 (0,0))
 row:W.heap[bw + 2]? = some (.cells #[.int .i64 b,ov] 42 (0,0))
 base:w.heap.size = bw
 touch:Tc [] w W
theorem CpW.step {w W W':World} {b:Int} {fv ov:Value} {bw:Nat} {G:List Nat} (h:CpW w W b fv ov bw) (t:Tc G W W') (hG:∀ y ∈ G,bw + 3 ≤ y):CpW w W' b fv ov bw:=
 ⟨(t.block _ (ltB h.src) (fun hx=>by have:=hG _ hx; omega)).trans h.src,(t.block _ (ltB h.res) (fun hx=>by have:=hG _ hx; omega)).trans h.res,(t.block _ (ltB h.row) (fun hx=>by have:=hG _ hx; omega)).trans h.row,h.base,h.touch.trans t (fun y hy=>.inr (by have:=hG y hy; have:=h.base; omega))⟩
theorem CpW.set {w W:World} {b:Int} {fv ov:Value} {bw:Nat} (h:CpW w W b fv ov bw) (ov':Value):CpW w (W.setCell ⟨bw + 2,1,none⟩ ov') b fv ov' bw:=by
 have h2:=h.base
 exact ⟨(blk_setCell_other _ _ _ _ (by show bw ≠ bw + 2; omega)).trans h.src,(blk_setCell_other _ _ _ _ (by show bw + 1 ≠ bw + 2; omega)).trans h.res,Lib.heap_setCell_same h.row _,h.base,h.touch.setCell (.inr (by show _ ≤ bw + 2; omega)) _⟩
structure CpI (wc W:World) (bf:Nat) (nv:Value) (sh:Bool) (o2:Value) (D2:List Nat) (bls:List (List UInt8)) (svs:List Value):Prop where
 row:W.heap[bf]? = some (.cells #[nv,.bool sh,o2] 113 (0,0))
 blo:BlO W D2 o2 bls svs
 lo:∀ y ∈ D2,wc.heap.size ≤ y
 olo:∀ y,o2.ownBlock = some y → wc.heap.size ≤ y
 touch:Tc [bf] wc W
theorem CpI.start {wc:World} {bf:Nat} {nv:Value} {sh:Bool} (h:wc.heap[bf]? = some (.cells #[nv,.bool sh,.slice none 0 0] 113 (0,0))):CpI wc wc bf nv sh (.slice none 0 0) [] [] []:=
 ⟨h,BlO.nil _,fun y hy=>(by cases hy),fun y hy=>(by simp [Value.ownBlock] at hy),Tc.refl _ _⟩
theorem CpI.next {wc W Y w7:World} {bf gb:Nat} {nv o2 v' sv:Value} {sh:Bool} {D2:List Nat} {bls:List (List UInt8)} {svs:List Value} {d:List UInt8} (h:CpI wc W bf nv sh o2 D2 bls svs) (T:Tc [] W Y) (hs:ByD Y [gb] sv d) (hr:RwD Y [gb]) (hgb:W.heap.size ≤ gb) (hlb:bf < wc.heap.size)
  (ho:w7.ownsRow 0 118 1 v' (bls.length + 1) (svs ++ [sv])) (hg:Y.grownBy w7 o2.ownBlock) (hn:v'.ownBlock = o2.ownBlock ∨ v'.ownBlock = some Y.heap.size) :
  CpI wc (w7.setCell ⟨bf,2,none⟩ v') bf nv sh v' (D2 ++ [gb]) (bls ++ [d]) (svs ++ [sv]) ∧ Tc (bf :: o2.ownBlock.toList) W w7 ∧ w7.heap[bf]? = some (.cells #[nv,.bool sh,o2] 113 (0,0)):=by
 have hwc:=h.touch.size
 have hY:=T.size
 have B1:=(h.blo.touch T (by simp)).snoc hs hr (fun k hk hx=>by
  rw [List.mem_singleton] at hx
  subst hx
  have:=(h.blo.own.lt _ hk).2
  omega) ho hg hn
 have rY:=(T.block bf (by omega) (by simp)).trans h.row
 have t7:Tc (o2.ownBlock.toList) Y w7:=(Tc.refl _ _).grown hg (fun k hk=>.inl (by rw [hk]; simp))
 have hob:bf ∉ o2.ownBlock.toList:=fun hx=>by
  have:=h.olo bf (by simpa using hx)
  omega
 have r7:=(t7.block bf (by omega) hob).trans rY
 have tset:Tc [bf] w7 (w7.setCell ⟨bf,2,none⟩ v'):=(Tc.refl _ w7).setCell (.inl (by simp)) _
 have hvlo:∀ y,v'.ownBlock = some y → wc.heap.size ≤ y:=fun y hy=>by
  rcases hn with e | e
  ·rw [e] at hy; exact h.olo y hy
  ·rw [e] at hy
   have:=Option.some.inj hy
   omega
 have T7:Tc (bf :: o2.ownBlock.toList) W w7:=(T.mono (by simp)).trans (t7.mono (fun y hy=>List.mem_cons_of_mem _ hy)) (fun y hy=>.inl hy)
 have C7:Tc [bf] wc w7:=(h.touch.trans T (by simp)).trans t7 (fun y hy=>.inr (h.olo y (by simpa using hy)))
 refine ⟨⟨Lib.heap_setCell_same r7 _,B1.touch tset (fun y hy=>?_),fun y hy=>?_,hvlo,C7.trans tset (fun y hy=>.inl hy)⟩,T7,r7⟩
 ·rw [List.mem_singleton] at hy
  subst hy
  refine ⟨fun hx=>?_,fun e=>?_⟩
  ·rcases List.mem_append.1 hx with hx | hx
   ·have:=h.lo _ hx; omega
   ·rw [List.mem_singleton] at hx; omega
  ·have:=hvlo _ e
   omega
 ·rcases List.mem_append.1 hy with hy | hy
  ·exact h.lo y hy
  ·rw [List.mem_singleton] at hy
   omega
theorem step_blk {ops:Array Oper} {o:Oper} {a:Act} {w:World} {K:Act → World → Prop} {Q:Exit → Act → World → Prop} {X:Prop}
  (hg:o.guard = none) (s x:Operand) (hop:o.op = Op.call { callee:=Callee.builtin Builtin.append,args:=#[s,x],argTypes:=#[111,111] })
  (v:Value) (n:Nat) (xs:List Value) (b:Nat) (u:Value) (hs:a.eval s = v) (hx:a.eval x = .slice (some ⟨b,0,none⟩) 1 1) (hown:w.ownsRow 0 118 1 v n xs) (hb:w.heap[b]? = some (.cells #[u] 118 (0,0))) (h1:u.oneCell' = true) (hn:n ≤ 1099511627776)
  (hK:∀ v' w',w'.ownsRow 0 118 1 v' (n + 1) (xs ++ [u]) → w.grownBy w' v.ownBlock → (v'.ownBlock = v.ownBlock ∨ v'.ownBlock = some w.heap.size) → K (a.put o.dst v') w') :
  if Region.wanted o (yielded ops a.tmps) = true then Oper.wp Tryz.prog o a w K Q else X:=by
 have hw:Region.wanted o (yielded ops a.tmps) = true:=by simp [Region.wanted,hg]
 rw [if_pos hw]
 have hcell:=cRw hb 0
 simp only [List.getElem?_toArray,List.getElem?_cons_zero] at hcell
 obtain ⟨v',w',hrun,r1,r2,r3,r4⟩:=run_append_fresh w o.type v n xs hown ⟨b,0,none⟩ u hcell h1 hn
 unfold Oper.wp
 simp [execOp,hop,resolve,invoke,builtin,hs,hx,hrun,Result.andThen]
 exact hK v' w' r1 r2 r3
set_option maxHeartbeats 8000000 in
theorem copy_any (h:StD w D fv l) (hl:l.length ≤ 1048576) (hb:∀ e ∈ l,e.file.blocks.length ≤ 4194304 ∧ ∀ d ∈ e.file.blocks,d.length ≤ 65536) :
  Calls Tryz.prog 25 #[.agg #[.int .i64 b,fv]] w fun e w'=>∃ (l':List SFl) (D':List Nat) (fv':Value),e = .returned (.agg #[.int .i64 b,fv']) ∧ StD w' D' fv' l' ∧ l'.map SFl.pub = l.map SFl.pub ∧ (∀ y ∈ D',w.heap.size ≤ y) ∧ Tc [] w w':=by
 obtain ⟨fa,fc,rfl⟩:=h.sl
 have HH:=hid (fun W (tt:Tc [] w W)=>h.touch tt (fun y hy=>by cases hy))
 have HBB:=hid hb
 clear h hb
 go_enter Tryz.func25,Tryz.ntmps25
 go_upto_region 2 with fail
 obtain ⟨W1,hW1⟩:∃ W1,W1 = ((w.alloc (.cells #[.int .i64 b,.slice fa l.length fc] 42)).alloc (.cells #[.int .i64 0,.slice none 0 0] 42)).alloc (.cells #[.int .i64 b,.slice none 0 0] 42):=⟨_,rfl⟩
 have C1:CpW w W1 b (.slice fa l.length fc) (.slice none 0 0) w.heap.size:=by
  have z1:(w.alloc (.cells #[.int .i64 b,.slice fa l.length fc] 42)).heap.size = w.heap.size + 1:=by simp
  have z2:((w.alloc (.cells #[.int .i64 b,.slice fa l.length fc] 42)).alloc (.cells #[.int .i64 0,.slice none 0 0] 42)).heap.size = w.heap.size + 2:=by simp
  have x1:=heap_alloc_new w (.cells #[.int .i64 b,.slice fa l.length fc] 42)
  have x2:=heap_alloc_new (w.alloc (.cells #[.int .i64 b,.slice fa l.length fc] 42)) (.cells #[.int .i64 0,.slice none 0 0] 42)
  have x3:=heap_alloc_new ((w.alloc (.cells #[.int .i64 b,.slice fa l.length fc] 42)).alloc (.cells #[.int .i64 0,.slice none 0 0] 42)) (.cells #[.int .i64 b,.slice none 0 0] 42)
  have t2:Tc [] (w.alloc (.cells #[.int .i64 b,.slice fa l.length fc] 42)) _:=(Tc.refl [] _).alloc (.cells #[.int .i64 0,.slice none 0 0] 42)
  have t3:Tc [] ((w.alloc (.cells #[.int .i64 b,.slice fa l.length fc] 42)).alloc (.cells #[.int .i64 0,.slice none 0 0] 42)) _:=(Tc.refl [] _).alloc (.cells #[.int .i64 b,.slice none 0 0] 42)
  rw [z1] at x2
  rw [z2] at x3
  rw [hW1]
  exact ⟨(t3.block _ (by omega) (by simp)).trans ((t2.block _ (by omega) (by simp)).trans x1),(t3.block _ (by omega) (by simp)).trans x2,x3,rfl,(((Tc.refl [] w).alloc _).alloc _).alloc _⟩
 have hz1:W1.heap.size = w.heap.size + 3:=by rw [hW1]; simp
 rw [← hW1]
 have HC1:=hid (And.intro C1 hz1)
 clear hW1 C1 hz1
 generalize hbw:w.heap.size = bw at *
 rw [show bw + 1 + 1 = bw + 2 from rfl]
 have HBW:=hid hbw
 clear hbw
 go_wp2_with fail
 go_loopw [4] (fun i W=>∃ (k:Nat) (ov:Value) (sl:List SFl) (E:List Nat),k ≤ l.length ∧ i = .int .i64 k ∧ Hid (CpW w W b (.slice fa l.length fc) ov bw) ∧ Hid (W.ownsRow (bw + 3) 113 3 ov sl.length (sl.flatMap SFl.cells)) ∧ Hid (FsD W E sl ∧ ∀ y ∈ E,bw + 3 ≤ y) ∧ Hid (sl.map SFl.pub = (l.take k).map SFl.pub) ∧ Hid (bw + 3 ≤ W.heap.size)) (fun i _=>l.length - (intOf i).toNat)
 case atStart=>exact ⟨0,_,[],[],Nat.zero_le _,rfl,hid HC1.out.1,hid (World.ownsRow_nil _ _ _ _),hid ⟨FsD.nil _,fun y hy=>by cases hy⟩,hid rfl,hid (by rw [HC1.out.2]; exact Nat.le_refl _)⟩
 case round =>
  obtain ⟨k,ov,sl,E,hk,rfl,HC,HV,HFS,HP,HSZ⟩:=hrel
  have cs:=cRw HC.out.src
  have HTW:=hid HC.out.touch
  by_cases hlt:k < l.length
  ·obtain ⟨e,he⟩:∃ e,e = l[k]:=⟨_,rfl⟩
   have hge:l[k]? = some e:=by rw [he]; exact List.getElem?_eq_getElem hlt
   have HTK:=hid (show l.take (k + 1) = l.take k ++ [e] by rw [he]; exact take_snoc hlt)
   have hbe:=HBB.out e (by rw [he]; exact List.getElem_mem hlt)
   obtain ⟨a,c',hfa,_,hal,_,_,_,hbl⟩:=(HH.out wr HTW.out).at_ k e hge
   injection hfa with e1 e2 e3
   subst e1
   subst e3
   have HCE:Hid (∀ W,Tc [] w W → W.cell? (a.add (k * 3)) = some (encStr e.name) ∧ W.cell? ⟨(a.add (k * 3)).block,(a.add (k * 3)).off + 1,none⟩ = some (.bool e.file.shut) ∧ W.cell? ⟨(a.add (k * 3)).block,(a.add (k * 3)).off + 2,none⟩ = some e.sv ∧ BlD W D e.sv e.file.blocks ∧ a.block < w.heap.size):=hid (fun W tt=>by
    obtain ⟨a',c',hfa,_,hl',c0,c1,c2,hb'⟩:=(HH.out W tt).at_ k e hge
    obtain ⟨a2,c2',hfa2,_,hl2,_⟩:=(HH.out w (Tc.refl _ _)).at_ k e hge
    injection hfa with e1 e2 e3
    injection e1 with e1
    injection hfa2 with e4 e5 e6
    injection e4 with e4
    subst e1
    exact ⟨c0,c1,c2,hb',by rw [e4]; exact hl2⟩)
   obtain ⟨xa,xc,hsv,_⟩:=id hbl
   obtain ⟨bls,hbls⟩:∃ bls,bls = e.file.blocks:=⟨_,rfl⟩
   rw [← hbls] at hbe hsv HCE
   rw [hsv] at HCE
   have HBL:=hid hbls
   have HSV:=hid hsv
   have HBE:=hid hbe
   clear he hge hbe hbl hsv hal hbls
   obtain ⟨c0,c1,c2,_,hal⟩:=HCE.out wr HTW.out
   have hki:(k:Int) < (l.length:Int):=by omega
   have hnw0:=World.new_ne wr _ c0
   have hnw1:=World.new_ne wr _ c1
   have hnw2:=World.new_ne wr _ (cs 1)
   have hcs1:=cs 1
   simp only [List.getElem?_toArray,List.getElem?_cons_succ,List.getElem?_cons_zero] at hcs1
   clear hal
   obtain ⟨w3,hw3⟩:∃ w3,w3 = wr:=⟨_,rfl⟩
   subst hw3
   go_wp2_with fail
   go_cut [5] (fun v W=>∃ bf,v = ptr bf ∧ Hid (W.heap[bf]? = some (.cells #[encStr e.name,.bool e.file.shut,.slice none 0 0] 113 (0,0)) ∧ Tc [] w3 W ∧ w3.heap.size ≤ bf))
   case first =>
    go_region_held3 (fun W=>W.cell? ⟨bw,1,none⟩ = some (.slice (some a) l.length fc) ∧ W.cell? (a.add (k * 3)) = some (encStr e.name) ∧ W.cell? ⟨(a.add (k * 3)).block,(a.add (k * 3)).off + 1,none⟩ = some (.bool e.file.shut)) (go_keep) (fail)
    all_goals
     go_wp2_with fail
     go_meet
     exact ⟨_,rfl,hid ⟨heap_alloc_new w3 _,((Tc.refl [] w3).alloc _).drew,Nat.le_refl _⟩⟩
   case rest =>
    obtain ⟨bf,rfl,hc⟩:=hcut
    have HCU:=hid hc
    have hlb:=ltB hc.1
    have hcw:=HC.out.step hc.2.1 (fun y hy=>by cases hy)
    have HCC:=hid hcw
    clear hc hnw0 hnw1 hnw2 hcs1 c0 c1 c2 cs hcw
    have HLB:=hid hlb
    clear hlb
    go_wp2_with fail
    go_loopw [6] (fun i W=>∃ (j:Nat) (o2:Value) (D2:List Nat) (svs:List Value),j ≤ bls.length ∧ i = .int .i64 j ∧ Hid (CpI wc W bf (encStr e.name) e.file.shut o2 D2 (bls.take j) svs)) (fun i _=>bls.length - (intOf i).toNat)
    case atStart=>exact ⟨0,_,[],[],Nat.zero_le _,rfl,hid (CpI.start HCU.out.1)⟩
    case round =>
     obtain ⟨j,o2,D2,svs,hj,rfl,HI⟩:=hrel
     have HTC:=hid (HCC.out.step HI.out.touch (fun y hy=>by rw [List.mem_singleton] at hy; subst hy; have:=HCU.out.2.2; have:=HSZ.out; omega))
     have HTW2:=hid HTC.out.touch
     obtain ⟨c0,c1,c2,hbl,hal⟩:=HCE.out wr HTW2.out
     have cs1:=cRw HTC.out.src 1
     have cf:=cRw HI.out.row
     have uf:=uRw HI.out.row
     have hbl4:=HBE.out.1
     by_cases hjl:j < bls.length
     ·have hji:(j:Int) < (bls.length:Int):=by omega
      obtain ⟨d,hd⟩:∃ d,d = bls[j]:=⟨_,rfl⟩
      obtain ⟨_,_,_,hblw,halw⟩:=HCE.out w (Tc.refl _ _)
      obtain ⟨xa',xc',hsv',hat⟩:=hblw
      injection hsv' with e1 e2 e3
      subst e1
      subst e3
      obtain ⟨a1,sv1,rfl,_,hx2,hx3,xb,xn,xq,rfl,hsh,_⟩:=hat j hjl
      have HTD:=hid (show bls.take (j + 1) = bls.take j ++ [d] by rw [hd]; exact List.take_succ_eq_append_getElem hjl)
      rw [← hd] at hsh
      clear hd hat hbl
      go_upto_region 9 with fail
      obtain ⟨oa,oc,ho2⟩:=oSC HI.out.blo.own
      have htl:(bls.take j).length = j:=by rw [List.length_take]; omega
      have HJL:=hid htl
      rw [htl] at ho2
      subst ho2
      obtain ⟨G9,hG9⟩:∃ G9,G9 = bf :: (Value.slice oa j oc).ownBlock.toList:=⟨_,rfl⟩
      have HG:=hid (show bf ∈ G9 ∧ G9 = bf :: (Value.slice oa j oc).ownBlock.toList from ⟨by rw [hG9]; simp,hG9⟩)
      have hGlo:∀ y ∈ G9,bw < y ∧ w.heap.size ≤ y:=fun y hy=>by
       have h1:=HCU.out.2.2
       have h2:=HSZ.out
       have h3:=HBW.out
       have h4:=HLB.out
       rw [hG9] at hy
       rcases List.mem_cons.1 hy with rfl | hy
       ·omega
       ·have:=HI.out.olo y (by simpa using hy)
        omega
      have HRD:Hid (∀ W,Tc G9 wr W → W.cell? ⟨bw,1,none⟩ = some (.slice (some a) l.length fc) ∧ W.cell? ⟨(a.add (k * 3)).block,(a.add (k * 3)).off + 2,none⟩ = some (.slice (some a1) bls.length xc) ∧ W.cell? (a1.add j) = some (.slice xb xn xq) ∧ Shows W xb xn xq d):=hid (fun W tt=>by
       have tw:Tc [] w W:=HTW2.out.trans tt (fun y hy=>.inr (hGlo y hy).2)
       refine ⟨(tt.cell (p:=⟨bw,1,none⟩) (ltB HTC.out.src) (fun hx=>Nat.lt_irrefl _ (hGlo _ hx).1)).trans cs1,(HCE.out W tw).2.2.1,(tw.cell (by rw [add_block]; exact hx2) (by simp)).trans hx3,hsh.touch tw (by simp)⟩)
      clear cs1 c0 c1 c2 cf uf hx2 hx3 hsh hG9 hGlo halw
      refine wp_region_noPanic ?_
      refine wp_region_held_drew (S:=fun W=>Tc G9 wr W) (by kernel_rfl) ((Tc.refl G9 wr).drew) (fun hHeld=>?_)
      obtain ⟨Y,hY⟩:∃ Y,Y = wr.drew:=⟨_,rfl⟩
      have HTY:=hid (show Tc [] wr Y by rw [hY]; exact (Tc.refl [] wr).drew)
      rw [← hY] at hHeld ⊢
      clear hY
      refine wpAnyH_take (i:=0) (v:=?_) (by simp only [List.getElem?_toArray,List.getElem?_cons_zero]; rfl) (by kernel_rfl) (by kernel_rfl) (by kernel_rfl) (fun _ _ _ h=>h) (Or.inl ⟨by rfl,?_⟩) (by assumption) ?_
      rotate_left 1
      ·intro w hSw; (try dsimp only at hSw); obtain ⟨z1,z2,z3,z4⟩:=HRD.out w hSw; have z5:=conv_shows z4; go_simp; (try with_reducible rfl)
      try simp only [Act.put,List.setIfInBounds_toArray,List.set_cons_zero,List.set_cons_succ]
      refine wpAnyH_take (i:=2) (v:=?_) (by simp only [List.getElem?_toArray,List.getElem?_cons_succ,List.getElem?_cons_zero]; rfl) (by kernel_rfl) (by kernel_rfl) (by kernel_rfl) (fun _ _ _ h=>h) (Or.inl ⟨by rfl,?_⟩) (by assumption) ?_
      rotate_left 1
      ·intro w hSw; (try dsimp only at hSw); obtain ⟨z1,z2,z3,z4⟩:=HRD.out w hSw; have z5:=conv_shows z4; go_simp; (try with_reducible rfl)
      try simp only [Act.put,List.setIfInBounds_toArray,List.set_cons_zero,List.set_cons_succ]
      refine wpAnyH_take (i:=3) (v:=?_) (by simp only [List.getElem?_toArray,List.getElem?_cons_succ,List.getElem?_cons_zero]; rfl) (by kernel_rfl) (by kernel_rfl) (by kernel_rfl) (fun _ _ _ h=>h) (Or.inl ⟨by rfl,?_⟩) (by assumption) ?_
      rotate_left 1
      ·intro w hSw; (try dsimp only at hSw); obtain ⟨z1,z2,z3,z4⟩:=HRD.out w hSw; have z5:=conv_shows z4; go_simp; (try with_reducible rfl)
      try simp only [Act.put,List.setIfInBounds_toArray,List.set_cons_zero,List.set_cons_succ]
      refine wpAnyH_take (i:=4) (v:=?_) (by simp only [List.getElem?_toArray,List.getElem?_cons_succ,List.getElem?_cons_zero]; rfl) (by kernel_rfl) (by kernel_rfl) (by kernel_rfl) (fun _ _ _ h=>h) (Or.inl ⟨by rfl,?_⟩) (by assumption) ?_
      rotate_left 1
      ·intro w hSw; (try dsimp only at hSw); obtain ⟨z1,z2,z3,z4⟩:=HRD.out w hSw; have z5:=conv_shows z4; go_simp; (try with_reducible rfl)
      try simp only [Act.put,List.setIfInBounds_toArray,List.set_cons_zero,List.set_cons_succ]
      refine wpAnyH_take (i:=5) (v:=?_) (by simp only [List.getElem?_toArray,List.getElem?_cons_succ,List.getElem?_cons_zero]; rfl) (by kernel_rfl) (by kernel_rfl) (by kernel_rfl) (fun _ _ _ h=>h) (Or.inl ⟨by rfl,?_⟩) (by assumption) ?_
      rotate_left 1
      ·intro w hSw; (try dsimp only at hSw); obtain ⟨z1,z2,z3,z4⟩:=HRD.out w hSw; have z5:=conv_shows z4; go_simp; (try with_reducible rfl)
      try simp only [Act.put,List.setIfInBounds_toArray,List.set_cons_zero,List.set_cons_succ]
      refine wpAnyH_take (i:=6) (v:=?_) (by simp only [List.getElem?_toArray,List.getElem?_cons_succ,List.getElem?_cons_zero]; rfl) (by kernel_rfl) (by kernel_rfl) (by kernel_rfl) (fun _ _ _ h=>h) (Or.inl ⟨by rfl,?_⟩) (by assumption) ?_
      rotate_left 1
      ·intro w hSw; (try dsimp only at hSw); obtain ⟨z1,z2,z3,z4⟩:=HRD.out w hSw; have z5:=conv_shows z4; go_simp; (try with_reducible rfl)
      try simp only [Act.put,List.setIfInBounds_toArray,List.set_cons_zero,List.set_cons_succ]
      refine wpAnyH_take (i:=7) (v:=?_) (by simp only [List.getElem?_toArray,List.getElem?_cons_succ,List.getElem?_cons_zero]; rfl) (by kernel_rfl) (by kernel_rfl) (by kernel_rfl) (fun _ _ _ h=>h) (Or.inl ⟨by rfl,?_⟩) (by assumption) ?_
      rotate_left 1
      ·intro w hSw; (try dsimp only at hSw); obtain ⟨z1,z2,z3,z4⟩:=HRD.out w hSw; have z5:=conv_shows z4; go_simp; (try with_reducible rfl)
      try simp only [Act.put,List.setIfInBounds_toArray,List.set_cons_zero,List.set_cons_succ]
      refine wpAnyH_take (i:=8) (v:=?_) (by simp only [List.getElem?_toArray,List.getElem?_cons_succ,List.getElem?_cons_zero]; rfl) (by kernel_rfl) (by kernel_rfl) (by kernel_rfl) (fun _ _ _ h=>h) (Or.inl ⟨by rfl,?_⟩) (by assumption) ?_
      rotate_left 1
      ·intro w hSw; (try dsimp only at hSw); obtain ⟨z1,z2,z3,z4⟩:=HRD.out w hSw; have z5:=conv_shows z4; go_simp; (try with_reducible rfl)
      try simp only [Act.put,List.setIfInBounds_toArray,List.set_cons_zero,List.set_cons_succ]
      refine wpAnyH_take (i:=9) (v:=?_) (by simp only [List.getElem?_toArray,List.getElem?_cons_succ,List.getElem?_cons_zero]; rfl) (by kernel_rfl) (by kernel_rfl) (by kernel_rfl) (fun _ _ _ h=>h) (Or.inl ⟨by rfl,?_⟩) (by assumption) ?_
      rotate_left 1
      ·intro w hSw; (try dsimp only at hSw); obtain ⟨z1,z2,z3,z4⟩:=HRD.out w hSw; have z5:=conv_shows z4; go_simp; (try with_reducible rfl)
      try simp only [Act.put,List.setIfInBounds_toArray,List.set_cons_zero,List.set_cons_succ]
      refine wpAnyH_take (i:=10) (v:=?_) (by simp only [List.getElem?_toArray,List.getElem?_cons_succ,List.getElem?_cons_zero]; rfl) (by kernel_rfl) (by kernel_rfl) (by kernel_rfl) (fun _ _ _ h=>h) (Or.inl ⟨by rfl,?_⟩) (by assumption) ?_
      rotate_left 1
      ·intro w hSw; (try dsimp only at hSw); obtain ⟨z1,z2,z3,z4⟩:=HRD.out w hSw; have z5:=conv_shows z4; go_simp; (try with_reducible rfl)
      try simp only [Act.put,List.setIfInBounds_toArray,List.set_cons_zero,List.set_cons_succ]
      refine wpAnyH_take (i:=11) (v:=?_) (by simp only [List.getElem?_toArray,List.getElem?_cons_succ,List.getElem?_cons_zero]; rfl) (by kernel_rfl) (by kernel_rfl) (by kernel_rfl) (fun _ _ _ h=>h) (Or.inl ⟨by rfl,?_⟩) (by assumption) ?_
      rotate_left 1
      ·intro w hSw; (try dsimp only at hSw); obtain ⟨z1,z2,z3,z4⟩:=HRD.out w hSw; have z5:=conv_shows z4; go_simp; (try with_reducible rfl)
      try simp only [Act.put,List.setIfInBounds_toArray,List.set_cons_zero,List.set_cons_succ]
      have y2:=cRw (((HTY.out).block bf (Nat.lt_of_lt_of_le HLB.out HI.out.touch.size) (by simp)).trans HI.out.row) 2
      simp only [List.getElem?_toArray,List.getElem?_cons_succ,List.getElem?_cons_zero] at y2
      obtain ⟨cc,Yb,hcv,hby,hrw,tb,zb⟩:=conv_back Y d
      have HB9:Hid True:=hid trivial
      simp only [bs] at hcv
      refine wpAnyH_ready (rs:=[1,12]) (by kernel_rfl) (by simp) ?_
      refine AllReadyH.cons (by simp only [List.getElem?_toArray,List.getElem?_cons_succ,List.getElem?_cons_zero]; rfl) (fun K hK=>?_) (AllReadyH.cons (by simp only [List.getElem?_toArray,List.getElem?_cons_succ,List.getElem?_cons_zero]; rfl) (fun K hK=>?_) AllReadyH.nil)
      ·go_simp
       clear hHeld
       refine hK.out _ _ (HTY.out.mono (by simp)) (fun hHeld=>?_)
       clear hK K
       try simp only [Act.put,List.setIfInBounds_toArray,List.set_cons_zero,List.set_cons_succ]
       refine wpAnyH_ready (rs:=[12]) (by kernel_rfl) (by simp) ?_
       refine AllReadyH.cons (by simp only [List.getElem?_toArray,List.getElem?_cons_succ,List.getElem?_cons_zero]; rfl) (fun K hK=>?_) AllReadyH.nil
       go_simp
       have HB9:=hid (And.intro hby (And.intro hrw (And.intro tb zb)))
       have HTB:=hid ((HTY.out).trans tb (by simp))
       have HGB:=hid (show wr.heap.size ≤ Y.heap.size from (HTY.out).size)
       generalize Y.heap.size = gb at *
       clear hcv hby hrw tb zb
       clear hHeld
       refine hK.out _ _ (HTB.out.mono (by simp)) (fun hHeld=>?_)
       clear hK K
       try simp only [Act.put,List.setIfInBounds_toArray,List.set_cons_zero,List.set_cons_succ]
       have HOW:=hid ((oTG HI.out.blo.own HTB.out (fun y _ hy=>by cases hy)).alloc (.cells #[.slice (some ⟨gb,0,none⟩) d.length cc] 118))
       rw [HJL.out] at HOW
       have tal:=(Tc.refl [] Yb).alloc (.cells #[.slice (some ⟨gb,0,none⟩) d.length cc] 118)
       have HNX:=hid (fun v7 w7 r1 r2 r3=>HI.out.next (Y:=Yb.alloc (.cells #[.slice (some ⟨gb,0,none⟩) d.length cc] 118)) (gb:=gb) (v':=v7) (w7:=w7) (d:=d) (sv:=.slice (some ⟨gb,0,none⟩) d.length cc) (HTB.out.trans tal (by simp)) (HB9.out.1.touch tal (by simp)) (HB9.out.2.1.touch tal (by simp)) HGB.out HLB.out (by rw [HJL.out]; exact r1) r2 r3)
       rw [← HG.out.2] at HNX
       clear tal
       refine wpAnyH_ready (rs:=[13]) (by kernel_rfl) (by simp) ?_
       refine AllReadyH.cons (by simp only [List.getElem?_toArray,List.getElem?_cons_succ,List.getElem?_cons_zero]; rfl) (fun K hK=>?_) AllReadyH.nil
       go_simp
       have HTA:=hid (HTB.out.alloc (.cells #[.slice (some ⟨gb,0,none⟩) d.length cc] 118))
       clear hHeld
       refine hK.out _ _ (HTA.out.mono (by simp)) (fun hHeld=>?_)
       clear hK K
       try simp only [Act.put,List.setIfInBounds_toArray,List.set_cons_zero,List.set_cons_succ]
       refine wpAnyH_ready (rs:=[14]) (by kernel_rfl) (by simp) ?_
       refine AllReadyH.cons (by simp only [List.getElem?_toArray,List.getElem?_cons_succ,List.getElem?_cons_zero]; rfl) (fun K hK=>?_) AllReadyH.nil
       refine step_blk rfl _ _ rfl (.slice oa j oc) j svs Yb.heap.size (.slice (some ⟨gb,0,none⟩) d.length cc) rfl rfl HOW.out (heap_alloc_new Yb _) rfl (by omega) (fun v7 w7 r1 r2 r3=>?_)
       obtain ⟨n1,n2,n3⟩:=HNX.out v7 w7 r1 r2 r3
       obtain ⟨va7,vc7,hv7⟩:=oSC r1
       subst hv7
       have HN:=hid n1
       have y7:=cRw n3 2
       have z7:=uRw n3 2
       have HS7:=hid n2
       clear r1 r2 r3 n1 n2 n3
       clear hHeld
       refine hK.out _ _ HS7.out (fun hHeld=>?_)
       clear hK K
       try simp only [Act.put,List.setIfInBounds_toArray,List.set_cons_zero,List.set_cons_succ]
       refine wpAnyH_take (i:=15) (v:=?_) (by simp only [List.getElem?_toArray,List.getElem?_cons_succ,List.getElem?_cons_zero]; rfl) (by kernel_rfl) (by kernel_rfl) (by kernel_rfl) (fun _ _ _ h=>h) (Or.inl ⟨by rfl,?_⟩) (by assumption) ?_
       rotate_left 1
       ·intro w hSw; (try dsimp only at hSw); obtain ⟨z1,z2,z3,z4⟩:=HRD.out w hSw; have z5:=conv_shows z4; go_simp; (try with_reducible rfl)
       try simp only [Act.put,List.setIfInBounds_toArray,List.set_cons_zero,List.set_cons_succ]
       refine wpAnyH_ready (rs:=[16]) (by kernel_rfl) (by simp) ?_
       refine AllReadyH.cons (by simp only [List.getElem?_toArray,List.getElem?_cons_succ,List.getElem?_cons_zero]; rfl) (fun K hK=>?_) AllReadyH.nil
       go_simp
       clear hHeld
       refine hK.out _ _ (HS7.out.setCell (.inl HG.out.1) _) (fun hHeld=>?_)
       clear hK K
       try simp only [Act.put,List.setIfInBounds_toArray,List.set_cons_zero,List.set_cons_succ]
       refine wpAnyH_done (by kernel_rfl) ?_ _
       refine NoPanic.normal ?_
       go_wp2_with fail
       exact ⟨⟨j + 1,_,_,_,hjl,rfl,hid (by rw [HTD.out]; exact HN.out)⟩,by simp [intOf]; omega⟩
      ·go_simp
       have HB9:=hid (And.intro hby (And.intro hrw (And.intro tb zb)))
       have HTB:=hid ((HTY.out).trans tb (by simp))
       have HGB:=hid (show wr.heap.size ≤ Y.heap.size from (HTY.out).size)
       generalize Y.heap.size = gb at *
       clear hcv hby hrw tb zb
       clear hHeld
       refine hK.out _ _ (HTB.out.mono (by simp)) (fun hHeld=>?_)
       clear hK K
       try simp only [Act.put,List.setIfInBounds_toArray,List.set_cons_zero,List.set_cons_succ]
       have HOW:=hid ((oTG HI.out.blo.own HTB.out (fun y _ hy=>by cases hy)).alloc (.cells #[.slice (some ⟨gb,0,none⟩) d.length cc] 118))
       rw [HJL.out] at HOW
       have tal:=(Tc.refl [] Yb).alloc (.cells #[.slice (some ⟨gb,0,none⟩) d.length cc] 118)
       have HNX:=hid (fun v7 w7 r1 r2 r3=>HI.out.next (Y:=Yb.alloc (.cells #[.slice (some ⟨gb,0,none⟩) d.length cc] 118)) (gb:=gb) (v':=v7) (w7:=w7) (d:=d) (sv:=.slice (some ⟨gb,0,none⟩) d.length cc) (HTB.out.trans tal (by simp)) (HB9.out.1.touch tal (by simp)) (HB9.out.2.1.touch tal (by simp)) HGB.out HLB.out (by rw [HJL.out]; exact r1) r2 r3)
       rw [← HG.out.2] at HNX
       clear tal
       have y2:=cRw (((HTB.out).block bf (Nat.lt_of_lt_of_le HLB.out HI.out.touch.size) (by simp)).trans HI.out.row) 2
       simp only [List.getElem?_toArray,List.getElem?_cons_succ,List.getElem?_cons_zero] at y2
       refine wpAnyH_ready (rs:=[1,13]) (by kernel_rfl) (by simp) ?_
       refine AllReadyH.cons (by simp only [List.getElem?_toArray,List.getElem?_cons_succ,List.getElem?_cons_zero]; rfl) (fun K hK=>?_) (AllReadyH.cons (by simp only [List.getElem?_toArray,List.getElem?_cons_succ,List.getElem?_cons_zero]; rfl) (fun K hK=>?_) AllReadyH.nil)
       ·go_simp
        clear hHeld
        refine hK.out _ _ (HTB.out.mono (by simp)) (fun hHeld=>?_)
        clear hK K
        try simp only [Act.put,List.setIfInBounds_toArray,List.set_cons_zero,List.set_cons_succ]
        refine wpAnyH_ready (rs:=[13]) (by kernel_rfl) (by simp) ?_
        refine AllReadyH.cons (by simp only [List.getElem?_toArray,List.getElem?_cons_succ,List.getElem?_cons_zero]; rfl) (fun K hK=>?_) AllReadyH.nil
        go_simp
        have HTA:=hid (HTB.out.alloc (.cells #[.slice (some ⟨gb,0,none⟩) d.length cc] 118))
        clear hHeld
        refine hK.out _ _ (HTA.out.mono (by simp)) (fun hHeld=>?_)
        clear hK K
        try simp only [Act.put,List.setIfInBounds_toArray,List.set_cons_zero,List.set_cons_succ]
        refine wpAnyH_ready (rs:=[14]) (by kernel_rfl) (by simp) ?_
        refine AllReadyH.cons (by simp only [List.getElem?_toArray,List.getElem?_cons_succ,List.getElem?_cons_zero]; rfl) (fun K hK=>?_) AllReadyH.nil
        refine step_blk rfl _ _ rfl (.slice oa j oc) j svs Yb.heap.size (.slice (some ⟨gb,0,none⟩) d.length cc) rfl rfl HOW.out (heap_alloc_new Yb _) rfl (by omega) (fun v7 w7 r1 r2 r3=>?_)
        obtain ⟨n1,n2,n3⟩:=HNX.out v7 w7 r1 r2 r3
        obtain ⟨va7,vc7,hv7⟩:=oSC r1
        subst hv7
        have HN:=hid n1
        have y7:=cRw n3 2
        have z7:=uRw n3 2
        have HS7:=hid n2
        clear r1 r2 r3 n1 n2 n3
        clear hHeld
        refine hK.out _ _ HS7.out (fun hHeld=>?_)
        clear hK K
        try simp only [Act.put,List.setIfInBounds_toArray,List.set_cons_zero,List.set_cons_succ]
        refine wpAnyH_take (i:=15) (v:=?_) (by simp only [List.getElem?_toArray,List.getElem?_cons_succ,List.getElem?_cons_zero]; rfl) (by kernel_rfl) (by kernel_rfl) (by kernel_rfl) (fun _ _ _ h=>h) (Or.inl ⟨by rfl,?_⟩) (by assumption) ?_
        rotate_left 1
        ·intro w hSw; (try dsimp only at hSw); obtain ⟨z1,z2,z3,z4⟩:=HRD.out w hSw; have z5:=conv_shows z4; go_simp; (try with_reducible rfl)
        try simp only [Act.put,List.setIfInBounds_toArray,List.set_cons_zero,List.set_cons_succ]
        refine wpAnyH_ready (rs:=[16]) (by kernel_rfl) (by simp) ?_
        refine AllReadyH.cons (by simp only [List.getElem?_toArray,List.getElem?_cons_succ,List.getElem?_cons_zero]; rfl) (fun K hK=>?_) AllReadyH.nil
        go_simp
        clear hHeld
        refine hK.out _ _ (HS7.out.setCell (.inl HG.out.1) _) (fun hHeld=>?_)
        clear hK K
        try simp only [Act.put,List.setIfInBounds_toArray,List.set_cons_zero,List.set_cons_succ]
        refine wpAnyH_done (by kernel_rfl) ?_ _
        refine NoPanic.normal ?_
        go_wp2_with fail
        exact ⟨⟨j + 1,_,_,_,hjl,rfl,hid (by rw [HTD.out]; exact HN.out)⟩,by simp [intOf]; omega⟩
       ·go_simp
        have HTA:=hid (HTB.out.alloc (.cells #[.slice (some ⟨gb,0,none⟩) d.length cc] 118))
        clear hHeld
        refine hK.out _ _ (HTA.out.mono (by simp)) (fun hHeld=>?_)
        clear hK K
        try simp only [Act.put,List.setIfInBounds_toArray,List.set_cons_zero,List.set_cons_succ]
        have y2:=cRw (((HTA.out).block bf (Nat.lt_of_lt_of_le HLB.out HI.out.touch.size) (by simp)).trans HI.out.row) 2
        simp only [List.getElem?_toArray,List.getElem?_cons_succ,List.getElem?_cons_zero] at y2
        refine wpAnyH_ready (rs:=[1]) (by kernel_rfl) (by simp) ?_
        refine AllReadyH.cons (by simp only [List.getElem?_toArray,List.getElem?_cons_succ,List.getElem?_cons_zero]; rfl) (fun K hK=>?_) AllReadyH.nil
        go_simp
        clear hHeld
        refine hK.out _ _ (HTA.out.mono (by simp)) (fun hHeld=>?_)
        clear hK K
        try simp only [Act.put,List.setIfInBounds_toArray,List.set_cons_zero,List.set_cons_succ]
        refine wpAnyH_ready (rs:=[14]) (by kernel_rfl) (by simp) ?_
        refine AllReadyH.cons (by simp only [List.getElem?_toArray,List.getElem?_cons_succ,List.getElem?_cons_zero]; rfl) (fun K hK=>?_) AllReadyH.nil
        refine step_blk rfl _ _ rfl (.slice oa j oc) j svs Yb.heap.size (.slice (some ⟨gb,0,none⟩) d.length cc) rfl rfl HOW.out (heap_alloc_new Yb _) rfl (by omega) (fun v7 w7 r1 r2 r3=>?_)
        obtain ⟨n1,n2,n3⟩:=HNX.out v7 w7 r1 r2 r3
        obtain ⟨va7,vc7,hv7⟩:=oSC r1
        subst hv7
        have HN:=hid n1
        have y7:=cRw n3 2
        have z7:=uRw n3 2
        have HS7:=hid n2
        clear r1 r2 r3 n1 n2 n3
        clear hHeld
        refine hK.out _ _ HS7.out (fun hHeld=>?_)
        clear hK K
        try simp only [Act.put,List.setIfInBounds_toArray,List.set_cons_zero,List.set_cons_succ]
        refine wpAnyH_take (i:=15) (v:=?_) (by simp only [List.getElem?_toArray,List.getElem?_cons_succ,List.getElem?_cons_zero]; rfl) (by kernel_rfl) (by kernel_rfl) (by kernel_rfl) (fun _ _ _ h=>h) (Or.inl ⟨by rfl,?_⟩) (by assumption) ?_
        rotate_left 1
        ·intro w hSw; (try dsimp only at hSw); obtain ⟨z1,z2,z3,z4⟩:=HRD.out w hSw; have z5:=conv_shows z4; go_simp; (try with_reducible rfl)
        try simp only [Act.put,List.setIfInBounds_toArray,List.set_cons_zero,List.set_cons_succ]
        refine wpAnyH_ready (rs:=[16]) (by kernel_rfl) (by simp) ?_
        refine AllReadyH.cons (by simp only [List.getElem?_toArray,List.getElem?_cons_succ,List.getElem?_cons_zero]; rfl) (fun K hK=>?_) AllReadyH.nil
        go_simp
        clear hHeld
        refine hK.out _ _ (HS7.out.setCell (.inl HG.out.1) _) (fun hHeld=>?_)
        clear hK K
        try simp only [Act.put,List.setIfInBounds_toArray,List.set_cons_zero,List.set_cons_succ]
        refine wpAnyH_done (by kernel_rfl) ?_ _
        refine NoPanic.normal ?_
        go_wp2_with fail
        exact ⟨⟨j + 1,_,_,_,hjl,rfl,hid (by rw [HTD.out]; exact HN.out)⟩,by simp [intOf]; omega⟩
     ·obtain rfl:j = bls.length:=by omega
      have htk:bls.take bls.length = bls:=List.take_length
      rw [htk] at HI
      obtain ⟨oa,oc,ho2⟩:=oSC HI.out.blo.own
      subst ho2
      have hwc:=HCU.out
      have hsl:sl.length ≤ 1048576:=by
       have h1:=congrArg List.length HP.out
       simp only [List.length_map,List.length_take] at h1
       omega
      have hT3:Tc [bf] w3 wr:=(hwc.2.1.mono (by simp)).trans HI.out.touch (fun y hy=>.inl hy)
      have HO3:=hid (oTG HV.out hT3 (fun y hy hx=>by
       rw [List.mem_singleton] at hx
       have:=(HV.out.lt y hy).2
       have:=hwc.2.2
       omega))
      have HF3:=hid (HFS.out.1.touch hT3 (fun y hy hx=>by
       rw [List.mem_singleton] at hy
       have:=HFS.out.1.rows.lt _ hx
       have:=hwc.2.2
       omega))
      have HT3:=hid hT3
      obtain ⟨va,vc,hov⟩:=oSC HV.out
      subst hov
      have y2:=cRw HTC.out.row
      have HYS:=hid (show bw + 3 ≤ wr.heap.size from Nat.le_trans HSZ.out hT3.size)
      clear htk hwc hT3 uf c0 c1 hbl hal
      unfold encStr at cf
      go_wp2_with (at_builtin; refine wpList_file _ rfl _ _ rfl (bw + 3) (.slice va sl.length vc) sl.length (sl.flatMap SFl.cells) wr.heap.size (.string ⟨e.name.toArray⟩) (.bool e.file.shut) (.slice oa bls.length oc) rfl rfl (World.ownsRow.alloc HO3.out _) (heap_alloc_new wr _) rfl rfl rfl (by omega) (by have h9:=HYS.out; simp; omega) ?_; intro v7 w7 r1 r2 r3; have HO7:=hid r1; have HG7:=hid r2; have HB7:=hid r3; obtain ⟨m7,c7,e7⟩:=oSC r1; subst e7; have C7:=(HTC.out.step ((Tc.refl [] wr).alloc _) (by simp)).step ((Tc.refl ((Value.slice va sl.length vc).ownBlock.toList) _).grown r2 (fun k hk=>.inl (by rw [hk]; simp))) (fun y hy=>(HO3.out.lt y (by simpa using hy)).1); have HC7:=hid C7; have y7:=cRw C7.row; have z7:=uRw C7.row; clear r1 r2 r3 C7)
      obtain ⟨D',hb1,hb2,hb3⟩:=HI.out.blo.done
      have hwc:=HCU.out
      have hF7:=HF3.out.grow (e:=⟨e.name,⟨e.file.shut,bls⟩,.slice oa bls.length oc,[]⟩) hb1 hb2 HO3.out HG7.out
      have hset:Tc [bw + 2] w7 (w7.setCell ⟨bw + 2,1,none⟩ (.slice m7 (sl.length + 1) c7)):=(Tc.refl _ w7).setCell (.inl (by simp)) _
      have hlo:∀ y ∈ E ++ D',bw + 3 ≤ y:=fun y hy=>by
       have h2:=HSZ.out
       have h3:=hwc.2.1.size
       rcases List.mem_append.1 hy with hy | hy
       ·exact HFS.out.2 y hy
       ·rcases hb3 y hy with hy | hy
        ·have:=HI.out.lo y hy; omega
        ·have:=HI.out.olo y hy; omega
      refine ⟨⟨k + 1,_,sl ++ [⟨e.name,⟨e.file.shut,bls⟩,.slice oa bls.length oc,[]⟩],E ++ D',hlt,rfl,hid (HC7.out.set _),hid (oTG ?_ hset (fun y hy hx=>?_)),hid ⟨hF7.touch hset (fun y hy hx=>?_),hlo⟩,hid ?_,hid ?_⟩,by simp [intOf]; omega⟩
      ·rw [List.length_append,List.flatMap_append]
       have:=HO7.out
       simpa [SFl.cells,encStr] using this
      ·rw [List.mem_singleton] at hx
       have:=(HO7.out.lt y hy).1
       omega
      ·rw [List.mem_singleton] at hy
       have:=hlo y hx
       omega
      ·rw [HTK.out,List.map_append,List.map_append,HP.out,HBL.out]
       rfl
      ·have h1:=HYS.out
       have h2:=HG7.out.size
       have h3:(wr.alloc (.cells #[.string ⟨e.name.toArray⟩,.bool e.file.shut,.slice oa bls.length oc] 113)).heap.size = wr.heap.size + 1:=by simp
       simp only [World.setCell,Array.size_modify]
       omega
  ·obtain rfl:k = l.length:=by omega
   have htk:l.take l.length = l:=List.take_length
   rw [htk] at HP
   obtain ⟨va,vc,hov⟩:=oSC HV.out
   subst hov
   have y0:=cRw HC.out.row
   have y1:=cRw HC.out.res
   have z1:=uRw HC.out.res
   clear htk
   go_wp2_with fail
   have f1:=Lib.heap_setCell_same (i:=1) (Lib.heap_setCell_same (i:=0) HC.out.res (.int .i64 b)) (.slice va sl.length vc)
   have g0:=cRw f1 0
   have g1:=cRw f1 1
   have t9:Tc [bw + 1] wr ((wr.setCell ⟨bw + 1,0,none⟩ (.int .i64 b)).setCell ⟨bw + 1,1,none⟩ (.slice va sl.length vc)):=((Tc.refl _ wr).setCell (.inl (by simp)) _).setCell (.inl (by simp)) _
   have hbw:=HBW.out
   have hFd:=HFS.out.1.touch t9 (fun y hy hx=>by
    rw [List.mem_singleton] at hy
    have:=HFS.out.2 _ hx
    omega)
   have hOd:=oTG HV.out t9 (fun y hy hx=>by
    rw [List.mem_singleton] at hx
    have:=(HV.out.lt y hy).1
    omega)
   obtain ⟨D',hD',hDm⟩:=hFd.done hOd
   refine bodyPost_ret (v:=.agg #[.int .i64 b,.slice va sl.length vc]) (by simp [results,Tryz.results25,go_sem,g0,g1]) rfl ⟨sl,D',_,rfl,hD',HP.out,fun y hy=>?_,HTW.out.trans t9 (fun y hy=>.inr (by rw [List.mem_singleton] at hy; omega))⟩
   rcases (hDm y hy).2 with h1 | h1
   ·have:=HFS.out.2 y h1; omega
   ·have:=(hOd.lt y h1).1; omega
end
def hvD (c:UInt8):Option Nat:=if 48 ≤ c.toNat ∧ c.toNat ≤ 57 then some (c.toNat - 48) else if 97 ≤ c.toNat ∧ c.toNat ≤ 102 then some (c.toNat - 97 + 10) else none
def valD:Nat → List UInt8 → Option Nat
 | n,[]=>some n
 | n,c :: t=>match hvD c with
  | some d=>valD (n * 16 + d) t
  | none=>none
theorem valD_some {n d:Nat} {c:UInt8} {t:List UInt8} (h:hvD c = some d):valD n (c :: t) = valD (n * 16 + d) t:=by
 show (match hvD c with | some d=>valD (n * 16 + d) t | none=>none) = _
 rw [h]
theorem valD_none {n:Nat} {c:UInt8} {t:List UInt8} (h:hvD c = none):valD n (c :: t) = none:=by
 show (match hvD c with | some d=>valD (n * 16 + d) t | none=>none) = _
 rw [h]
theorem hvD_hex {c:UInt8} {d:Nat} (h:hvD c = some d):d < 16 ∧ PureHex.hexC d = c:=by
 unfold hvD at h
 have hc:=c.toNat_lt
 split at h
 ·cases h
  refine ⟨by omega,?_⟩
  obtain ⟨k,hk⟩:∃ k,c.toNat = k:=⟨_,rfl⟩
  have e:c = UInt8.ofNat k:=by rw [← hk]; exact (UInt8.ofNat_toNat).symm
  rename_i hr
  rw [hk] at hr ⊢
  rw [e]
  have:k = 48 ∨ k = 49 ∨ k = 50 ∨ k = 51 ∨ k = 52 ∨ k = 53 ∨ k = 54 ∨ k = 55 ∨ k = 56 ∨ k = 57:=by omega
  rcases this with h | h | h | h | h | h | h | h | h | h <;> (rw [h]; rfl)
 ·split at h
  ·cases h
   refine ⟨by omega,?_⟩
   obtain ⟨k,hk⟩:∃ k,c.toNat = k:=⟨_,rfl⟩
   have e:c = UInt8.ofNat k:=by rw [← hk]; exact (UInt8.ofNat_toNat).symm
   rename_i hr
   rw [hk] at hr ⊢
   rw [e]
   have:k = 97 ∨ k = 98 ∨ k = 99 ∨ k = 100 ∨ k = 101 ∨ k = 102:=by omega
   rcases this with h | h | h | h | h | h <;> (rw [h]; rfl)
  ·cases h
theorem hvD_of_hex:∀ d:Nat,d < 16 → hvD (PureHex.hexC d) = some d:=by decide
theorem valD_hex:∀ {l:List UInt8} {k n m:Nat},valD n l = some m → PureHex.hexW (k + l.length) m = PureHex.hexW k n ++ l ∧ m / 16 ^ l.length = n
 | [],k,n,m,h=>by
  cases h
  exact ⟨by simp,by simp⟩
 | c :: t,k,n,m,h=>by
  unfold valD at h
  split at h
  ·next d hd =>
   obtain ⟨h1,h2⟩:=hvD_hex hd
   obtain ⟨h3,h4⟩:=valD_hex (k:=k + 1) h
   have e1:(n * 16 + d) / 16 = n:=by omega
   have e2:(n * 16 + d) % 16 = d:=by omega
   refine ⟨?_,?_⟩
   ·rw [List.length_cons,show k + (t.length + 1) = k + 1 + t.length by omega,h3,PureHex.hexW,e1,e2,h2]
    simp
   ·rw [List.length_cons,Nat.pow_succ,← Nat.div_div_eq_div_mul,h4,e1]
  ·cases h
theorem valD_of_hex:∀ (k n u:Nat) (r:List UInt8),valD n (PureHex.hexW k u ++ r) = valD (n * 16 ^ k + u % 16 ^ k) r
 | 0,n,u,r=>by simp [PureHex.hexW,Nat.mod_one]
 | k + 1,n,u,r=>by
  rw [PureHex.hexW,List.append_assoc,valD_of_hex k n (u / 16) _]
  simp only [List.cons_append,List.nil_append,valD]
  rw [hvD_of_hex _ (Nat.mod_lt _ (by decide))]
  simp only []
  congr 1
  have h1:u % 16 ^ (k + 1) = 16 * (u / 16 % 16 ^ k) + u % 16:=by
   rw [Nat.pow_succ,Nat.mul_comm (16 ^ k) 16,Nat.mod_mul]
   omega
  rw [h1,Nat.pow_succ,Nat.add_mul,← Nat.mul_assoc]
  omega
def genD (s:List UInt8):Nat:=if s.length = 20 ∧ s.take 4 = [99,97,116,45] then (valD 0 (s.drop 4)).getD 0 else 0
theorem genD_cat {u:Nat} (hu:u < 18446744073709551616):genD (catN u) = u:=by
 have h1:(catN u).drop 4 = PureHex.hexW 16 u ++ []:=by unfold catN; simp
 have h2:(catN u).take 4 = [99,97,116,45]:=by unfold catN; simp
 unfold genD
 rw [if_pos ⟨catN_len u,h2⟩,h1,valD_of_hex,show 0 * 16 ^ 16 + u % 16 ^ 16 = u by omega]
 rfl
theorem genD_of {s:List UInt8} {m:Nat} (h1:s.length = 20) (h2:s.take 4 = [99,97,116,45]) (h3:valD 0 (s.drop 4) = some m):s = catN m ∧ m < 18446744073709551616:=by
 have hl:(s.drop 4).length = 16:=by rw [List.length_drop]; omega
 obtain ⟨h4,h5⟩:=valD_hex (k:=0) h3
 rw [hl] at h4 h5
 refine ⟨?_,?_⟩
 ·unfold catN
  rw [show (16:Nat) = 0 + 16 from rfl,h4,← h2]
  show s = s.take 4 ++ ([] ++ s.drop 4)
  rw [List.nil_append,List.take_append_drop]
 ·have:=Nat.lt_of_div_eq_zero (by decide) h5
  omega
theorem genD_eq (s:List UInt8):genD s = genN s:=by
 by_cases h:s.length = 20 ∧ s.take 4 = [99,97,116,45]
 ·cases hv:valD 0 (s.drop 4) with
  | some m =>
   obtain ⟨h1,h2⟩:=genD_of h.1 h.2 hv
   subst h1
   rw [genD_cat h2,genN_cat h2]
  | none =>
   have h0:genD s = 0:=by unfold genD; rw [if_pos h,hv]; rfl
   rw [h0]
   by_cases hg:genN s = 0
   ·exact hg.symm
   ·exfalso
    have hs:s = catN (genN s):=by
     unfold genN at hg ⊢
     split at hg
     ·next hc=>rw [if_pos hc]; exact hc.2.symm
     ·exact absurd rfl hg
    have hlt:=genN_lt s
    generalize genN s = u at *
    rw [hs] at h0
    rw [genD_cat hlt] at h0
    exact hg h0
 ·have h0:genD s = 0:=by unfold genD; rw [if_neg h]
  rw [h0]
  by_cases hg:genN s = 0
  ·exact hg.symm
  ·exfalso
   have hs:s = catN (genN s):=by
    unfold genN at hg ⊢
    split at hg
    ·next hc=>rw [if_pos hc]; exact hc.2.symm
    ·exact absurd rfl hg
   have hlt:=genN_lt s
   generalize genN s = u at *
   rw [hs] at h0
   rw [genD_cat hlt] at h0
   exact hg h0
section
set_option maxHeartbeats 4000000 in
theorem rgen_any (s:ByteArray) (hs:s.size ≤ 1048576) (w:World) :
  Calls Tryz.prog 60 #[.string s] w fun e w'=>e = .returned (.int .u64 (genN (nm s):Int)) ∧ w' = w:=by
 have hnl:(nm s).length = s.size:=nm_size s
 have hx:(s.extract 0 4).toList = (nm s).take 4:=by
  rw [ByteArray.toList_eq]
  unfold nm
  simp [ByteArray.data_extract]
 by_cases hl:s.size = 20
 ·have hli:(s.size:Int) = 20:=by omega
  by_cases hp:(nm s).take 4 = [99,97,116,45]
  ·have hpb:((s.extract 0 4).toList == [99,97,116,45]) = true:=by rw [hx,hp]; rfl
   have HG:=hid (show ∀ v,valD 0 ((nm s).drop 4) = v → genN (nm s) = v.getD 0 by
    intro v hv
    rw [← genD_eq]
    unfold genD
    rw [if_pos ⟨by rw [hnl]; exact hl,hp⟩,hv])
   have HX:=hid hx
   clear hx hp
   go_enter Tryz.func60,Tryz.ntmps60
   go_wp2_with fail
   go_loop [3,4] (fun n i=>∃ (k m:Nat),4 ≤ k ∧ k ≤ 20 ∧ i = .int .i64 k ∧ n = .int .u64 (m:Int) ∧ m < 16 ^ (k - 4) ∧ Hid (valD m ((nm s).drop k) = valD 0 ((nm s).drop 4))) (fun _ i=>20 - (intOf i).toNat)
   case atStart=>exact ⟨4,0,by omega,by omega,rfl,rfl,by decide,hid rfl⟩
   case round =>
    obtain ⟨k,m,hk1,hk2,rfl,rfl,hm,HV⟩:=hrel
    by_cases hlt:k < 20
    ·have hks:k < s.size:=by omega
     have hm15:m < 1152921504606846976:=by
      have h1:16 ^ (k - 4) ≤ 16 ^ 15:=Nat.pow_le_pow_right (by decide) (by omega)
      have h2:(16:Nat) ^ 15 = 1152921504606846976:=by decide
      omega
     have hpw:16 ^ (k + 1 - 4) = 16 ^ (k - 4) * 16:=by rw [show k + 1 - 4 = (k - 4) + 1 by omega,Nat.pow_succ]
     have hdr:(nm s).drop k = s[k] :: (nm s).drop (k + 1):=by
      rw [List.drop_eq_getElem_cons (by rw [hnl]; exact hks)]
      rfl
     have hv:=HV.out
     rw [hdr] at hv
     have hkk:(k:Int) < 20:=by omega
     have hki:(k:Int) < (s.size:Int):=by omega
     clear hdr HV
     obtain ⟨q,hq⟩:∃ q,q = s[k].toNat:=⟨_,rfl⟩
     have hq256:q < 256:=by rw [hq]; exact s[k].toNat_lt
     have hvd:hvD s[k] = if 48 ≤ q ∧ q ≤ 57 then some (q - 48) else if 97 ≤ q ∧ q ≤ 102 then some (q - 97 + 10) else none:=by rw [hq]; rfl
     rcases (show (48 ≤ q ∧ q ≤ 57) ∨ (¬ (48 ≤ q ∧ q ≤ 57) ∧ 97 ≤ q ∧ q ≤ 102) ∨ (¬ (48 ≤ q ∧ q ≤ 57) ∧ ¬ (97 ≤ q ∧ q ≤ 102)) by omega) with h | ⟨h,h2⟩ | ⟨h,h2⟩
     ·have hq1:(48:Int) ≤ (q:Int):=by omega
      have HV2:=hid (show valD (m * 16 + (q - 48)) ((nm s).drop (k + 1)) = valD 0 ((nm s).drop 4) from by rw [← hv,valD_some]; rw [hvd,if_pos h])
      have hq2:(q:Int) ≤ 57:=by omega
      have hw1:IntKind.u64.wrap ((m:Int) * 16) = ((m * 16:Nat):Int):=by rw [IntKind.wrap_u64]; omega
      have hw2:IntKind.u8.wrap ((q:Int) - 48) = ((q - 48:Nat):Int):=by rw [IntKind.wrap_u8]; omega
      have hw3:IntKind.u64.wrap (((q - 48:Nat):Int)) = ((q - 48:Nat):Int):=by rw [IntKind.wrap_u64]; omega
      have hw4:IntKind.u64.wrap (((m * 16:Nat):Int) + ((q - 48:Nat):Int)) = ((m * 16 + (q - 48):Nat):Int):=by rw [IntKind.wrap_u64]; omega
      clear hv hvd
      rw [hq] at *
      go_wp2_with fail
      refine ⟨⟨k + 1,m * 16 + (s[k].toNat - 48),by omega,hlt,rfl,congrArg (Value.int .u64) (by omega),?_,HV2⟩,by simp [intOf]; omega⟩
      rw [hpw]
      have:=hm
      generalize 16 ^ (k - 4) = z at *
      omega
     ·have hq1:(97:Int) ≤ (q:Int):=by omega
      have HV2:=hid (show valD (m * 16 + (q - 97 + 10)) ((nm s).drop (k + 1)) = valD 0 ((nm s).drop 4) from by rw [← hv,valD_some]; rw [hvd,if_neg h,if_pos h2])
      have hq2:(q:Int) ≤ 102:=by omega
      have hq3:(48:Int) ≤ (q:Int):=by omega
      have hq4:¬ (q:Int) ≤ 57:=by omega
      have hw1:IntKind.u64.wrap ((m:Int) * 16) = ((m * 16:Nat):Int):=by rw [IntKind.wrap_u64]; omega
      have hw2:IntKind.u8.wrap ((q:Int) - 97) = ((q - 97:Nat):Int):=by rw [IntKind.wrap_u8]; omega
      have hw3:IntKind.u64.wrap (((q - 97:Nat):Int)) = ((q - 97:Nat):Int):=by rw [IntKind.wrap_u64]; omega
      have hw4:IntKind.u64.wrap (((m * 16:Nat):Int) + ((q - 97:Nat):Int)) = ((m * 16 + (q - 97):Nat):Int):=by rw [IntKind.wrap_u64]; omega
      have hw5:IntKind.u64.wrap (((m * 16 + (q - 97):Nat):Int) + 10) = ((m * 16 + (q - 97) + 10:Nat):Int):=by rw [IntKind.wrap_u64]; omega
      clear hv hvd
      rw [hq] at *
      go_wp2_with fail
      refine ⟨⟨k + 1,m * 16 + (s[k].toNat - 97 + 10),by omega,hlt,rfl,congrArg (Value.int .u64) (by omega),?_,HV2⟩,by simp [intOf]; omega⟩
      rw [hpw]
      have:=hm
      generalize 16 ^ (k - 4) = z at *
      omega
     ·have hnone:=HG.out none (by rw [← hv,valD_none]; rw [hvd,if_neg h,if_neg h2])
      clear hv hvd
      by_cases h3:48 ≤ q
      ·have hq1:(48:Int) ≤ (q:Int):=by omega
       have hq2:¬ (q:Int) ≤ 57:=by omega
       by_cases h4:97 ≤ q
       ·have hq3:(97:Int) ≤ (q:Int):=by omega
        have hq4:¬ (q:Int) ≤ 102:=by omega
        rw [hq] at *
        go_wp2_with fail
        go_ret
        exact ⟨rfl,rfl⟩
       ·have hq3:¬ (97:Int) ≤ (q:Int):=by omega
        rw [hq] at *
        go_wp2_with fail
        go_ret
        exact ⟨rfl,rfl⟩
      ·have hq1:¬ (48:Int) ≤ (q:Int):=by omega
       have hq3:¬ (97:Int) ≤ (q:Int):=by omega
       rw [hq] at *
       go_wp2_with fail
       go_ret
       exact ⟨rfl,rfl⟩
    ·obtain rfl:k = 20:=by omega
     have hdr:(nm s).drop 20 = []:=List.drop_eq_nil_of_le (by rw [hnl]; omega)
     have hv:=HV.out
     rw [hdr] at hv
     have hsome:=HG.out (some m) hv.symm
     clear hv hdr HV
     go_wp2_with fail
     go_ret
     exact ⟨rfl,rfl⟩
  ·have h0:genN (nm s) = 0:=by rw [← genD_eq]; unfold genD; rw [if_neg (fun h=>hp h.2)]
   have hpb:((s.extract 0 4).toList == [99,97,116,45]) = false:=by rw [hx]; simpa using hp
   clear hx
   go_enter Tryz.func60,Tryz.ntmps60
   go_wp2_with fail
   go_ret
   exact ⟨by rw [h0]; rfl,rfl⟩
 ·have h0:genN (nm s) = 0:=by rw [← genD_eq]; unfold genD; rw [if_neg (by rw [hnl]; omega)]
  have hli:¬ (s.size:Int) = 20:=by omega
  go_enter Tryz.func60,Tryz.ntmps60
  go_wp2_with fail
  go_ret
  exact ⟨by rw [h0]; rfl,rfl⟩
end
end Go.Proofs.YthehcjjckabljaaGreatDoor
