import Derived.Test.YthehcjjckabljaaGreatDoorC10
namespace Go.Proofs.YthehcjjckabljaaGreatDoor
open Go.RowKit Go.Deep
section
variable {w w':World} {E:Nat → Addr} {lo p mf mt:Nat} {D:DkC}
theorem StateAt.kept {w w':World} {n B:Nat} {fv:Value} {l:List SFl} (h:StateAt w n B fv l) (hk:∀ b,n ≤ b → b < w.heap.size → w'.heap[b]? = w.heap[b]?):StateAt w' n B fv l:=by
 refine ⟨⟨h.own.1,?_⟩,fun e he=>(h.each e he).kept fun b hb=>?_,h.from_⟩
 ·rcases h.own.2 with hn | ⟨g,cap,cur,hv,hb,hg,rest⟩
  ·exact .inl hn
  ·exact .inr ⟨g,cap,cur,hv,hb,(hk g hb (ltB hg)).trans hg,rest⟩
 ·rcases hb with h' | h'
  ·exact hk b ((h.from_ e he).1 b h') ((h.each e he).lt.1 b h')
  ·exact hk b ((h.from_ e he).2.1 b h') ((h.each e he).lt.2 b h')
theorem state_facts {N sb:Nat} {wr:World} {fv:Value} {l:List SFl} {x:Value} (R:Rep wr lo p mf mt D) (hS:StateAt wr N D.B fv l) (hsb:wr.heap[sb]? = some (.cells #[x,fv] 42 (0,0))) (hN:sb < N) (hN2:N ≤ wr.heap.size) (k:Nat) (hk:l.length = k) :
  ∀ w2,Below wr.drew.heap.size wr.drew w2 → w2.cell? ⟨sb,1,none⟩ = some fv ∧ w2.cell? ⟨p,3,none⟩ = some (.map (some mf)) ∧ (sb < w2.heap.size ∧ p < w2.heap.size) ∧
   Hid (∀ o,(w2.alloc o).ownsRow N 113 3 fv k (l.flatMap SFl.cells) ∧ N ≤ (w2.alloc o).heap.size ∧ ∀ w3,(w2.alloc o).grownBy w3 fv.ownBlock → w3.heap[sb]? = some (.cells #[x,fv] 42 (0,0))):=by
 intro w2 hb
 have hs:wr.heap.size ≤ w2.heap.size:=hb.size
 have hsb2:w2.heap[sb]? = some (.cells #[x,fv] 42 (0,0)):=(hb.block sb (ltB (w:=wr) hsb)).trans hsb
 have hp2:w2.cell? ⟨p,3,none⟩ = some (.map (some mf)):=(hb.cell (p:=⟨p,3,none⟩) (ltB (w:=wr) R.row)).trans (R.cell 3)
 refine ⟨cRw hsb2 1,hp2,⟨ltB hsb2,Nat.lt_of_lt_of_le (ltB R.row) hs⟩,fun o=>⟨?_,by simp; omega,fun w3 hg=>?_⟩⟩
 ·have h:=hS.own
  rw [hk] at h
  refine ⟨h.1,?_⟩
  rcases h.2 with hn | ⟨g,cap,cur,hv,hb',hg,rest⟩
  ·exact .inl hn
  ·have hlt:=ltB hg
   exact .inr ⟨g,cap,cur,hv,hb',(Below.heap_alloc _ _ g (by omega)).trans ((hb.block g hlt).trans hg),rest⟩
 ·have hne:some sb ≠ fv.ownBlock:=fun e=>by
   have:=(hS.own.lt sb e.symm).1
   omega
  rw [hg.block sb (by have:=ltB hsb2; simp; omega) hne,Below.heap_alloc _ _ _ (ltB hsb2)]
  exact hsb2
structure StInv (w1 wr:World) (sb:Nat) (D:DkC) (k:Nat) (fv:Value) (l:List SFl):Prop where
 touch:Tc [sb] w1 wr
 box:wr.heap[sb]? = some (.cells #[.int .i64 D.B,fv] 42 (0,0))
 files:StateAt wr w1.heap.size D.B fv l
 pubs:l.map SFl.pub = (D.ents.take k).map Ent.pub
theorem StInv.len {w1 wr:World} {sb k:Nat} {fv:Value} {l:List SFl} (h:StInv w1 wr sb D k fv l) (hk:k ≤ D.ents.length):l.length = k:=by
 have:=congrArg List.length h.pubs
 simp at this
 omega
theorem StInv.next {w1 wr w2 w3:World} {sb k g cap:Nat} {fv sv':Value} {l:List SFl} {e0:Ent} {bs':List Nat} {o:Obj} {ga:Option Addr} {gn gc:Nat} (h:StInv w1 wr sb D k fv l) (hk:k ≤ D.ents.length) (he:D.ents[k]? = some e0) (hsb:sb < w1.heap.size) (hb2:BkA w2 D.B sv' bs' e0.file.blocks) (hf2:FreshB wr.drew.heap.size sv' bs') (ht2:Below wr.drew.heap.size wr.drew w2)
  (hsv:sv' = .slice ga gn gc) (h1:w3.ownsRow w1.heap.size 113 3 (.slice (some ⟨g,0,none⟩) (k + 1) cap) (k + 1) (l.flatMap SFl.cells ++ [encStr e0.name,.bool e0.file.shut,.slice ga gn gc])) (h2:(w2.alloc o).grownBy w3 fv.ownBlock) (h3:w3.heap[sb]? = some (.cells #[.int .i64 D.B,fv] 42 (0,0))) :
  StInv w1 (w3.setCell ⟨sb,1,none⟩ (.slice (some ⟨g,0,none⟩) (k + 1) cap)) sb D (k + 1) (.slice (some ⟨g,0,none⟩) (k + 1) cap) (l ++ [⟨e0.name,e0.file,sv',bs'⟩]):=by
 have hl:=h.len hk
 subst hsv
 have hsz:=h.touch.size
 have hs:=h.files.snoc (e:=⟨e0.name,e0.file,.slice ga gn gc,bs'⟩) hsz (⟨ht2.os,ht2.tape,ht2.output,ht2.size,ht2.block⟩:Below wr.heap.size wr w2) hb2 hf2 (by rw [hl]; exact h1) h2
 refine ⟨?_,?_,?_,?_⟩
 ·have t:Tc [sb] w1 w3:=⟨hs.2.os.trans h.touch.os,hs.2.tape.trans h.touch.tape,hs.2.output.trans h.touch.output,by have:=hs.2.size; omega,fun b hb hbn=>(hs.2.block b hb).trans (h.touch.block b hb hbn)⟩
  exact t.setCell (by simp) _
 ·rw [sRw h3 1]
  rfl
 ·refine hs.1.kept fun b hb _=>Below.heap_setCell _ _ _ _ (by show b ≠ sb; omega)
 ·rw [List.map_append,h.pubs,List.take_succ_eq_append_getElem (by have:=(List.getElem?_eq_some_iff.1 he).1; omega),List.map_append]
  have:D.ents[k]'((List.getElem?_eq_some_iff.1 he).1) = e0:=(List.getElem?_eq_some_iff.1 he).2
  simp [this,SFl.pub,Ent.pub]
theorem state_fin {W w1 wr:World} {k:Nat} {fv:Value} {l:List SFl} (h:StInv w1 wr (w.heap.size + 1) D k fv l) (hz1:W.heap.size ≤ w1.heap.size) (hzW:w.heap.size + 1 < W.heap.size) (hW:W.heap[w.heap.size]? = some (.cells #[.int .i64 0,.slice none 0 0] 42)) (hTW:Tc [] w W) (hB:Below W.heap.size W w1) (hk:k = D.ents.length) :
  wr.heap[w.heap.size]? = some (.cells #[.int .i64 0,.slice none 0 0] 42) ∧ ∀ x y:Value,StateAt ((wr.setCell ⟨w.heap.size,0,none⟩ x).setCell ⟨w.heap.size,1,none⟩ y) w.heap.size D.B fv l ∧ l.map SFl.pub = D.ents.map Ent.pub ∧ Below w.heap.size w ((wr.setCell ⟨w.heap.size,0,none⟩ x).setCell ⟨w.heap.size,1,none⟩ y):=by
 have hbw:Below w.heap.size w wr:=((hTW.below (Nat.le_refl _) (by simp)).trans (hB.mono hTW.size)).trans (h.touch.below (by have:=hTW.size; omega) (by simp))
 refine ⟨?_,fun x y=>⟨?_,?_,(hbw.setCell (Nat.le_refl _) _).setCell (Nat.le_refl _) _⟩⟩
 ·rw [h.touch.block _ (by omega) (by simp),hB.block _ (by omega)]
  exact hW
 ·have hs:StateAt ((wr.setCell ⟨w.heap.size,0,none⟩ x).setCell ⟨w.heap.size,1,none⟩ y) w1.heap.size D.B fv l:=h.files.kept fun b hb _=>by
   have hbn:b ≠ w.heap.size:=by omega
   rw [Below.heap_setCell _ _ _ _ hbn,Below.heap_setCell _ _ _ _ hbn]
  refine ⟨⟨hs.own.1,?_⟩,hs.each,fun e he=>(hs.from_ e he).mono (by omega)⟩
  rcases hs.own.2 with hn | ⟨g,cap,cur,hv,hb,rest⟩
  ·exact .inl hn
  ·exact .inr ⟨g,cap,cur,hv,by omega,rest⟩
 ·rw [h.pubs,hk,List.take_length]
set_option maxRecDepth 100000 in
set_option maxHeartbeats 1000000 in
theorem State_any (R:Rep w lo p mf mt D) (hS:Small D.pub) :
  Calls Tryz.prog 32 #[ptr p] w fun e w'=>∃ fv l,e = .returned (.agg #[.int .i64 D.B,fv]) ∧ StateAt w' w.heap.size D.B fv l ∧ l.map SFl.pub = D.ents.map Ent.pub ∧ Below w.heap.size w w':=by
 obtain ⟨W,hW⟩:∃ W,W = (w.alloc (.cells #[.int .i64 0,.slice none 0 0] 42)).alloc (.cells #[.int .i64 D.B,.slice none 0 0] 42):=⟨_,rfl⟩
 have hW1:W.heap[w.heap.size]? = some (.cells #[.int .i64 0,.slice none 0 0] 42) ∧ W.heap[w.heap.size + 1]? = some (.cells #[.int .i64 D.B,.slice none 0 0] 42):=by rw [hW]; exact heap_two w _ _
 have hTW:Tc [] w W:=by rw [hW]; exact ((Tc.refl [] w).alloc _).alloc _
 have RW:=R.touch hTW (by simp)
 have hfl:D.ents.length ≤ 1099511627776:=by have:=hS.files; simpa [DkC.pub] using this
 have HRI:=hid (rising_any RW hfl)
 have hB:=hS.size
 simp only [DkC.pub] at hB
 obtain ⟨hB1,hB2⟩:=hB
 have k0:=R.cell 0
 simp only [dRow] at k0
 have hp:=ltB R.row
 have HE:=hid hW
 have HW:=hid hW1
 have HTW:=hid hTW
 have HR:=hid RW
 have HSM:=hid hS
 have HNF:=hid (show w.heap.size + 1 ∉ D.foot p mf mt from fun h=>by have:=R.lt _ h; omega)
 clear R RW hW hW1 hTW hS
 go_enter Tryz.func32,Tryz.ntmps32
 go_wp2_with fail
 rw [← HE.out]
 refine HRI.out.mono ?_
 rintro e w1 ⟨v,rfl,hrow,hnil,hb1⟩
 rcases hrow.2 with ⟨hv,h2⟩ | ⟨G,gc,_,hv,_⟩
 ·rw [hv]
  have hD:D.ents = []:=List.eq_nil_of_length_eq_zero h2
  have hinv:StInv w1 w1 (w.heap.size + 1) D D.ents.length (.slice none 0 0) []:=⟨Tc.refl _ _,(hb1.block _ (ltB HW.out.2)).trans HW.out.2,⟨World.ownsRow_nil _ _ _ _,by simp,by simp⟩,by rw [hD]; rfl⟩
  have hfin:=hid (state_fin hinv hb1.size (ltB HW.out.2) HW.out.1 HTW.out hb1 rfl)
  have c0:=cRw hinv.box 0
  have c1:=cRw hinv.box 1
  have hr:=hfin.out.1
  have r0:=cRw hr 0
  have r1:=cRw hr 1
  have f0:=uRw hr 0
  have f1:=uRw hr 1
  simp at r0 r1 c0 c1
  clear hinv hr hrow hnil hb1 hv hD h2
  go_wp2
  refine wp_loop_rounds 1 ?_
  rw [rounds_succ]
  go_wp2
  refine bodyPost_ret (v:=.agg #[.int .i64 D.B,.slice none 0 0]) (by simp [results,Tryz.results32,go_sem,r0,r1]) rfl ?_
  exact ⟨.slice none 0 0,[],rfl,(hfin.out.2 _ _).1,(hfin.out.2 (.int .i64 D.B) (.slice none 0 0)).2.1,(hfin.out.2 _ _).2.2⟩
 ·rw [hv]
  have HROW:=hid hrow
  have HV:=hid hv
  have HB1:=hid hb1
  clear hrow hnil hb1 hv
  go_wp2
  go_loopw [14] (fun i wr=>∃ (k:Nat) (fv:Value) (l:List SFl),k ≤ D.ents.length ∧ i = .int .i64 k ∧ StInv w1 wr (w.heap.size + 1) D k fv l) (fun i _=>D.ents.length - (intOf i).toNat)
  case atStart=>exact ⟨0,.slice none 0 0,[],Nat.zero_le _,rfl,Tc.refl _ _,(HB1.out.block _ (ltB HW.out.2)).trans HW.out.2,⟨World.ownsRow_nil _ _ _ _,by simp,by simp⟩,rfl⟩
  case round =>
   obtain ⟨k,fv,l,hk,rfl,hinv⟩:=hrel
   have hz1:W.heap.size ≤ w1.heap.size:=HB1.out.size
   have hzW:w.heap.size + 1 < W.heap.size:=ltB HW.out.2
   have R1:Rep w1 lo p mf mt D:=HR.out.touch (F:=[]) (Tc.of_below HB1.out (Nat.le_refl _)) (by simp)
   have Rr:Rep wr lo p mf mt D:=R1.touch hinv.touch (fun b hb=>by
    have h1:=HR.out.lt b hb
    have h2:b < w.heap.size ∨ w.heap.size ≤ b:=by omega
    simp
    intro e
    subst e
    exact HNF.out hb)
   by_cases hlt:k < D.ents.length
   ·obtain ⟨e0,he0⟩:∃ e0,D.ents[k]? = some e0:=⟨D.ents[k],List.getElem?_eq_getElem hlt⟩
    have hm:e0 ∈ D.ents:=List.mem_of_getElem? he0
    have hrow0:=HROW.out
    have hGb:W.heap.size ≤ G ∧ G < w1.heap.size:=hrow0.lt G (by rw [HV.out]; rfl)
    have cG:wr.cell? ⟨G,k,none⟩ = some (encStr e0.name):=by
     have h1:=hrow0.cells (g:=G) (by rw [HV.out]; rfl) k (encStr e0.name) (by simp [he0])
     have hadd:(⟨G,0,none⟩:Addr).add k = ⟨G,k,none⟩:=by unfold Addr.add; split <;> simp_all
     rw [hadd] at h1
     exact (hinv.touch.cell (p:=⟨G,k,none⟩) hGb.2 (by simp; omega)).trans h1
    have hlk:=(Quiet.rep (w':=wr.drew) ⟨1,rfl⟩ Rr).look1 hm
    have kp:=Rr.cell 3
    simp only [dRow] at kp
    have hat:=(Quiet.rep (w':=wr.drew) ⟨1,rfl⟩ Rr).each e0 hm
    have hbn:e0.file.blocks.length ≤ 1099511627776:=HSM.out.blocks e0.pub (List.mem_map.2 ⟨e0,hm,rfl⟩)
    have HTD:=hid (told_any hat ⟨e0.name.toArray⟩ hB1 hB2 hbn)
    have hll:=hinv.len hk
    have hsz:w1.heap.size ≤ wr.heap.size:=hinv.touch.size
    have HFA:=hid (state_facts Rr hinv.files hinv.box (by omega) hsz k hll)
    have cb:=cRw hinv.box 1
    simp at cb
    have lb:=ltB hinv.box
    have lp:=ltB Rr.row
    have HI:=hid hinv
    have HE0:=hid he0
    have HM:=hid hm
    clear hinv he0 hm hrow0 hat Rr R1 hll
    go_wp2
    go_region_law (first
     |(refine step_append_file rfl _ _ rfl w1.heap.size fv k (l.flatMap SFl.cells) w2.heap.size (encStr e0.name) (.bool e0.file.shut) (.slice ga gn gcc) rfl rfl (ho2.out _).1 (heap_alloc_new w2 _) rfl rfl rfl (by omega) (ho2.out _).2.1 (fun g cap w3 r1 r2=>?_); have q3:=(ho2.out _).2.2 w3 r2; have z3:=cRw q3 1; have f3:=uRw q3 1; simp at z3; have H1:=hid r1; have H2:=hid r2; have HQ3:=hid q3; clear r1 r2 q3)
     |(go_simp; go_at_call 67; refine HTD.out.mono ?_; rintro e w2 ⟨sv',bs',rfl,hb2,hf2,ht2⟩; obtain ⟨ga,gn,gcc,hsv'⟩:=hb2.own_slice; obtain ⟨y1,y2,⟨l1,l2⟩,ho2⟩:=HFA.out w2 ht2; have HB2:=hid hb2; have HF2:=hid hf2; have HT2:=hid ht2; clear hb2 hf2 ht2))
    all_goals
     have HN:=hid (StInv.next HI.out hk HE0.out (by omega) HB2.out HF2.out HT2.out hsv' H1.out H2.out HQ3.out)
     clear hsv'
     go_wp2
     go_roundw
     case rel=>first | exact ⟨k + 1,_,_,by omega,by go_num,HN.out⟩ | ((repeat apply Exists.intro); exact ⟨⟨k + 1,_,_,by omega,by go_num,HN.out⟩,rfl⟩)
     case measure=>simp [intOf]; omega
   ·have hkk:k = D.ents.length:=by omega
    have hfin:=hid (state_fin hinv hz1 hzW HW.out.1 HTW.out HB1.out hkk)
    have hfv:∃ a n c,fv = .slice a n c:=by
     rcases hinv.files.own.2 with ⟨h,_⟩ | ⟨g,cap,_,h,_⟩
     ·exact ⟨none,0,0,h⟩
     ·exact ⟨_,_,cap,h⟩
    obtain ⟨fa,fn,fc,hfv⟩:=hfv
    have c0:=cRw hinv.box 0
    have c1:=cRw hinv.box 1
    simp at c0 c1
    rw [hfv] at c1
    have hr:=hfin.out.1
    have r0:=cRw hr 0
    have r1:=cRw hr 1
    have f0:=uRw hr 0
    have f1:=uRw hr 1
    simp at r0 r1
    have HFV:=hid hfv
    clear hinv Rr R1 hr hfv hkk
    go_wp2
    refine bodyPost_ret (v:=.agg #[.int .i64 D.B,.slice fa fn fc]) (by simp [results,Tryz.results32,go_sem,r0,r1]) rfl ?_
    rw [← HFV.out]
    exact ⟨fv,l,rfl,(hfin.out.2 _ _).1,(hfin.out.2 (.int .i64 D.B) fv).2.1,(hfin.out.2 _ _).2.2⟩
end
section
variable {w w':World} {E:Nat → Addr} {lo p mf mt:Nat} {D:DkC}
theorem BkA.slice0 {B:Nat} {sv:Value} {bs:List Nat} {blocks:List (List UInt8)} (h:BkA w B sv bs blocks) (h0:blocks.length = 0):∃ a c,sv = .slice a 0 c:=by
 rcases h.own.2 with ⟨e,_⟩ | ⟨g,cap,_,e,_⟩
 ·exact ⟨none,0,e⟩
 ·exact ⟨_,cap,by rw [e,h0]⟩
theorem BkA.slice1 {B:Nat} {sv:Value} {bs:List Nat} {blocks:List (List UInt8)} (h:BkA w B sv bs blocks) (h0:¬ blocks.length = 0):∃ g c,sv = .slice (some ⟨g,0,none⟩) blocks.length c:=by
 rcases h.own.2 with ⟨_,e⟩ | ⟨g,cap,_,e,_⟩
 ·exact absurd e h0
 ·exact ⟨g,cap,e⟩
theorem quiet_more {W:World} (h:Quiet W w) (n:Nat):Quiet W (w.drewN n):=by
 obtain ⟨m,rfl⟩:=h
 exact ⟨m + n,by simp⟩
theorem StateAt.slice0 {n B:Nat} {fv:Value} {l:List SFl} (h:StateAt w n B fv l) (h0:l.length = 0):∃ a c,fv = .slice a 0 c:=by
 rcases h.own.2 with ⟨e,_⟩ | ⟨g,cap,_,e,_⟩
 ·exact ⟨none,0,e⟩
 ·exact ⟨_,cap,by rw [e,h0]⟩
theorem StateAt.slice1 {n B:Nat} {fv:Value} {l:List SFl} (h:StateAt w n B fv l) (h0:¬ l.length = 0):∃ g c,fv = .slice (some ⟨g,0,none⟩) l.length c:=by
 rcases h.own.2 with ⟨_,e⟩ | ⟨g,cap,_,e,_⟩
 ·exact absurd e h0
 ·exact ⟨g,cap,e⟩
theorem below_quiet {n N:Nat} {w2:World} (h:Below (w.drewN n).heap.size (w.drewN n) w2) (hN:N ≤ w.heap.size):Below N w w2:=⟨h.os,h.tape,h.output,h.size,fun b hb=>h.block b (by show b < w.heap.size; omega)⟩
theorem flat3 {l:List SFl}:∀ (k j:Nat) (e:SFl),l[k]? = some e → j < 3 → (l.flatMap SFl.cells)[3 * k + j]? = e.cells[j]?:=by
 induction l with
 | nil=>intro k j e h; simp at h
 | cons a r ih =>
  intro k j e h hj
  cases k with
  | zero =>
   simp at h
   subst h
   rw [List.flatMap_cons,List.getElem?_append_left (by simp [SFl.cells]; omega)]
   simp
  | succ k =>
   simp at h
   rw [List.flatMap_cons,List.getElem?_append_right (by simp [SFl.cells]; omega)]
   have:=ih k j e h hj
   rw [← this]
   congr 1
   simp [SFl.cells]
   omega
theorem StateAt.cellsAt {n B G gc k:Nat} {fv:Value} {l:List SFl} {e:SFl} (h:StateAt w n B fv l) (he:l[k]? = some e) (hv:fv = .slice (some ⟨G,0,none⟩) l.length gc):w.cell? ⟨G,k * 3,none⟩ = some (encStr e.name) ∧ w.cell? ⟨G,k * 3 + 1,none⟩ = some (.bool e.file.shut) ∧ w.cell? ⟨G,k * 3 + 2,none⟩ = some e.sv:=by
 have hadd:∀ i,(⟨G,0,none⟩:Addr).add i = ⟨G,i,none⟩:=fun i=>by unfold Addr.add; split <;> simp_all
 have hc:=h.own.cells (g:=G) (by rw [hv]; rfl)
 have c0:=hc (3 * k) (encStr e.name) (by have:=flat3 k 0 e he (by omega); simpa [SFl.cells] using this)
 have c1:=hc (3 * k + 1) (.bool e.file.shut) (by have:=flat3 k 1 e he (by omega); simpa [SFl.cells] using this)
 have c2:=hc (3 * k + 2) e.sv (by have:=flat3 k 2 e he (by omega); simpa [SFl.cells] using this)
 rw [hadd,Nat.mul_comm] at c0 c1 c2
 exact ⟨c0,c1,c2⟩
end
section
variable {w w':World} {E:Nat → Addr} {lo p mf mt:Nat} {D:DkC}
set_option maxHeartbeats 400000 in
theorem Names_any (R:Rep w lo p mf mt D) (ho:D.on = true) (hS:D.ents.length ≤ 1099511627776) :
  Calls Tryz.prog 21 #[ptr p] w fun e w'=>∃ v,e = .returned v ∧ w'.ownsRow w.heap.size 9 1 v D.ents.length ((D.ents.map Ent.name).map encStr) ∧ (v = .slice none 0 0 ↔ D.ents = []) ∧ Below w.heap.size w w':=by
 have k2:=R.cell 2
 simp only [dRow,ho] at k2
 have H:=hid (rising_any R hS)
 go_enter Tryz.func21,Tryz.ntmps21
 go_wp2_with (go_at_call 54; refine H.out.mono ?_; rintro e w1 ⟨v,rfl,h1,h2,h3⟩; have H1:=hid h1; have H2:=hid h2; clear h1 h2)
 go_ret
 exact ⟨v,rfl,H1.out,H2.out,h3⟩
end
set_option maxRecDepth 100000
set_option linter.unusedSimpArgs false
set_option linter.unusedVariables false
def bs (l:List UInt8):ByteArray:=⟨l.toArray⟩
theorem genN_lt (s:List UInt8):genN s < 18446744073709551616:=by
 have:=(parU_code (trimC s)).1
 unfold genN
 split <;> omega
def namesA (A:PubA):List ByteArray:=if A.on then A.files.map fun f=>bs f.1 else []
def stepN (A:PubA) (m:Nat) (x:ByteArray):Nat:=if m < genN (nm x) ∧ (lnB x A).2.2 = 0 ∧ (lnB x A).2.1 = true then genN (nm x) else m
def newestA (A:PubA):Nat:=(namesA A).foldl (stepN A) 0
def overA (A:PubA) (g:Nat):Bool:=(namesA A).any fun x=>decide (g < genN (nm x))
theorem nm_size (x:ByteArray):(nm x).length = x.size:=Array.length_toList
theorem nm_small {x:ByteArray} (h:x.size ≤ 32):(nm x).length ≤ 1048576:=by rw [nm_size]; omega
theorem stepN_form (A:PubA):∃ st:Nat → ByteArray → Nat,st = stepN A ∧ ∀ m x,st m x = if m < genN (nm x) ∧ (lnB x A).2.2 = 0 ∧ (lnB x A).2.1 = true then genN (nm x) else m:=⟨_,rfl,fun _ _=>rfl⟩
section
variable {w w':World} {b:Bn} {n:Nat} {A:PubA} {s:Pu.St} {F:List Nat} {kb:Nat} {K T:Int}
theorem names_len (S:Std w b n A s F):∀ x ∈ namesA A,x.size ≤ 32:=by
 intro x hx
 unfold namesA at hx
 split at hx
 ·obtain ⟨f,hf,rfl⟩:=List.mem_map.1 hx
  obtain ⟨Fd,⟨D,R,rfl,_⟩,_⟩:=S.disk
  obtain ⟨e,he,rfl⟩:=List.mem_map.1 hf
  have:=R.names e he
  show (bs e.name).size ≤ 32
  unfold bs
  simpa [ByteArray.size] using this
 ·cases hx
theorem names_few (S:Std w b n A s F):(namesA A).length ≤ n:=by
 have:=S.inv.few
 unfold namesA
 split
 ·simpa using this
 ·simp
theorem names_s (S:Std w b n A s F) (hn:n < 1099511627776):Calls Tryz.prog 21 #[ptr b.p] w fun e w'=>∃ sa c,e = .returned (.slice sa (namesA A).length c) ∧ StrsAt w' sa (namesA A) ∧ (∀ a,sa = some a → w.heap.size ≤ a.block) ∧ Tc [] w w':=by
 have hf:=S.inv.few
 obtain ⟨Fd,⟨D,R,rfl,_⟩,_⟩:=S.disk
 have hlen:D.pub.files.length = D.ents.length:=by simp [DkC.pub]
 cases ho:D.on
 ·have hN:namesA D.pub = []:=by unfold namesA; rw [if_neg (by show ¬ D.on = true; simp [ho])]
  rw [hN]
  have k2:=R.cell 2
  simp only [dRow,ho] at k2
  clear R hf hlen
  go_enter Tryz.func21,Tryz.ntmps21
  go_wp2
  go_ret
  exact ⟨none,0,rfl,StrsAt.nil _ _,by simp,Tc.refl _ _⟩
 ·have hN:namesA D.pub = D.ents.map fun e=>bs e.name:=by
   unfold namesA
   rw [if_pos (by show D.on = true; exact ho)]
   simp [DkC.pub,Ent.pub]
  rw [hN,List.length_map]
  refine (Names_any R ho (by omega)).mono fun e w' ⟨v,e1,hown,hnil,hb⟩=>?_
  rcases hown.2 with ⟨rfl,h0⟩ | ⟨g,cap,cur,rfl,hg,hgg,hh⟩
  ·have hd:D.ents = []:=List.eq_nil_of_length_eq_zero h0
   refine ⟨none,0,by rw [e1,hd]; rfl,by rw [hd]; exact StrsAt.nil _ _,by simp,Tc.of_below hb (Nat.le_refl _)⟩
  ·refine ⟨some ⟨g,0,none⟩,cap,e1,⟨fun k hk=>⟨_,rfl,ltB hgg,?_⟩⟩,fun a ha=>by cases ha; exact hg,Tc.of_below hb (Nat.le_refl _)⟩
   have hk':k < D.ents.length:=by simpa using hk
   exact hown.cells (g:=g) rfl k _ (by rw [List.getElem?_map,List.getElem?_map,List.getElem?_eq_getElem hk']; simp [encStr,bs])
set_option maxHeartbeats 2000000 in
theorem newest_any (S:Std w b n A s F) (hn:n < 1099511627776) (hk:DkA w kb b K T) (hT:Tabs w) :
  Calls Tryz.prog 52 #[ptr kb] w fun e w'=>e = .returned (.int .u64 (newestA A:Nat)) ∧ Tc [] w w':=by
 have HD:=hid (fun W (t:Tc [] w W)=>Disk_any (hk.touch t (by simp)))
 have HN:=hid (names_s S hn)
 have hl:=names_len S
 have hf:=names_few S
 have HG:=hid (fun W (t:Tc [] w W) (x:ByteArray) (hx:x.size ≤ 32)=>generation_any (nm x) (nm_small hx) (hT.quiet t))
 have HL:=hid (fun W (t:Tc [] w W) (x:ByteArray)=>length_s (S.quiet t) hn x)
 have HR:=hid (show newestA A = (namesA A).foldl (stepN A) 0 from rfl)
 obtain ⟨st,hst,hform⟩:=stepN_form A
 have HSt:=hid hform
 rw [← hst] at HR
 clear hst hform
 clear S hk hT
 generalize namesA A = l at *
 have HL1:=hid hl
 have HL2:=hid (show l.length < 1099511627776 by omega)
 clear hl hf
 go_enter Tryz.func52,Tryz.ntmps52
 go_wp2_with (first
  |(go_at_call 21; refine HN.out.mono ?_; rintro e w1 ⟨sa,c,rfl,hs,-,ht⟩; have HS:=hid hs; have HT1:=hid ht; clear hs ht)
  |(go_at_call 92; refine (HD.out w (Tc.refl _ _)).mono ?_; rintro e w1 ⟨rfl,hh⟩; have hh:=hh.symm; subst hh))
 go_loopw [3,14] (fun m i W=>∃ k:Nat,k ≤ l.length ∧ i = .int .i64 k ∧ m = .int .u64 (((l.take k).foldl st 0:Nat):Int) ∧ Tc [] w1 W) (fun _ i _=>l.length - (intOf i).toNat)
 case atStart=>exact ⟨0,Nat.zero_le _,rfl,rfl,Tc.refl _ _⟩
 case round =>
  obtain ⟨k,hk,rfl,rfl,ht⟩:=hrel
  have HT2:=hid ht
  have H12:=hid (HT1.out.trans ht (by simp))
  have hl2:=HL2.out
  by_cases hlt:k < l.length
  ·obtain ⟨a,rfl,hab,hc⟩:=(HS.out.touch ht (by simp)).at_ k hlt
   have hfo:(l.take (k + 1)).foldl st 0 = st ((l.take k).foldl st 0) l[k]:=by rw [List.take_succ_eq_append_getElem hlt,List.foldl_append]; rfl
   rw [HSt.out] at hfo
   have hx:=HL1.out l[k] (List.getElem_mem _)
   generalize (l.take k).foldl st 0 = m at hfo ⊢
   have HFO:=hid hfo
   have hgl:=genN_lt (nm l[k])
   have HGk:=hid (HG.out _ H12.out l[k] hx)
   rw [show (⟨(nm l[k]).toArray⟩:ByteArray) = l[k] from nm_mk _] at HGk
   have HLk:=hid (fun W t=>HL.out W t l[k])
   generalize genN (nm l[k]) = g at HFO HGk hgl
   generalize (lnB l[k] A).1 = e1 at HLk
   generalize (lnB l[k] A).2.1 = e2 at HFO HLk
   generalize (lnB l[k] A).2.2 = e3 at HFO HLk
   generalize l[k] = x at *
   clear hfo ht hab
   have hki:((k:Nat):Int) < ((l.length:Nat):Int):=by omega
   by_cases hmg:m < g
   ·have hmgi:(m:Int) < (g:Int):=by omega
    by_cases h3:e3 = 0
    ·subst h3
     cases e2 with
     | true =>
      have HF2:=hid (show (l.take (k + 1)).foldl st 0 = g by rw [HFO.out,if_pos ⟨hmg,rfl,rfl⟩])
      go_wp2_with (first
     |(go_at_call 107; refine (HLk.out _ HT4.out).mono ?_; rintro e w5 ⟨rfl,ht5⟩; have HT5:=hid (HT3.out.trans ht5 (by simp)); clear ht5)
     |(go_at_call 106; refine HGk.out.mono ?_; rintro e w4 ⟨rfl,ht4⟩; have HT4:=hid (H12.out.trans ht4 (by simp)); have HT3:=hid (HT2.out.trans ht4 (by simp)); clear ht4)
     |(go_at_call 92; refine (HD.out _ HT4.out).mono ?_; rintro e w5 ⟨rfl,hh⟩; have hh:=hh.symm; subst hh))
      exact ⟨⟨k + 1,hlt,rfl,by rw [HF2.out],HT5.out⟩,by simp [intOf]; omega⟩
     | false =>
      have HF2:=hid (show (l.take (k + 1)).foldl st 0 = m by rw [HFO.out,if_neg (by simp)])
      go_wp2_with (first
     |(go_at_call 107; refine (HLk.out _ HT4.out).mono ?_; rintro e w5 ⟨rfl,ht5⟩; have HT5:=hid (HT3.out.trans ht5 (by simp)); clear ht5)
     |(go_at_call 106; refine HGk.out.mono ?_; rintro e w4 ⟨rfl,ht4⟩; have HT4:=hid (H12.out.trans ht4 (by simp)); have HT3:=hid (HT2.out.trans ht4 (by simp)); clear ht4)
     |(go_at_call 92; refine (HD.out _ HT4.out).mono ?_; rintro e w5 ⟨rfl,hh⟩; have hh:=hh.symm; subst hh))
      exact ⟨⟨k + 1,hlt,rfl,by rw [HF2.out],HT5.out⟩,by simp [intOf]; omega⟩
    ·have HF2:=hid (show (l.take (k + 1)).foldl st 0 = m by rw [HFO.out,if_neg (fun h=>h3 h.2.1)])
     go_wp2_with (first
     |(go_at_call 107; refine (HLk.out _ HT4.out).mono ?_; rintro e w5 ⟨rfl,ht5⟩; have HT5:=hid (HT3.out.trans ht5 (by simp)); clear ht5)
     |(go_at_call 106; refine HGk.out.mono ?_; rintro e w4 ⟨rfl,ht4⟩; have HT4:=hid (H12.out.trans ht4 (by simp)); have HT3:=hid (HT2.out.trans ht4 (by simp)); clear ht4)
     |(go_at_call 92; refine (HD.out _ HT4.out).mono ?_; rintro e w5 ⟨rfl,hh⟩; have hh:=hh.symm; subst hh))
     exact ⟨⟨k + 1,hlt,rfl,by rw [HF2.out],HT5.out⟩,by simp [intOf]; omega⟩
   ·have hmgi:(g:Int) ≤ (m:Int):=by omega
    have HF2:=hid (show (l.take (k + 1)).foldl st 0 = m by rw [HFO.out,if_neg (fun h=>hmg h.1)])
    go_wp2_with (first
     |(go_at_call 107; refine (HLk.out _ HT4.out).mono ?_; rintro e w5 ⟨rfl,ht5⟩; have HT5:=hid (HT3.out.trans ht5 (by simp)); clear ht5)
     |(go_at_call 106; refine HGk.out.mono ?_; rintro e w4 ⟨rfl,ht4⟩; have HT4:=hid (H12.out.trans ht4 (by simp)); have HT3:=hid (HT2.out.trans ht4 (by simp)); clear ht4)
     |(go_at_call 92; refine (HD.out _ HT4.out).mono ?_; rintro e w5 ⟨rfl,hh⟩; have hh:=hh.symm; subst hh))
    exact ⟨⟨k + 1,hlt,rfl,by rw [HF2.out],HT5.out⟩,by simp [intOf]; omega⟩
  ·obtain rfl:k = l.length:=by omega
   clear ht
   go_wp2_with fail
   go_ret
   exact ⟨by rw [HR.out,List.take_length]; rfl,H12.out⟩
end
end Go.Proofs.YthehcjjckabljaaGreatDoor
namespace Go.Proofs.YthehcjjckabljaaGreatDoor.Nm
open Go.RowKit Go.Deep PureHex
set_option maxRecDepth 100000
theorem info5:(Tryz.prog.info? 5).map (fun i=>(i.zero,i.size,i.bytes)) = some (some (.int .u8 0),1,1):=by kernel_rfl
def cb (l:List UInt8):List Value:=l.map fun b=>Value.int .u8 b.toNat
theorem cb_length (l:List UInt8):(cb l).length = l.length:=by simp [cb]
theorem cb_append (l m:List UInt8):cb (l ++ m) = cb l ++ cb m:=by simp [cb]
theorem add_plain (g o k:Nat):(⟨g,o,none⟩:Addr).add k = ⟨g,o + k,none⟩:=by
 unfold Addr.add
 split <;> simp_all
theorem azA (g j:Nat):(⟨g,0,none⟩:Addr).add j = ⟨g,j,none⟩:=by rw [add_plain,Nat.zero_add]
def Buf (B:Nat) (T:List UInt8) (W0:World) (v:Value) (w:World):Prop:=Lib.OwnBuf B 5 v T.length (cb T) W0 w
theorem Buf.empty {B:Nat} {W0 w:World} (hb:Below B W0 w) (hB:B ≤ w.heap.size):Buf B [] W0 (.slice none 0 0) w:=
 ⟨⟨rfl,.inl ⟨rfl,rfl⟩⟩,hb,hB⟩
theorem Buf.shape {B:Nat} {T:List UInt8} {W0:World} {v:Value} {w:World} (h:Buf B T W0 v w):∃ sa c,v = .slice sa T.length c:=by
 rcases h.1.2 with ⟨hn,h0⟩ | ⟨g,cap,cur,fz,hv,_⟩
 ·exact ⟨_,_,by rw [hn,h0]⟩
 ·exact ⟨_,_,hv⟩
theorem Buf.text {B:Nat} {T:List UInt8} {W0:World} {v:Value} {w:World} (h:Buf B T W0 v w):(convert 118 9 v).run Tryz.prog w = .ok (str T) w:=by
 rcases h.1.2 with ⟨hn,h0⟩ | ⟨g,cap,cur,fz,hv,hB,hg,hf,hc,hm,hs,ht⟩
 ·have:T = []:=List.eq_nil_of_length_eq_zero h0
  subst this
  rw [hn,run_convert_bytes_string w 118 9 5 none 0 0 Tryz.underlying118 Tryz.underlying5 Tryz.underlying9]
  simp [Conv.bytesToString]
  rfl
 ·rw [hv]
  refine run_convert_bytes_back (P:=Tryz.prog) w 118 9 5 ⟨g,0,none⟩ cap T Tryz.underlying118 Tryz.underlying5 Tryz.underlying9 (fun j hj=>?_)
  rw [Nat.mul_one] at ht
  have h1:cur.toList[j]? = (cb T)[j]?:=by rw [← ht,List.getElem?_take_of_lt hj]
  simp [cb,List.getElem?_eq_getElem hj] at h1
  rw [azA,cRw hg]
  exact h1
theorem app_bytes {ops:Array Oper} {rest:List Oper} {o:Oper} {a:Act} {Q:Exit → Act → World → Prop} {w0:World} {cs:Array Value} (hgd:o.guard = none) (s x:Operand)
  (ho:o.op = .call { callee:=.builtin .append,args:=#[s,x],argTypes:=#[118,118] })
  (B:Nat) (v:Value) (T D:List UInt8) (hcs:cs = (cb D).toArray) (m:Nat) (hm:m = D.length) (hs:a.eval s = v) (W0:World) (hb:Buf B T W0 v w0) (hx:a.eval x = .slice (some ⟨w0.heap.size,0,none⟩) m m) (hlen:T.length + D.length ≤ 140737488355328)
  (h:∀ v' w',Buf B (T ++ D) W0 v' w' → wpList Tryz.prog ops Q rest (a.put o.dst v') w'):wpList Tryz.prog ops Q (o :: rest) a (w0.alloc (.cells cs 5)):=by
 obtain ⟨i,hi,hz0,hz1,hz2⟩:=info_parts info5
 subst hcs hm
 have hb':=Lib.OwnBuf.alloc hb (.cells (cb D).toArray 5)
 refine wpList_append_ownF _ hgd s x 118 ho B 5 i (.int .u8 0) 1 1 Tryz.underlying118 hi hz0 hz1 hz2 rfl (by decide) v T.length (cb T) hs hb'.1 ⟨w0.heap.size,0,none⟩ D.length D.length (cb D) hx (by rw [cb_length,Nat.mul_one]) ?_ ?_ (by unfold maxLen; omega) (by omega) hb'.2.2 ?_
 ·intro j u hj
  rw [azA,cRw (heap_alloc_new w0 _)]
  simpa using hj
 ·intro u hu
  simp only [cb,List.mem_map] at hu
  obtain ⟨b,_,rfl⟩:=hu
  rfl
 ·intro v' w' ho' hg _
  refine h v' w' ?_
  unfold Buf
  rw [List.length_append,cb_append]
  exact hb'.grown ho' hg
theorem mask_at (u k:Nat) (hu:u < 18446744073709551616):bits BinOp.and IntKind.u64 ((u:Int) / 2 ^ (4 * (15 - k))) 15 = ((u / 16 ^ (15 - k) % 16:Nat):Int):=by
 have e:(u:Int) / 2 ^ (4 * (15 - k)) = ((u / 16 ^ (15 - k):Nat):Int):=by
  rw [Int.natCast_ediv,show (2:Int) ^ (4 * (15 - k)) = ((2 ^ (4 * (15 - k)):Nat):Int) from (Int.natCast_pow 2 _).symm,Nat.pow_mul]
 rw [e]
 exact mask15 _ (Nat.lt_of_le_of_lt (Nat.div_le_self _ _) hu)
theorem dig16 (m:Nat) (h:m < 16) (hz:m < (⟨#[48,49,50,51,52,53,54,55,56,57,97,98,99,100,101,102]⟩:ByteArray).size):((⟨#[48,49,50,51,52,53,54,55,56,57,97,98,99,100,101,102]⟩:ByteArray)[m]'hz) = hexC m:=by
 have key:∀ k:Fin 16,∀ h:k.val < 16,((⟨#[48,49,50,51,52,53,54,55,56,57,97,98,99,100,101,102]⟩:ByteArray)[k.val]'h) = hexC k.val:=by decide +kernel
 exact key ⟨m,h⟩ hz
set_option maxHeartbeats 4000000 in
theorem hex_any (u:Nat) (hu:u < 18446744073709551616) (w:World):Calls Tryz.prog 116 #[.int .u64 u] w fun e w'=>e = .returned (str (hexW 16 u)) ∧ Below w.heap.size w w':=by
 go_enter Tryz.func116,Tryz.ntmps116
 go_wp2
 go_loopw [3,4] (fun bv iv W=>∃ k:Nat,k ≤ 16 ∧ iv = .int .i64 (15 - (k:Int)) ∧ Hid (Buf w.heap.size (hexT u k) w bv W)) (fun _ iv _=>(intOf iv + 1).toNat)
 case atStart=>exact ⟨0,by omega,rfl,hid (Buf.empty (Below.refl _ _) (Nat.le_refl _))⟩
 case round =>
  obtain ⟨k,hk,rfl,HB⟩:=hrel
  obtain ⟨sa,ca,rfl⟩:=HB.out.shape
  by_cases hlt:k < 16
  ·have hm:=mask_at u k hu
   have hm2:u / 16 ^ (15 - k) % 16 < 16:=Nat.mod_lt _ (by decide)
   have HT:=hid (hexT_step u k hlt)
   have HL:Hid ((hexT u k).length = k):=hexW_len _ _
   obtain ⟨m,hm3⟩:∃ m,m = u / 16 ^ (15 - k) % 16:=⟨_,rfl⟩
   rw [← hm3] at hm hm2 HT
   clear hm3
   go_wp2_with (first
    |(at_builtin; refine app_bytes rfl _ _ rfl w.heap.size _ _ [hexC m] (by rw [dig16 m hm2]; rfl) 1 rfl rfl w HB.out rfl (by rw [HL.out]; simp; omega) ?_; intro v1 w1 r1; have R1:=hid r1; clear r1))
   rw [← HT.out] at R1
   first
    | exact ⟨⟨k + 1,by omega,by go_num,R1⟩,by simp [intOf]; omega⟩
    | trace_state
  ·have hk16:k = 16:=by omega
   have hneg:¬ (0 ≤ 15 - (k:Int)):=by omega
   have HF:Hid (hexT u k = hexW 16 u):=by
    rw [hk16]
    exact hexT_full u
   clear hk16
   have hc:=HB.out.text
   have BB:=hid HB.out.2.1
   go_wp2
   go_ret
   exact ⟨by rw [← HF.out]; rfl,BB.out⟩
set_option maxHeartbeats 1000000 in
theorem rfile_any (u:Nat) (hu:u < 18446744073709551616) (w:World):Calls Tryz.prog 62 #[.int .u64 u] w fun e w'=>e = .returned (str ([100,100,45] ++ hexW 16 u)) ∧ Below w.heap.size w w':=by
 have B:=hid (hex_any u hu w)
 have hl:=hexW_len 16 u
 obtain ⟨s,hs⟩:∃ s,s = hexW 16 u:=⟨_,rfl⟩
 rw [← hs] at B hl ⊢
 have hsz:(⟨s.toArray⟩:ByteArray).size = 16:=hl
 clear hs hl
 go_enter Tryz.func62,Tryz.ntmps62
 go_wp2_with (first
  |(go_at_call 116; refine B.out.mono ?_; rintro e w2 ⟨rfl,b2⟩; have B2:=hid b2; clear b2))
 go_ret
 exact ⟨congrArg (fun b=>Ending.returned (Value.string b)) (str_add [100,100,45] s),B2.out⟩
set_option maxHeartbeats 1000000 in
theorem rname_any (u:Nat) (hu:u < 18446744073709551616) (w:World):Calls Tryz.prog 69 #[.int .u64 u] w fun e w'=>e = .returned (str ([99,97,116,45] ++ hexW 16 u)) ∧ Below w.heap.size w w':=by
 have B:=hid (hex_any u hu w)
 have hl:=hexW_len 16 u
 obtain ⟨s,hs⟩:∃ s,s = hexW 16 u:=⟨_,rfl⟩
 rw [← hs] at B hl ⊢
 have hsz:(⟨s.toArray⟩:ByteArray).size = 16:=hl
 clear hs hl
 go_enter Tryz.func69,Tryz.ntmps69
 go_wp2_with (first
  |(go_at_call 116; refine B.out.mono ?_; rintro e w2 ⟨rfl,b2⟩; have B2:=hid b2; clear b2))
 go_ret
 exact ⟨congrArg (fun b=>Ending.returned (Value.string b)) (str_add [99,97,116,45] s),B2.out⟩
end Go.Proofs.YthehcjjckabljaaGreatDoor.Nm
namespace Go.Proofs.YthehcjjckabljaaGreatDoor
open Go.RowKit Go.Deep
set_option maxRecDepth 100000
set_option linter.unusedSimpArgs false
set_option linter.unusedVariables false
def uniq:List (List UInt8) → List (List UInt8)
 | []=>[]
 | x :: r=>if x ∈ r then uniq r else x :: uniq r
theorem mem_uniq {x:List UInt8}:∀ {l:List (List UInt8)},x ∈ uniq l ↔ x ∈ l
 | []=>Iff.rfl
 | y :: r=>by
  unfold uniq
  split
  ·next h =>
   rw [mem_uniq (l:=r),List.mem_cons]
   exact ⟨.inr,fun h'=>h'.elim (fun e=>by rw [e]; exact h) id⟩
  ·rw [List.mem_cons,List.mem_cons,mem_uniq (l:=r)]
theorem nodup_uniq:∀ l:List (List UInt8),(uniq l).Nodup
 | []=>List.nodup_nil
 | y :: r=>by
  unfold uniq
  split
  ·exact nodup_uniq r
  ·next h=>exact List.nodup_cons.2 ⟨fun hm=>h (mem_uniq.1 hm),nodup_uniq r⟩
theorem uniq_len:∀ l:List (List UInt8),(uniq l).length ≤ l.length
 | []=>Nat.le_refl _
 | y :: r=>by
  unfold uniq
  have:=uniq_len r
  split <;> simp <;> omega
def sortU (l:List (List UInt8)):List ByteArray:=((uniq l).mergeSort fun x y=>decide (x ≤ y)).map bs
theorem sortU_len (l:List (List UInt8)):(sortU l).length ≤ l.length:=by unfold sortU; rw [List.length_map,List.length_mergeSort]; exact uniq_len l
section
variable {w w':World} {b:Bn} {n:Nat} {A:PubA} {s:Pu.St} {F:List Nat} {kb:Nat} {K T:Int} {mb:Nat} {l:List (List UInt8)}
theorem SeenAt.lookN (h:SeenAt w mb l) {x:ByteArray} (hx:x.size ≤ 32) :
  (Instr.lookup 89 (.map (some mb)) (.string x) true).run Tryz.prog w = .ok (.tuple #[.agg #[],.bool (decide (nm x ∈ l))]) w:=by
 obtain ⟨D,h1,h2⟩:=h
 obtain ⟨v,ps,hrun,hv⟩:=h1.look_ok (t:=89) (e:=104) (z:=.agg #[]) (zd:=.agg []) (zp:=[]) (Maps.string_keyed Tryz.underlying9) Tryz.underlying89 (by kernel_rfl) (unitElem_mk) (WideMaps.keyOf_string_mk Tryz.underlying9 (s:=x) (by unfold maxLen; omega))
 obtain ⟨rfl,_⟩:=unitElem_inv hv
 rw [hrun,h2]
theorem SeenAt.putN (h:SeenAt w mb l) (hl:l.length ≤ 1099511627776) {x:ByteArray} (hx:x.size ≤ 32) :
  ∃ w2,(Instr.mapUpdate 89 (.map (some mb)) (.string x) (.agg #[])).run Tryz.prog w = .ok () w2 ∧ SeenAt w2 mb (l ++ [nm x]) ∧ Tc [mb] w w2:=by
 obtain ⟨D,h1,h2⟩:=h
 obtain ⟨w2,r1,r2,r3⟩:=h1.store (t:=89) (e:=104) (Maps.string_keyed Tryz.underlying9) Tryz.underlying89 (by unfold maxLen; omega) (WideMaps.keyOf_string_mk Tryz.underlying9 (s:=x) (by unfold maxLen; omega)) (val:=.agg #[]) (d:=.agg []) (ps:=[]) unitElem_mk
 refine ⟨w2,r1,⟨_,by rw [List.length_append]; exact r2,fun k=>?_⟩,(Tc.refl [mb] w).grown r3.grown (by simp)⟩
 by_cases hk:k = nm x
 ·subst hk
  rw [Maps.has_put_same h1.isMap (by simp [WideAt.IsKeyLit])]
  simp
 ·rw [Maps.has_put_other (by intro e; cases e; exact hk rfl),h2]
  simp [hk]
theorem SeenAt.lt (h:SeenAt w mb l):mb < w.heap.size:=by
 obtain ⟨D,hD,_⟩:=h
 exact hD.lt
theorem add_any (h:SeenAt w mb l) (hl:l.length ≤ 1099511627776) {x:ByteArray} (hx:x.size ≤ 32) :
  Calls Tryz.prog 50 #[.map (some mb),.string x] w fun e w'=>e = .returned (.tuple #[]) ∧ SeenAt w' mb (l ++ [nm x]) ∧ Tc [mb] w w':=by
 obtain ⟨w2,hp,hs2,ht2⟩:=h.putN hl hx
 clear h
 go_enter Tryz.func50,Tryz.ntmps50
 go_wp2_with fail
 go_end0
 exact ⟨rfl,hs2,ht2⟩
set_option maxHeartbeats 1000000 in
theorem sorted_any (h:SeenAt w mb l) (hl:l.length ≤ 1099511627776) :
  Calls Tryz.prog 48 #[.map (some mb)] w fun e w'=>∃ sa c,e = .returned (.slice sa (sortU l).length c) ∧ StrsAt w' sa (sortU l) ∧ Tc [] w w':=by
 obtain ⟨D,hD,hm⟩:=h
 have hsz:Maps.size D ≤ l.length:=hD.size_le
 obtain ⟨es,rfl,hpw,hkl⟩:=hD.entries (Maps.string_keyed Tryz.underlying9)
 have hstr:∀ p ∈ es,∃ x,p.1 = .string x:=by
  obtain ⟨es',he,hk⟩:=hD.keysOf
  cases he
  intro p hp
  obtain ⟨key,hkey⟩:=hk p hp
  obtain ⟨x,_,e,_⟩:=Maps.keyOf_str Tryz.underlying9 hkey
  exact ⟨x,e⟩
 have hperm:=perm_strKeys hpw hstr (nodup_uniq l) (fun x=>by rw [mem_uniq,hm]; simp)
 have HK:=hid (fun W=>callsIn_wide.1 (Tryz.maps_Keys_98 (some mb) W))
 have HS:=hid (callsIn_wide.1 (Tryz.slices_Sorted_keys_97_98 mb l.length (.map es) unitElem w hD (by unfold maxLen; omega) (by omega)))
 have HP:=hid hperm
 clear hperm hpw hstr hkl hm hsz hD
 go_enter Tryz.func48,Tryz.ntmps48
 go_wp2_with (first
  |(go_at_call 98; refine (HK.out _).mono ?_; rintro e w' ⟨rfl,rfl⟩)
  |(go_at_call 97; refine HS.out.mono ?_; rintro e w' ⟨v,ss,rfl,hP,hrow,hnil,hb⟩))
 go_ret
 have e1:ss.mergeSort (fun x y=>decide (x ≤ y)) = (uniq l).mergeSort (fun x y=>decide (x ≤ y)):=mergeSort_of_perm (hP.trans HP.out.symm)
 have hlen:ss.length = (sortU l).length:=by
  unfold sortU
  rw [List.length_map,List.length_mergeSort]
  exact (hP.trans HP.out.symm).length_eq
 rw [e1,hlen] at hrow
 have ht:Tc [] w w':=((Tc.refl [] w).alloc _).trans (Tc.of_below (F:=[]) hb (Nat.le_refl _)) (by simp)
 rcases hrow.2 with ⟨rfl,h0⟩ | ⟨g,cap,cur,rfl,hg,hgg,hh⟩
 ·refine ⟨none,0,by rw [h0]; rfl,⟨fun k hk=>by omega⟩,ht⟩
 ·refine ⟨some ⟨g,0,none⟩,cap,rfl,⟨fun k hk=>⟨_,rfl,ltB hgg,?_⟩⟩,ht⟩
  have hk':k < ((uniq l).mergeSort fun x y=>decide (x ≤ y)).length:=by unfold sortU at hk; simpa using hk
  exact hrow.cells (g:=g) rfl k _ (by unfold sortU; rw [List.getElem?_map,List.getElem?_eq_getElem hk']; simp [encStr,bs,sortU]; exact (List.getElem_map bs).symm)
structure RowsAt (w:World) (sa:Option Addr) (l:List (Int × Nat)):Prop where
 at_:∀ k (hk:k < l.length),∃ a,sa = some a ∧ a.block < w.heap.size ∧ w.cell? (a.add (k * 2)) = some (.int .i64 l[k].1) ∧ w.cell? ⟨(a.add (k * 2)).block,(a.add (k * 2)).off + 1,none⟩ = some (.int .u64 (l[k].2:Int))
theorem RowsAt.touch {sa:Option Addr} {l:List (Int × Nat)} {G:List Nat} (h:RowsAt w sa l) (t:Tc G w w') (hG:∀ a,sa = some a → a.block ∉ G):RowsAt w' sa l:=⟨fun k hk=>by
 obtain ⟨a,e,h2,c0,c1⟩:=h.at_ k hk
 have hb:(a.add (k * 2)).block = a.block:=add_block a _
 have hn:a.block ∉ G:=hG a e
 exact ⟨a,e,Nat.lt_of_lt_of_le h2 t.size,(t.cell (p:=a.add (k * 2)) (by rw [hb]; exact h2) (by rw [hb]; exact hn)).trans c0,(t.cell (p:=⟨(a.add (k * 2)).block,_,none⟩) (by show (a.add (k * 2)).block < _; rw [hb]; exact h2) (by show (a.add (k * 2)).block ∉ G; rw [hb]; exact hn)).trans c1⟩⟩
theorem RowsAt.nil (w:World) (sa:Option Addr):RowsAt w sa []:=⟨fun k hk=>absurd hk (by simp)⟩
def fileN (u:Nat):List UInt8:=[100,100,45] ++ PureHex.hexW 16 u
def catN (u:Nat):List UInt8:=[99,97,116,45] ++ PureHex.hexW 16 u
theorem fileN_len (u:Nat):(fileN u).length = 19:=by unfold fileN; rw [List.length_append,PureHex.hexW_len]; rfl
theorem catN_len (u:Nat):(catN u).length = 20:=by unfold catN; rw [List.length_append,PureHex.hexW_len]; rfl
def filesN (l:List (Int × Nat)):List (List UInt8):=l.map fun r=>fileN r.2
theorem run_makeMap_n (w:World):(Instr.makeMap 89 none).run Tryz.prog w = .ok (.map (some w.heap.size)) (w.alloc (.map #[] 0)):=by
 simp [Instr.makeMap,run_underlying Tryz.underlying89]
set_option maxHeartbeats 1000000 in
theorem filesOf_any {sa:Option Addr} {c:Nat} {r:List (Int × Nat)} (h:RowsAt w sa r) (hl:r.length ≤ 1048576) (hr:∀ x ∈ r,x.2 < 18446744073709551616) (hT:Tabs w) :
  Calls Tryz.prog 46 #[.slice sa r.length c] w fun e w'=>∃ mb,e = .returned (.map (some mb)) ∧ w.heap.size ≤ mb ∧ SeenAt w' mb (filesN r) ∧ Tc [] w w':=by
 have HF:=hid (fun W (t:Tc [] w W) u (hu:u < 18446744073709551616)=>Nm.file_any u hu W (hT.quiet t).tz)
 have HR:=hid (fun W (t:Tc [] w W)=>h.touch t (by simp))
 have HX:=hid hr
 clear h hT hr
 go_enter Tryz.func46,Tryz.ntmps46
 go_wp2_with fail
 rw [run_makeMap_n w]
 obtain ⟨mb,hmb⟩:∃ mb,mb = w.heap.size:=⟨_,rfl⟩
 have hm0:SeenAt (w.alloc (.map #[] 0)) mb []:=⟨.map [],by rw [hmb]; exact empty_map _ _ _ _ (heap_alloc_new w _),fun k=>by simp [Maps.has]⟩
 have t0:Tc [] w (w.alloc (.map #[] 0)):=(Tc.refl [] w).alloc _
 generalize w.alloc (.map #[] 0) = W0 at hm0 t0 ⊢
 rw [← hmb]
 have HB:=hid hmb
 clear hmb
 have HM0:=hid hm0
 have HT0:=hid t0
 clear hm0 t0
 go_wp2_with fail
 go_loopw [9] (fun i W=>∃ k:Nat,k ≤ r.length ∧ i = .int .i64 k ∧ SeenAt W mb (filesN (r.take k)) ∧ Tc [] w W) (fun i _=>r.length - (intOf i).toNat)
 case atStart=>exact ⟨0,Nat.zero_le _,rfl,HM0.out,HT0.out⟩
 case round =>
  obtain ⟨k,hk,rfl,hs,ht⟩:=hrel
  by_cases hlt:k < r.length
  ·obtain ⟨a,rfl,hab,c0,c1⟩:=(HR.out wr ht).at_ k hlt
   have hux:=HX.out r[k] (List.getElem_mem _)
   have hfn:filesN (r.take (k + 1)) = filesN (r.take k) ++ [fileN r[k].2]:=by unfold filesN; rw [List.take_succ_eq_append_getElem hlt,List.map_append]; rfl
   have HFN:=hid hfn
   have HS:=hid hs
   have HT:=hid ht
   have HLL:=hid (show (filesN (r.take k)).length ≤ 1099511627776 by unfold filesN; rw [List.length_map,List.length_take]; omega)
   clear hs ht hfn
   generalize filesN (r.take k) = fl at *
   generalize r[k].1 = ha at *
   generalize r[k].2 = u at *
   have HU:=hid hux
   clear hux
   go_wp2_with (first
    |(go_at_call 50; refine (add_any (HS.out.touch HT2.out (by simp)) HLL.out (x:=bs (fileN u)) (by show (fileN u).length ≤ 32; rw [fileN_len]; omega)).mono ?_; rintro e w3 ⟨rfl,hs3,ht3⟩; have HS3:=hid hs3; have HT3:=hid ht3; clear hs3 ht3)
    |(go_at_call 16; refine (HF.out _ (HT.out.alloc _) _ HU.out).mono ?_; rintro e w2 ⟨rfl,hb⟩; have HT2:=hid (((Tc.refl [] wr).alloc _).trans (Tc.of_below (F:=[]) hb (Nat.le_refl _)) (by simp)); clear hb))
   have hne:∀ y ∈ [mb],y ∈ ([]:List Nat) ∨ w.heap.size ≤ y:=by intro y hy; right; simp at hy; rw [hy,HB.out]; exact Nat.le_refl _
   refine ⟨⟨k + 1,hlt,rfl,by rw [HFN.out]; exact HS3.out,(HT.out.trans HT2.out (by simp)).trans HT3.out hne⟩,by simp [intOf]; omega⟩
  ·obtain rfl:k = r.length:=by omega
   rw [List.take_length] at hs
   have HS:=hid hs
   have HT:=hid ht
   clear hs ht
   go_wp2_with fail
   go_ret
   exact ⟨mb,rfl,by rw [HB.out]; exact Nat.le_refl _,HS.out,HT.out⟩
set_option maxHeartbeats 1000000 in
theorem overtaken_any (S:Std w b n A s F) (hn:n < 1099511627776) (hk:DkA w kb b K T) (hT:Tabs w) (g:Nat) :
  Calls Tryz.prog 91 #[ptr kb,.int .u64 (g:Int)] w fun e w'=>e = .returned (.bool (overA A g)) ∧ Tc [] w w':=by
 have HD:=hid (Disk_any hk)
 have HN:=hid (names_s S hn)
 have hl:=names_len S
 have hf:=names_few S
 have HG:=hid (fun W (t:Tc [] w W) (x:ByteArray) (hx:x.size ≤ 32)=>generation_any (nm x) (nm_small hx) (hT.quiet t))
 have HR:=hid (show overA A g = (namesA A).any fun x=>decide (g < genN (nm x)) from rfl)
 clear S hk hT
 generalize namesA A = l at *
 have HL1:=hid hl
 have HL2:=hid (show l.length < 1099511627776 by omega)
 clear hl hf
 go_enter Tryz.func91,Tryz.ntmps91
 go_wp2_with (first
  |(go_at_call 21; refine HN.out.mono ?_; rintro e w1 ⟨sa,c,rfl,hs,-,ht⟩; have HS:=hid hs; have HT1:=hid ht; clear hs ht)
  |(go_at_call 92; refine HD.out.mono ?_; rintro e w1 ⟨rfl,hh⟩; have hh:=hh.symm; subst hh))
 go_loopw [11] (fun i W=>∃ k:Nat,k ≤ l.length ∧ i = .int .i64 k ∧ (l.take k).any (fun x=>decide (g < genN (nm x))) = false ∧ Tc [] w1 W) (fun i _=>l.length - (intOf i).toNat)
 case atStart=>exact ⟨0,Nat.zero_le _,rfl,rfl,Tc.refl _ _⟩
 case round =>
  obtain ⟨k,hk,rfl,hno,ht⟩:=hrel
  have HT2:=hid ht
  have H12:=hid (HT1.out.trans ht (by simp))
  have hl2:=HL2.out
  by_cases hlt:k < l.length
  ·obtain ⟨a,rfl,hab,hc⟩:=(HS.out.touch ht (by simp)).at_ k hlt
   have hx:=HL1.out l[k] (List.getElem_mem _)
   have hta:(l.take (k + 1)).any (fun x=>decide (g < genN (nm x))) = decide (g < genN (nm l[k])):=by rw [List.take_succ_eq_append_getElem hlt,List.any_append,hno]; simp
   have hall:g < genN (nm l[k]) → l.any (fun x=>decide (g < genN (nm x))) = true:=fun h=>List.any_eq_true.2 ⟨l[k],List.getElem_mem _,by simpa using h⟩
   have HGk:=hid (HG.out _ H12.out l[k] hx)
   rw [show (⟨(nm l[k]).toArray⟩:ByteArray) = l[k] from nm_mk _] at HGk
   have HTA:=hid hta
   have HAL:=hid hall
   clear hta hall hno ht hab
   generalize genN (nm l[k]) = v at HTA HGk HAL
   generalize l[k] = x at *
   by_cases hgv:g < v
   ·have hgi:(g:Int) < (v:Int):=by omega
    have HO:=hid (show overA A g = true by rw [HR.out]; exact HAL.out hgv)
    go_wp2_with (go_at_call 106; refine HGk.out.mono ?_; rintro e w4 ⟨rfl,ht4⟩; have HT4:=hid (H12.out.trans ht4 (by simp)); clear ht4)
    go_ret
    exact ⟨by rw [HO.out]; rfl,HT4.out⟩
   ·have hgi:(v:Int) ≤ (g:Int):=by omega
    have HO:=hid (show (l.take (k + 1)).any (fun x=>decide (g < genN (nm x))) = false by rw [HTA.out]; simpa using hgv)
    go_wp2_with (go_at_call 106; refine HGk.out.mono ?_; rintro e w4 ⟨rfl,ht4⟩; have HT4:=hid (HT2.out.trans ht4 (by simp)); clear ht4)
    exact ⟨⟨k + 1,hlt,rfl,HO.out,HT4.out⟩,by simp [intOf]; omega⟩
  ·obtain rfl:k = l.length:=by omega
   rw [List.take_length] at hno
   have HO:=hid (show overA A g = false by rw [HR.out]; exact hno)
   clear ht hno
   go_wp2_with fail
   go_ret
   exact ⟨by rw [HO.out]; rfl,H12.out⟩
end
end Go.Proofs.YthehcjjckabljaaGreatDoor
