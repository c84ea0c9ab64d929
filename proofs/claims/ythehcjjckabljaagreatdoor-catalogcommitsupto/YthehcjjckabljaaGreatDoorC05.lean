import Derived.Conc.MuLone
import Derived.KernelRfl
import Derived.WalkKit
import Derived.WalkSpells
import Derived.WalkLawsBesides
import Derived.Defers
import Derived.Laws.LoneSync
import Derived.Below
import Derived.Deep.QuietTactic
import Derived.Deep.RegionWith
import Derived.Deep.RegionHeld3
import Derived.Test.YthehcjjckabljaaGreatDoorRows
import Derived.Test.YthehcjjckabljaaGreatDoorC04
namespace Go.Proofs.YthehcjjckabljaaGreatDoor
open Go.RowKit Go.Deep
section
variable {w w':World} {E:Nat → Addr} {lo p mf mt:Nat} {D:DkC}
set_option maxHeartbeats 400000 in
theorem carry_fetch_cut (V:Env w lo E) (R:Rep w lo p mf mt D) (a b:Int) :
  Calls Tryz.prog 87 #[ptr p,.agg #[.int .i64 a,.int .i64 2,.int .i64 b],.func (.func 270) #[] #[]] w fun e w'=>e = .returned (errV E 2) ∧ Rep w' lo p mf mt D.off ∧ Tc [p] w w':=by
 by_cases hb:0 < b
 ·have hlop:lo ≤ p:=R.base p (by simp [DkC.foot])
  have VO:=V.touch R.off.2 (by simp; exact hlop)
  have c2:∀ o:Obj,((w.setCell ⟨p,2,none⟩ (.bool false)).alloc o).cell? ⟨6,0,none⟩ = some (errV E 2):=fun o=>(VO.alloc o).sents.var2
  have k2:=R.cell 2
  simp only [dRow] at k2
  have f2:=R.unfrozen 2
  have HR:=hid R.off
  have hp:=ltB R.row
  clear V VO
  go_enter Tryz.func87,Tryz.ntmps87
  go_wp2_with go_in
  go_end0
  go_wp2
  go_ret
  exact ⟨rfl,HR.out.1.alloc _,HR.out.2.alloc _⟩
 ·exact carry_cut0 V R a b (by omega) _
set_option maxRecDepth 100000 in
set_option maxHeartbeats 400000 in
theorem fetch_no (V:Env w lo E) (R:Rep w lo p mf mt D) (s:ByteArray) (i:Int) (ho:D.on = true) (hn:nameB s = true) {e0:Ent} (hf:findE D.ents (nm s) = some e0) (hs:e0.file.shut = true) (hi0:0 ≤ i) (hi1:i < e0.file.blocks.length) {a k b:Int} (hT:TrI D.T D.c.calls a k b) (hS:Small D.pub) {j:Nat} {Post:World → World → Prop}
  (HC:∀ w3,Env w3 lo E → Rep w3 lo p mf mt D.numbered → Calls Tryz.prog 87 #[ptr p,.agg #[.int .i64 a,.int .i64 k,.int .i64 b],.func (.func 270) #[] #[]] w3 fun e w4=>e = .returned (errV E j) ∧ Post w3 w4 ∧ Tc [p] w3 w4) :
  Calls Tryz.prog 260 #[ptr p,.string s,.int .i64 i] w fun e w'=>e = .returned (.tuple #[.slice none 0 0,errV E j]) ∧ (∃ w3,Rep w3 lo p mf mt D.numbered ∧ Post w3 w') ∧ Tc [p,mt] w w':=by
 have H:=hid (find_some R s ho hn hf)
 have hm:=(fEm hf).1
 have hat:=R.each e0 hm
 have c0:=cRw hat.row 0
 simp [hs] at c0
 have hd:decide (0 ≤ i ∧ i < (e0.file.blocks.length:Int)) = true:=by simp; omega
 have h0:=hS.calls.1
 have h1:=hS.calls.2
 simp only [DkC.pub] at h0 h1
 have HA:=hid hat
 have HR:=hid R
 have HV:=hid V
 have HCC:=hid HC
 have hlop:Hid (lo ≤ p ∧ lo ≤ mt):=hid ⟨R.base p (by simp [DkC.foot]),R.base mt (by simp [DkC.foot])⟩
 clear hf hs hat R hS V HC
 go_enter Tryz.func260,Tryz.ntmps260
 go_wp2_with (first
  |(go_at_call 86; refine H.out.mono ?_; rintro e w1 ⟨rfl,hq⟩; have d0:=(Quiet.cell hq _).trans c0; have HQ:=hid hq; clear hq c0)
  |(go_at_call 269; refine (has_any (HA.out.kept fun b _=>by rw [Quiet.heap HQ.out]) i).mono ?_; rintro e w2 ⟨rfl,rfl⟩)
  |(go_at_call 88; refine (number_any (Quiet.rep HQ.out HR.out) hT h0 h1).mono ?_; rintro e w3 ⟨rfl,hR3,ht3⟩)
  |(go_at_call 87; refine (HCC.out w3 ((Quiet.env HQ.out HV.out).touch ht3 (by simp; exact hlop.out)) hR3).mono ?_; rintro e w4 ⟨rfl,hp4,ht4⟩))
 go_ret2
 exact ⟨rfl,⟨w3,hR3,hp4⟩,((Quiet.touch HQ.out [p,mt]).trans ht3 (by simp)).trans ht4 (by simp)⟩
set_option maxHeartbeats 400000 in
theorem Read_err2 {s:ByteArray} {i:Int} {j:Nat} {v:Int} {Post Post2:World → Prop} (h:Calls Tryz.prog 260 #[ptr p,.string s,.int .i64 i] w fun e w'=>e = .returned (.tuple #[.slice none 0 0,errV E j]) ∧ Post w')
  (ha:∀ w1,Post w1 → Calls Tryz.prog 42 #[ptr p,errV E j] w1 fun e w'=>e = .returned (.int .i64 v) ∧ Post2 w') :
  Calls Tryz.prog 253 #[ptr p,.string s,.int .i64 i] w fun e w'=>e = .returned (.tuple #[.slice none 0 0,.int .i64 v]) ∧ Post2 w':=by
 have H:=hid h
 have HA:=hid ha
 clear h ha
 go_enter Tryz.func253,Tryz.ntmps253
 go_wp2_with (first | (go_at_call 260; refine H.out.mono ?_; rintro e w1 ⟨rfl,ht⟩; have HT:=hid ht; clear ht) | (go_at_call 42; refine (HA.out _ HT.out).mono ?_; rintro e w2 ⟨rfl,hp⟩))
 go_ret2
 exact ⟨rfl,hp⟩
set_option maxRecDepth 100000 in
set_option maxHeartbeats 400000 in
theorem Read_ok2 (V:Env w lo E) (R:Rep w lo p mf mt D) (s:ByteArray) (i:Int) (ho:D.on = true) (hn:nameB s = true) {e0:Ent} (hf:findE D.ents (nm s) = some e0) (hs:e0.file.shut = true) (hi0:0 ≤ i) (hi1:i < e0.file.blocks.length) {a k b:Int} (hT:TrI D.T D.c.calls a k b) (hk1:(k == 1) = false) (hk2:(k == 2) = false) (hS:Small D.pub) :
  Calls Tryz.prog 253 #[ptr p,.string s,.int .i64 i] w fun e w'=>∃ g,e = .returned (.tuple #[sliceV g D.B,.int .i64 0]) ∧ w.heap.size ≤ g ∧ BytesAt w' g (e0.file.blocks[i.toNat]'(by omega)) ∧ Rep w' lo p mf mt { D.numbered with c:={ D.numbered.c with reads:=D.c.reads + 1 } } ∧ Tc [p,mt] w w':=by
 have H:=hid (fetch_ok R s i ho hn hf hs hi0 hi1 hT hk1 hk2 hS)
 have hF:∀ b ∈ [p,mt],lo ≤ b:=fun b hb=>R.base b (by simp at hb; rcases hb with rfl | rfl <;> simp [DkC.foot])
 have hr:=hS.reads
 simp only [DkC.pub] at hr
 obtain ⟨hr1,hr2⟩:=hr
 have hp:=ltB R.row
 clear hf hs R hS hT
 go_enter Tryz.func253,Tryz.ntmps253
 go_wp2_with (first
  |(go_at_call 260; refine H.out.mono ?_; rintro e w1 ⟨g,rfl,hg,hb1,hR1,ht1⟩; have k6:=hR1.cell 6; have f6:=hR1.unfrozen 6; simp only [dRow,DkC.numbered] at k6; have HR1:=hid hR1; have HB1:=hid hb1; have HV1:=hid (V.touch ht1 hF); have HT1:=hid ht1; clear hR1 hb1 ht1)
  |(go_at_call 42; refine (answer_nil (E:=E) (p:=p) ?_).mono ?_; exact (HV1.out.touch (F:=[p]) ((Tc.refl [p] w1).setCell (p:=⟨p,6,none⟩) (by simp) _) (fun b hb=>hF b (by simp at hb; simp [hb]))).sents; rintro e w2 ⟨rfl,rfl⟩))
 go_ret2
 have t1:Tc [p] w1 (w1.setCell ⟨p,6,none⟩ (.int .i64 (D.c.reads + 1))):=(Tc.refl [p] w1).setCell (by simp) _
 refine ⟨g,rfl,hg,?_,HR1.out.setRow rfl rfl rfl t1 ?_,HT1.out.trans t1 (by simp)⟩
 ·show (w1.setCell _ _).heap[g]? = _
  rw [Below.heap_setCell _ _ _ _ (by show g ≠ p; omega)]
  exact HB1.out
 ·rw [sRw HR1.out.row 6]
  rfl
def readX (s:ByteArray) (i k:Int) (A:PubA):Option (List UInt8) × Int × PubA:=
 if (readA s i A).2.1 = 0 then (if k = 1 then (none,9,A.faulted) else if k = 2 then (none,10,A.shut) else readA s i A) else readA s i A
def DidIn3 (w w':World) (lo p mf mt:Nat) (D:DkC) (A':PubA):Prop:=
 ∃ D',Rep w' lo p mf mt D' ∧ D'.pub = A' ∧ ((D'.T = D.T ∧ D'.c.calls = D.c.calls) ∨ (D'.T = D.T.del (.int .i64 D.c.calls) ∧ D'.c.calls = D.c.calls + 1)) ∧ Tc (D.foot p mf mt) w w' ∧ D'.foot p mf mt = D.foot p mf mt
theorem Read_x (V:Env w lo E) (R:Rep w lo p mf mt D) (ho:D.on = true) (hS:Small D.pub) (hfl:0 ≤ D.c.faults ∧ D.c.faults ≤ 1099511627776) {a k b:Int} (hT:TrI D.T D.c.calls a k b) (s:ByteArray) (i:Int) :
  Calls Tryz.prog 253 #[ptr p,.string s,.int .i64 i] w fun e w'=>∃ v,e = .returned (.tuple #[v,.int .i64 (readX s i k D.pub).2.1]) ∧ Told1 w' w.heap.size D.B (readX s i k D.pub).1 v ∧ DidIn3 w w' lo p mf mt D (readX s i k D.pub).2.2:=by
 have hfp:findA D.pub.files (nm s) = (findE D.ents (nm s)).map Ent.file:=find_pub _ _
 have err:∀ (j:Nat) (r:Int),j < 11 → j ≠ 1 → j ≠ 9 → code j = r → r ≠ 0 → readA s i D.pub = (none,r,D.pub) → (Calls Tryz.prog 260 #[ptr p,.string s,.int .i64 i] w fun e w'=>e = .returned (.tuple #[.slice none 0 0,errV E j]) ∧ Tc [] w w') →
   Calls Tryz.prog 253 #[ptr p,.string s,.int .i64 i] w fun e w'=>∃ v,e = .returned (.tuple #[v,.int .i64 (readX s i k D.pub).2.1]) ∧ Told1 w' w.heap.size D.B (readX s i k D.pub).1 v ∧ DidIn3 w w' lo p mf mt D (readX s i k D.pub).2.2:=fun j r hj h1 h9 hc h0 hr h=>by
  have e9:readX s i k D.pub = (none,r,D.pub):=by unfold readX; rw [hr,if_neg h0]
  rw [e9,← hc]
  exact (Read_err V hj h1 h9 h).mono fun e w1 ⟨e1,ht⟩=>⟨.slice none 0 0,e1,rfl,D,R.touch ht (by simp),rfl,.inl ⟨rfl,rfl⟩,ht.mono (by simp),rfl⟩
 by_cases hn:nameB s = true
 ·cases hf:findE D.ents (nm s) with
  | none=>exact err 4 12 (by omega) (by omega) (by omega) rfl (by decide) (by unfold readA; rw [if_pos hn,hfp,hf]; rfl) (fetch_err s i 4 (find_none V.sents R s ho hn hf))
  | some e0 =>
   cases hs:e0.file.shut with
   | false=>exact err 7 15 (by omega) (by omega) (by omega) rfl (by decide) (by unfold readA; rw [if_pos hn,hfp,hf]; simp [hs]) (fetch_open V R s i ho hn hf hs)
   | true =>
    by_cases hi:0 ≤ i ∧ i < e0.file.blocks.length
    ·have hr:readA s i D.pub = (e0.file.blocks[i.toNat]?,0,{ D.pub with c:={ D.pub.c with calls:=D.pub.c.calls + 1,reads:=D.pub.c.reads + 1 } }):=by
      unfold readA
      rw [if_pos hn,hfp,hf]
      simp only [Option.map_some,hs,if_true]
      rw [if_pos hi]
     have hG:∀ b ∈ [p,mt],b ∈ D.foot p mf mt:=fun b hb=>by
      simp at hb
      rcases hb with rfl | rfl <;> simp [DkC.foot]
     have hF:∀ b ∈ [p,mt],lo ≤ b:=fun b hb=>R.base b (hG b hb)
     by_cases k1:k = 1
     ·subst k1
      have e9:readX s i 1 D.pub = (none,9,D.pub.faulted):=by unfold readX; rw [hr,if_pos rfl,if_pos rfl]
      rw [e9]
      have hc:=fetch_no V R s i ho hn hf hs hi.1 hi.2 hT hS (j:=1) (Post:=fun w3 w4=>Tc [] w3 w4) fun w3 V3 R3=>(carry_fault V3 a b _).mono fun e w4 ⟨h1,h2⟩=>⟨h1,h2,h2.mono (by simp)⟩
      have h:=Read_err2 (v:=9) (Post2:=fun w'=>DidIn3 w w' lo p mf mt D D.pub.faulted) hc fun w1 ⟨⟨w3,R3,t3⟩,t⟩=>by
       have R1:Rep w1 lo p mf mt D.numbered:=R3.touch t3 (by simp)
       refine (answer_fault (V.touch t hF) R1 hfl.1 hfl.2).mono fun e w' ⟨h1,h2,h3⟩=>⟨h1,_,h2,rfl,.inr ⟨rfl,rfl⟩,?_,rfl⟩
       exact (t.mono hG).trans (h3.mono (G:=D.foot p mf mt) (by simp [DkC.foot])) (fun b hb=>.inl hb)
      exact h.mono fun e w' ⟨h1,h2⟩=>⟨_,h1,rfl,h2⟩
     ·by_cases k2:k = 2
      ·subst k2
       have e9:readX s i 2 D.pub = (none,10,D.pub.shut):=by unfold readX; rw [hr,if_pos rfl,if_neg (by decide),if_pos rfl]
       rw [e9]
       have hc:=fetch_no V R s i ho hn hf hs hi.1 hi.2 hT hS (j:=2) (Post:=fun w3 w4=>Rep w4 lo p mf mt D.numbered.off) fun w3 V3 R3=>(carry_fetch_cut V3 R3 a b).mono fun e w4 ⟨h1,h2,h3⟩=>⟨h1,h2,h3⟩
       have h:=Read_err2 (v:=10) (Post2:=fun w'=>DidIn3 w w' lo p mf mt D D.pub.shut) hc fun w1 ⟨⟨w3,_,R3⟩,t⟩=>by
        refine (anE (V.touch t hF).sents 2 (by omega) (by omega) (by omega)).mono fun e w' ⟨h1,h2⟩=>?_
        subst h2
        exact ⟨h1,_,R3,rfl,.inr ⟨rfl,rfl⟩,t.mono hG,rfl⟩
       exact h.mono fun e w' ⟨h1,h2⟩=>⟨_,h1,rfl,h2⟩
      ·have e9:readX s i k D.pub = readA s i D.pub:=by unfold readX; rw [if_neg k1,if_neg k2]; split <;> rfl
       rw [e9,hr]
       refine (Read_ok2 V R s i ho hn hf hs hi.1 hi.2 hT (by simp [k1]) (by simp [k2]) hS).mono fun e w1 ⟨g,e1,hg,hb,hR,ht⟩=>⟨sliceV g D.B,e1,?_,_,hR,rfl,.inr ⟨rfl,rfl⟩,ht.mono hG,rfl⟩
       rw [List.getElem?_eq_getElem (by omega)]
       refine ⟨g,rfl,hg,hb,?_⟩
       exact ((R.each e0 (fEm hf).1).at (i:=i.toNat) (by omega)).choose_spec.choose_spec.choose_spec.2.2.2.1
    ·exact err 8 16 (by omega) (by omega) (by omega) rfl (by decide) (by unfold readA; rw [if_pos hn,hfp,hf]; simp only [Option.map_some,hs,if_true]; rw [if_neg hi]) (fetch_out V R s i ho hn hf hs hi)
 ·exact err 3 11 (by omega) (by omega) (by omega) rfl (by decide) (by unfold readA; rw [if_neg hn]) (fetch_err s i 3 (find_bad V.sents R s ho (by simpa using hn)))
theorem Create_off (V:Env w lo E) (R:Rep w lo p mf mt D) (ho:D.on = false) (s:ByteArray) :
  Calls Tryz.prog 17 #[ptr p,.string s] w fun e w'=>e = .returned (.int .i64 10) ∧ Did3 w w' lo p mf mt D D.pub:=by
 have h:=Create_of (i:=some 2) (create_off V R s ho) (v:=10) fun w1 ht=>anE (V.touch ht (by simp)).sents 2 (by omega) (by omega) (by omega)
 exact h.mono fun e w1 ⟨h1,h2⟩=>⟨h1,Did3.same R h2⟩
theorem Seal_off (V:Env w lo E) (R:Rep w lo p mf mt D) (ho:D.on = false) (s:ByteArray) :
  Calls Tryz.prog 18 #[ptr p,.string s] w fun e w'=>e = .returned (.int .i64 10) ∧ Did3 w w' lo p mf mt D D.pub:=by
 have h:=Seal_of (i:=some 2) (seal_err s 2 (find_off V.sents R s ho)) (v:=10) fun w1 ht=>anE (V.touch ht (by simp)).sents 2 (by omega) (by omega) (by omega)
 exact h.mono fun e w1 ⟨h1,h2⟩=>⟨h1,Did3.same R h2⟩
theorem Delete_off (V:Env w lo E) (R:Rep w lo p mf mt D) (ho:D.on = false) (s:ByteArray) :
  Calls Tryz.prog 105 #[ptr p,.string s] w fun e w'=>e = .returned (.int .i64 10) ∧ Did3 w w' lo p mf mt D D.pub:=by
 have h:=Delete_of (i:=some 2) (drop_err s 2 fun o1 o2=>find_off ((V.alloc o1).alloc o2).sents ((R.alloc o1).alloc o2) s ho) (v:=10) fun w1 ht=>anE (V.touch ht (by simp)).sents 2 (by omega) (by omega) (by omega)
 exact h.mono fun e w1 ⟨h1,h2⟩=>⟨h1,Did3.same R h2⟩
theorem Append_off (V:Env w lo E) (R:Rep w lo p mf mt D) (ho:D.on = false) (s:ByteArray) (sa:Option Addr) (n c:Nat) :
  Calls Tryz.prog 192 #[ptr p,.string s,.slice sa n c] w fun e w'=>e = .returned (.int .i64 10) ∧ Did3 w w' lo p mf mt D D.pub:=by
 have h2:=Append_err2 (v:=10) (Post2:=fun w'=>Did3 w w' lo p mf mt D D.pub) (put_err s 2 (.slice sa n c) (fun o1 o2=>find_off ((V.alloc o1).alloc o2).sents ((R.alloc o1).alloc o2) s ho) rfl) fun w1 ht=>(anE (V.touch ht (by simp)).sents 2 (by omega) (by omega) (by omega)).mono fun e w2 ⟨e1,e2⟩=>⟨e1,by subst e2; exact Did3.same R ht⟩
 exact h2
theorem Read_off (V:Env w lo E) (R:Rep w lo p mf mt D) (ho:D.on = false) (s:ByteArray) (i:Int) :
  Calls Tryz.prog 253 #[ptr p,.string s,.int .i64 i] w fun e w'=>∃ v,e = .returned (.tuple #[v,.int .i64 10]) ∧ Told1 w' w.heap.size D.B none v ∧ DidIn3 w w' lo p mf mt D D.pub:=
 (Read_err V (j:=2) (by omega) (by omega) (by omega) (fetch_err s i 2 (find_off V.sents R s ho))).mono fun e w1 ⟨e1,ht⟩=>⟨.slice none 0 0,e1,rfl,D,R.touch ht (by simp),rfl,.inl ⟨rfl,rfl⟩,ht.mono (by simp),rfl⟩
theorem Length_off (V:Env w lo E) (R:Rep w lo p mf mt D) (ho:D.on = false) (s:ByteArray) :
  Calls Tryz.prog 107 #[ptr p,.string s] w fun e w'=>e = .returned (.tuple #[.int .i64 0,.bool false,.int .i64 10]) ∧ Tc [] w w':=
 Length_err V s 2 (by omega) (find_off V.sents R s ho)
end
section
variable {w w':World} {E:Nat → Addr} {lo p mf mt:Nat} {D:DkC}
set_option maxRecDepth 100000 in
set_option maxHeartbeats 400000 in
theorem checkSetup_ok {B:Int} {Bs:Int} {v:Value} {ga:Option Addr} {gn gc:Nat} (hv:v = .slice ga gn gc) (h1:64 ≤ B) (h2:B ≤ 65536) (h3:B % 32 = 0) (h4:0 ≤ Bs) (h5:Bs ≤ 1099511627776) (w:World) :
  Calls Tryz.prog 126 #[.agg #[.int .i64 B,.int .i64 Bs,v]] w fun e w'=>e = .returned .nilIface ∧ Below w.heap.size w w':=by
 subst hv
 have h3':(B.tmod 32 != 0) = false:=by rw [Int.tmod_eq_emod_of_nonneg (by omega),h3]; decide
 go_enter Tryz.func126,Tryz.ntmps126
 go_wp2
 go_ret
 exact ⟨rfl,(Below.refl _ w).alloc (Nat.le_refl _) _⟩
theorem empty_map (w:World) (b:Nat) (k:TypeId) (R:Value → Option (DataW Unit × List MemPlace)) (h:w.heap[b]? = some (.map #[] 0)):w.ownsMap Tryz.prog k R b 0 (.map []):=
 ⟨#[],0,h,⟨by simp,MapKept.stamped_empty 0,by simp⟩,Nat.le_refl _,rfl⟩
theorem Rep.lower (R:Rep w lo p mf mt D) {n:Nat} (h:n ≤ lo):Rep w n p mf mt D:=⟨R.row,R.files,R.troubles,R.each,R.apart,fun b hb=>Nat.le_trans h (R.base b hb),R.names⟩
theorem box_up3 {a b c:Value} {t:TypeId} {w1:World} (h:Below (w.alloc (.cells #[a,b,c] t)).heap.size (w.alloc (.cells #[a,b,c] t)) w1):w1.cell? ⟨w.heap.size,0,none⟩ = some a ∧ w1.cell? ⟨w.heap.size,1,none⟩ = some b ∧ w1.cell? ⟨w.heap.size,2,none⟩ = some c ∧ w.heap.size < w1.heap.size:=by
 have hr:w1.heap[w.heap.size]? = some (.cells #[a,b,c] t (0,0)):=(h.block _ (by simp)).trans (heap_alloc_new w _)
 exact ⟨cRw hr 0,cRw hr 1,cRw hr 2,ltB hr⟩
end
section
variable {w w':World} {E:Nat → Addr} {lo p mf mt:Nat} {D:DkC}
set_option maxHeartbeats 400000 in
theorem On_any (R:Rep w lo p mf mt D):Calls Tryz.prog 93 #[ptr p] w fun e w'=>e = .returned (.bool D.on) ∧ w' = w:=by
 have k2:=R.cell 2
 simp only [dRow] at k2
 go_enter Tryz.func93,Tryz.ntmps93
 go_wp2
 go_ret
 exact ⟨rfl,rfl⟩
end
set_option linter.unusedSimpArgs false
set_option maxRecDepth 100000
structure TrA where
 at_:Int
 kind:Int
 bytes:Int
def TrA.hits (t:TrA) (k:Int):Bool:=t.at_ == k && (t.kind == 1 || t.kind == 2)
def trFirst (l:List TrA) (n:Int):TrA:=(l.find? fun t=>t.hits n).getD ⟨0,0,0⟩
def TFrom (T:DataW Unit) (l:List TrA) (n:Int):Prop:=∀ m:Int,n ≤ m → TrI T m (trFirst l m).at_ (trFirst l m).kind (trFirst l m).bytes
theorem TFrom.del {T:DataW Unit} {l:List TrA} {n:Int} (h:TFrom T l n):TFrom (T.del (.int .i64 n)) l (n + 1):=fun m hm=>by
 have:=h m (by omega)
 unfold TrI at this ⊢
 rw [Maps.atKey_del_other (by simp; omega)]
 exact this
def total (l:List (List UInt8 × FlA)):Nat:=(l.map fun e=>e.2.blocks.length).sum
theorem set_absent {k:List UInt8} {f:FlA}:∀ {l:List (List UInt8 × FlA)},(∀ e ∈ l,e.1 ≠ k) → setA k f l = l
 | [],_=>rfl
 | a :: l,h=>by
  have h1:=h a (by simp)
  have h2:=set_absent (k:=k) (f:=f) (l:=l) (fun e he=>h e (by simp [he]))
  simp only [setA,List.map_cons] at h2 ⊢
  rw [if_neg h1,h2]
theorem drop_absent {k:List UInt8} {l:List (List UInt8 × FlA)} (h:∀ e ∈ l,e.1 ≠ k):dropA k l = l:=by
 unfold dropA
 rw [List.filter_eq_self]
 intro e he
 simp [h e he]
theorem total_set {k:List UInt8} {f f':FlA}:∀ {l:List (List UInt8 × FlA)},(l.Pairwise fun a b=>a.1 ≠ b.1) → findA l k = some f → total (setA k f' l) + f.blocks.length = total l + f'.blocks.length
 | [],_,h=>by simp [findA] at h
 | a :: l,hp,h=>by
  rw [List.pairwise_cons] at hp
  by_cases ha:a.1 = k
  ·have hf:f = a.2:=by simp [findA,ha] at h; exact h.symm
   have hs:=set_absent (k:=k) (f:=f') (l:=l) (fun e he e1=>hp.1 e he (by rw [ha,e1]))
   simp only [setA,List.map_cons] at hs ⊢
   rw [if_pos ha,hs]
   simp only [total,List.map_cons,List.sum_cons,hf]
   omega
  ·have hf:findA l k = some f:=by simpa [findA,ha] using h
   have:=total_set (f':=f') hp.2 hf
   simp only [setA,List.map_cons] at this ⊢
   rw [if_neg ha]
   simp only [total,List.map_cons,List.sum_cons] at this ⊢
   omega
theorem total_drop {k:List UInt8} {f:FlA}:∀ {l:List (List UInt8 × FlA)},(l.Pairwise fun a b=>a.1 ≠ b.1) → findA l k = some f → total (dropA k l) + f.blocks.length = total l
 | [],_,h=>by simp [findA] at h
 | a :: l,hp,h=>by
  rw [List.pairwise_cons] at hp
  by_cases ha:a.1 = k
  ·have hf:f = a.2:=by simp [findA,ha] at h; exact h.symm
   have hs:=drop_absent (k:=k) (l:=l) (fun e he e1=>hp.1 e he (by rw [ha,e1]))
   simp only [dropA,List.filter_cons,ha] at hs ⊢
   simp only [decide_true,Bool.not_true,Bool.false_eq_true,if_false]
   rw [hs]
   simp only [total,List.map_cons,List.sum_cons,hf]
   omega
  ·have hf:findA l k = some f:=by simpa [findA,ha] using h
   have:=total_drop hp.2 hf
   simp only [dropA,List.filter_cons,ha,decide_false,Bool.not_false,if_true] at this ⊢
   simp only [total,List.map_cons,List.sum_cons] at this ⊢
   omega
theorem perm_ins (e:List UInt8 × FlA):∀ l:List (List UInt8 × FlA),(insA e l).Perm (e :: l)
 | []=>List.Perm.refl _
 | a :: l=>by
  unfold insA
  split
  ·exact List.Perm.refl _
  ·exact ((perm_ins e l).cons a).trans (List.Perm.swap e a l)
theorem total_perm {l l':List (List UInt8 × FlA)} (h:l.Perm l'):total l = total l':=(h.map _).sum_nat
theorem le_total {l:List (List UInt8 × FlA)}:∀ e ∈ l,e.2.blocks.length ≤ total l:=by
 induction l with
 | nil=>simp
 | cons a l ih =>
  intro e he
  simp only [List.mem_cons] at he
  rcases he with rfl | he
  ·simp only [total,List.map_cons,List.sum_cons]
   omega
  ·have:=ih e he
   simp only [total,List.map_cons,List.sum_cons] at this ⊢
   omega
theorem set_len (k:List UInt8) (f:FlA) (l:List (List UInt8 × FlA)):(setA k f l).length = l.length:=by simp [setA]
def findI (names:List (List UInt8)) (key:List UInt8):Nat:=(names.takeWhile fun a=>bytesBefore a key).length
theorem nm_mk (s:ByteArray):(⟨(nm s).toArray⟩:ByteArray) = s:=by cases s; simp [nm]
def Rise (l:List (List UInt8 × FlA)):Prop:=l.Pairwise fun a b=>bytesBefore a.1 b.1 = true
theorem before_not {a b:List UInt8} (h:bytesBefore a b = true):bytesBefore b a = false:=by
 cases hb:bytesBefore b a with
 | false=>rfl
 | true =>
  have:=WideShapes.bytes_trans _ _ _ h hb
  rw [WideAt.bytes_irrefl] at this
  cases this
theorem before_ne {a b:List UInt8} (h:bytesBefore a b = true):a ≠ b:=fun e=>by
 subst e
 rw [WideAt.bytes_irrefl] at h
 cases h
theorem Rise.part {key:List UInt8}:∀ {l:List (List UInt8 × FlA)},Rise l → ∃ A C,l = A ++ C ∧ A.length = findI (l.map Prod.fst) key ∧ (∀ a ∈ A,bytesBefore a.1 key = true) ∧ ∀ c ∈ C,bytesBefore c.1 key = false
 | [],_=>⟨[],[],rfl,rfl,by simp,by simp⟩
 | x :: r,h=>by
  obtain ⟨hx,hr⟩:=List.pairwise_cons.1 h
  cases hb:bytesBefore x.1 key with
  | false =>
   refine ⟨[],x :: r,rfl,?_,by simp,fun c hc=>?_⟩
   ·simp [findI,hb]
   ·rcases List.mem_cons.1 hc with rfl | hc
    ·exact hb
    ·cases hq:bytesBefore c.1 key with
     | false=>rfl
     | true =>
      have:=WideShapes.bytes_trans _ _ _ (hx c hc) hq
      rw [hb] at this
      cases this
  | true =>
   obtain ⟨A,C,e,hl,hA,hC⟩:=Rise.part (key:=key) hr
   refine ⟨x :: A,C,by rw [e]; rfl,?_,fun a ha=>?_,hC⟩
   ·have:findI ((x :: r).map Prod.fst) key = findI (r.map Prod.fst) key + 1:=by simp [findI,hb]
    rw [this,List.length_cons,hl]
   ·rcases List.mem_cons.1 ha with rfl | ha
    ·exact hb
    ·exact hA a ha
theorem find_none_of {l:List (List UInt8 × FlA)} {key:List UInt8} (h:∀ x ∈ l,x.1 ≠ key):findA l key = none:=by
 unfold findA
 rw [List.find?_eq_none.2 (fun x hx=>by simpa using h x hx)]
 rfl
theorem ins_part {key:List UInt8} {f:FlA} {C:List (List UInt8 × FlA)} (hC:∀ c ∈ C,bytesBefore key c.1 = true):∀ {A:List (List UInt8 × FlA)},(∀ a ∈ A,bytesBefore a.1 key = true) → insA (key,f) (A ++ C) = A ++ (key,f) :: C
 | [],_=>by
  cases C with
  | nil=>rfl
  | cons c r =>
   have:(Lit.string key).before (.string c.1) = true:=hC c (by simp)
   simp only [List.nil_append,insA]
   rw [this]
   rfl
 | a :: A,h=>by
  have:(Lit.string key).before (.string a.1) = false:=before_not (h a (by simp))
  simp only [List.cons_append,insA]
  rw [this]
  simp only [Bool.false_eq_true,if_false]
  rw [ins_part hC (fun x hx=>h x (List.mem_cons_of_mem _ hx))]
def createB (s:ByteArray) (t:TrA) (A:PubA):Int × PubA:=if A.on then befX t.kind t.bytes A (createA s A) { (createA s A).2 with on:=false } else (10,A)
def sealB (s:ByteArray) (t:TrA) (A:PubA):Int × PubA:=if A.on then befX t.kind t.bytes A (sealA s A) { (sealA s A).2 with on:=false } else (10,A)
def deleteB (s:ByteArray) (t:TrA) (A:PubA):Int × PubA:=if A.on then befX (if t.kind = 1 then 0 else t.kind) t.bytes A (deleteA s A) { (deleteA s A).2 with on:=false } else (10,A)
def appendB (s:ByteArray) (bl:List UInt8) (t:TrA) (A:PubA):Int × PubA:=if A.on then befX t.kind t.bytes A (appendA s bl A) (cutX s bl t.bytes A) else (10,A)
def readB (s:ByteArray) (i:Int) (t:TrA) (A:PubA):Option (List UInt8) × Int × PubA:=if A.on then readX s i t.kind A else (none,10,A)
def lnB (s:ByteArray) (A:PubA):Int × Bool × Int:=if A.on then lengthA s A else (0,false,10)
theorem Rise.ne {l:List (List UInt8 × FlA)} (h:Rise l):l.Pairwise fun a b=>a.1 ≠ b.1:=h.imp fun hb=>before_ne hb
theorem rise_set {l:List (List UInt8 × FlA)} (h:Rise l) (k:List UInt8) (f:FlA):Rise (setA k f l):=by
 unfold Rise setA
 rw [List.pairwise_map]
 refine h.imp fun {a b} hb=>?_
 have e:∀ x:List UInt8 × FlA,(if x.1 = k then (x.1,f) else x).1 = x.1:=fun x=>by split <;> rfl
 rw [e,e]
 exact hb
theorem rise_drop {l:List (List UInt8 × FlA)} (h:Rise l) (k:List UInt8):Rise (dropA k l):=h.filter _
theorem rise_ins {l:List (List UInt8 × FlA)} (h:Rise l) {k:List UInt8} (hn:findA l k = none) (f:FlA):Rise (insA (k,f) l):=by
 have hne:∀ x ∈ l,x.1 ≠ k:=fun x hx e=>by
  unfold findA at hn
  rw [Option.map_eq_none_iff,List.find?_eq_none] at hn
  exact hn x hx (by simpa using e)
 obtain ⟨A,C,e,_,hA,hC⟩:=h.part (key:=k)
 have hCk:∀ c ∈ C,bytesBefore k c.1 = true:=fun c hc=>by
  rcases WideAt.bytes_total _ _ (hne c (by rw [e]; simp [hc])) with h1 | h1
  ·rw [hC c hc] at h1
   cases h1
  ·exact h1
 rw [e,ins_part hCk hA]
 unfold Rise at h ⊢
 rw [e] at h
 obtain ⟨h1,h2,h3⟩:=List.pairwise_append.1 h
 refine List.pairwise_append.2 ⟨h1,List.pairwise_cons.2 ⟨hCk,h2⟩,fun a ha b hb=>?_⟩
 rcases List.mem_cons.1 hb with rfl | hb
 ·exact hA a ha
 ·exact h3 a ha b hb
structure IB (t:Nat) (A:PubA):Prop where
 size:64 ≤ A.B ∧ A.B ≤ 65536
 calls:0 ≤ A.c.calls ∧ A.c.calls ≤ t
 reads:0 ≤ A.c.reads ∧ A.c.reads ≤ t
 appends:0 ≤ A.c.appends ∧ A.c.appends ≤ t
 faults:0 ≤ A.c.faults ∧ A.c.faults ≤ t
 full:0 ≤ A.c.full ∧ A.c.full ≤ t
 used:A.c.used = (total A.files:Int)
 most:A.c.used ≤ A.c.most
 total:total A.files ≤ t
 few:A.files.length ≤ t
 rise:Rise A.files
section
variable {t:Nat} {A:PubA}
theorem IB.small (h:IB t A) (ht:t ≤ 1099511627776):Small A:=by
 have h1:=h.calls
 have h2:=h.reads
 have h3:=h.appends
 have h4:=h.full
 have h5:=h.used
 have h6:=h.total
 have h7:=h.few
 exact ⟨by omega,by omega,by omega,by omega,by omega,by omega,fun e he=>by have:=le_total e he; omega,h.size⟩
theorem IB.more (h:IB t A):IB (t + 1) A:=by
 have h1:=h.calls
 have h2:=h.reads
 have h3:=h.appends
 have h4:=h.full
 have h5:=h.faults
 have h6:=h.total
 have h7:=h.few
 exact ⟨h.size,by omega,by omega,by omega,by omega,by omega,h.used,h.most,by omega,by omega,h.rise⟩
theorem IB.flag (h:IB t A) (b:Bool):IB t { A with on:=b }:=⟨h.size,h.calls,h.reads,h.appends,h.faults,h.full,h.used,h.most,h.total,h.few,h.rise⟩
theorem IB.faulted (h:IB t A):IB (t + 1) A.faulted:=by
 have h1:=h.calls
 have h5:=h.faults
 have h:=h.more
 exact ⟨h.size,by show 0 ≤ A.c.calls + 1 ∧ A.c.calls + 1 ≤ _; omega,h.reads,h.appends,by show 0 ≤ A.c.faults + 1 ∧ A.c.faults + 1 ≤ _; omega,h.full,h.used,h.most,h.total,h.few,h.rise⟩
theorem IB.called (h:IB t A):IB (t + 1) { A with c:={ A.c with calls:=A.c.calls + 1 } }:=by
 have h1:=h.calls
 have h:=h.more
 exact ⟨h.size,by show 0 ≤ A.c.calls + 1 ∧ A.c.calls + 1 ≤ _; omega,h.reads,h.appends,h.faults,h.full,h.used,h.most,h.total,h.few,h.rise⟩
theorem IB.shut (h:IB t A):IB (t + 1) A.shut:=h.called.flag false
theorem IB.create (h:IB t A) (s:ByteArray):IB (t + 1) (createA s A).2:=by
 unfold createA
 split
 ·split
  ·exact h.more
  ·next hn =>
   have hn':findA A.files (nm s) = none:=by simpa using hn
   have hp:=perm_ins (nm s,(⟨false,[]⟩:FlA)) A.files
   have ht:=total_perm hp
   have hl:=hp.length_eq
   have e1:YthehcjjckabljaaGreatDoor.total ((nm s,(⟨false,[]⟩:FlA)) :: A.files) = YthehcjjckabljaaGreatDoor.total A.files:=by simp [YthehcjjckabljaaGreatDoor.total]
   have h1:=h.calls
   have h6:=h.total
   have h7:=h.few
   have hm:=h.more
   refine ⟨hm.size,by show 0 ≤ A.c.calls + 1 ∧ A.c.calls + 1 ≤ _; omega,hm.reads,hm.appends,hm.faults,hm.full,?_,hm.most,?_,?_,rise_ins h.rise hn' _⟩
   ·show A.c.used = _
    rw [ht,e1]
    exact h.used
   ·show YthehcjjckabljaaGreatDoor.total (insA _ A.files) ≤ _
    rw [ht,e1]
    omega
   ·show (insA _ A.files).length ≤ _
    rw [hl]
    simp
    omega
 ·exact h.more
theorem IB.setF (h:IB t A) {k:List UInt8} {f f':FlA} (hf:findA A.files k = some f) {c:Cnt} {d:Nat} (hd:f'.blocks.length = f.blocks.length + d) (hd1:d ≤ 1) (hu:c.used = A.c.used + d) (hm:c.used ≤ c.most)
  (h1:0 ≤ c.calls ∧ c.calls ≤ (t:Int) + 1) (h2:0 ≤ c.reads ∧ c.reads ≤ (t:Int) + 1) (h3:0 ≤ c.appends ∧ c.appends ≤ (t:Int) + 1) (h4:0 ≤ c.faults ∧ c.faults ≤ (t:Int) + 1) (h5:0 ≤ c.full ∧ c.full ≤ (t:Int) + 1) (b:Bool):IB (t + 1) ⟨A.B,A.Bs,b,setA k f' A.files,c⟩:=by
 have ht:=total_set (f':=f') h.rise.ne hf
 have h6:=h.total
 have h7:=h.few
 have h8:=h.used
 refine ⟨h.size,by show 0 ≤ c.calls ∧ c.calls ≤ ((t + 1:Nat):Int); omega,by show 0 ≤ c.reads ∧ c.reads ≤ ((t + 1:Nat):Int); omega,by show 0 ≤ c.appends ∧ c.appends ≤ ((t + 1:Nat):Int); omega,by show 0 ≤ c.faults ∧ c.faults ≤ ((t + 1:Nat):Int); omega,by show 0 ≤ c.full ∧ c.full ≤ ((t + 1:Nat):Int); omega,?_,hm,?_,?_,rise_set h.rise _ _⟩
 ·show c.used = _
  rw [hu]
  show A.c.used + d = (YthehcjjckabljaaGreatDoor.total (setA k f' A.files):Int)
  omega
 ·show YthehcjjckabljaaGreatDoor.total (setA k f' A.files) ≤ _
  omega
 ·show (setA k f' A.files).length ≤ _
  rw [set_len]
  omega
theorem IB.seal (h:IB t A) (s:ByteArray):IB (t + 1) (sealA s A).2:=by
 unfold sealA
 have h1:=h.calls
 have h2:=h.reads
 have h3:=h.appends
 have h4:=h.faults
 have h5:=h.full
 split
 ·split
  ·exact h.more
  ·next f hf =>
   split
   ·exact h.more
   ·exact h.setF hf (f':={ f with shut:=true }) (c:={ A.c with calls:=A.c.calls + 1 }) (d:=0) rfl (by omega) (by simp) h.most (by show 0 ≤ A.c.calls + 1 ∧ A.c.calls + 1 ≤ (t:Int) + 1; omega) (by show 0 ≤ A.c.reads ∧ A.c.reads ≤ (t:Int) + 1; omega) (by show 0 ≤ A.c.appends ∧ A.c.appends ≤ (t:Int) + 1; omega) (by show 0 ≤ A.c.faults ∧ A.c.faults ≤ (t:Int) + 1; omega) (by show 0 ≤ A.c.full ∧ A.c.full ≤ (t:Int) + 1; omega) _
 ·exact h.more
theorem IB.append (h:IB t A) (s:ByteArray) (bl:List UInt8):IB (t + 1) (appendA s bl A).2:=by
 unfold appendA
 have h1:=h.calls
 have h2:=h.reads
 have h3:=h.appends
 have h4:=h.faults
 have h5:=h.full
 split
 ·split
  ·exact h.more
  ·next f hf =>
   split
   ·exact h.more
   ·split
    ·exact h.more
    ·split
     ·have hm:=h.more
      exact ⟨hm.size,hm.calls,hm.reads,hm.appends,hm.faults,by show 0 ≤ A.c.full + 1 ∧ A.c.full + 1 ≤ _; omega,hm.used,hm.most,hm.total,hm.few,hm.rise⟩
     ·exact h.setF hf (c:={ A.c with calls:=A.c.calls + 1,appends:=A.c.appends + 1,used:=A.c.used + 1,most:=max A.c.most (A.c.used + 1) }) (d:=1) (by simp) (by omega) (by simp) (by show A.c.used + 1 ≤ max A.c.most (A.c.used + 1); omega) (by show 0 ≤ A.c.calls + 1 ∧ A.c.calls + 1 ≤ (t:Int) + 1; omega) (by show 0 ≤ A.c.reads ∧ A.c.reads ≤ (t:Int) + 1; omega) (by show 0 ≤ A.c.appends + 1 ∧ A.c.appends + 1 ≤ (t:Int) + 1; omega) (by show 0 ≤ A.c.faults ∧ A.c.faults ≤ (t:Int) + 1; omega) (by show 0 ≤ A.c.full ∧ A.c.full ≤ (t:Int) + 1; omega) _
 ·exact h.more
theorem IB.cutX (h:IB t A) (s:ByteArray) (bl:List UInt8) (y:Int):IB (t + 1) (cutX s bl y A):=by
 unfold YthehcjjckabljaaGreatDoor.cutX
 have h1:=h.calls
 have h2:=h.reads
 have h3:=h.appends
 have h4:=h.faults
 have h5:=h.full
 split
 ·next f hf=>exact h.setF hf (c:={ A.c with calls:=A.c.calls + 1,used:=A.c.used + 1,most:=max A.c.most (A.c.used + 1) }) (d:=1) (by simp) (by omega) (by simp) (by show A.c.used + 1 ≤ max A.c.most (A.c.used + 1); omega) (by show 0 ≤ A.c.calls + 1 ∧ A.c.calls + 1 ≤ (t:Int) + 1; omega) (by show 0 ≤ A.c.reads ∧ A.c.reads ≤ (t:Int) + 1; omega) (by show 0 ≤ A.c.appends ∧ A.c.appends ≤ (t:Int) + 1; omega) (by show 0 ≤ A.c.faults ∧ A.c.faults ≤ (t:Int) + 1; omega) (by show 0 ≤ A.c.full ∧ A.c.full ≤ (t:Int) + 1; omega) _
 ·exact h.more
theorem IB.delete (h:IB t A) (s:ByteArray):IB (t + 1) (deleteA s A).2:=by
 unfold deleteA
 have h1:=h.calls
 have h6:=h.total
 have h7:=h.few
 have h8:=h.used
 have h9:=h.most
 split
 ·split
  ·exact h.more
  ·next f hf =>
   have ht:=total_drop h.rise.ne hf
   have hm:=h.more
   refine ⟨hm.size,by show 0 ≤ A.c.calls + 1 ∧ A.c.calls + 1 ≤ _; omega,hm.reads,hm.appends,hm.faults,hm.full,?_,?_,?_,?_,rise_drop h.rise _⟩
   ·show A.c.used - f.blocks.length = (YthehcjjckabljaaGreatDoor.total (dropA (nm s) A.files):Int)
    omega
   ·show A.c.used - f.blocks.length ≤ max A.c.most (A.c.used - f.blocks.length)
    omega
   ·show YthehcjjckabljaaGreatDoor.total (dropA (nm s) A.files) ≤ _
    omega
   ·show (dropA (nm s) A.files).length ≤ _
    have:(dropA (nm s) A.files).length ≤ A.files.length:=List.length_filter_le _ _
    omega
 ·exact h.more
theorem IB.read (h:IB t A) (s:ByteArray) (i k:Int):IB (t + 1) (readX s i k A).2.2:=by
 have h1:=h.calls
 have h2:=h.reads
 have hr:IB (t + 1) (readA s i A).2.2:=by
  unfold readA
  have hm:=h.more
  split
  ·split
   ·exact hm
   ·split
    ·split
     ·exact ⟨hm.size,by show 0 ≤ A.c.calls + 1 ∧ A.c.calls + 1 ≤ _; omega,by show 0 ≤ A.c.reads + 1 ∧ A.c.reads + 1 ≤ _; omega,hm.appends,hm.faults,hm.full,hm.used,hm.most,hm.total,hm.few,hm.rise⟩
     ·exact hm
    ·exact hm
  ·exact hm
 unfold readX
 split
 ·split
  ·exact h.faulted
  ·split
   ·exact h.shut
   ·exact hr
 ·exact hr
theorem IB.bef (h:IB t A) {k y:Int} {r:Int × PubA} {part:PubA} (hr:IB (t + 1) r.2) (hp:IB (t + 1) part):IB (t + 1) (befX k y A r part).2:=by
 unfold befX
 split
 ·split
  ·exact h.faulted
  ·split
   ·show IB (t + 1) (if 0 < y then part else A.shut)
    split
    ·exact hp
    ·exact h.shut
   ·exact hr
 ·exact hr
end
section
variable {w w':World} {E:Nat → Addr} {lo p mf mt:Nat} {D:DkC}
structure Rdy (w:World) (E:Nat → Addr) (lo p mf mt:Nat) (D:DkC) (t:TrA):Prop where
 env:Env w lo E
 rep:Rep w lo p mf mt D
 small:Small D.pub
 faults:0 ≤ D.c.faults ∧ D.c.faults ≤ 1099511627776
 more:D.c.calls + 1 ≤ 1099511627776
 tr:TrI D.T D.c.calls t.at_ t.kind t.bytes
variable {t:TrA}
theorem Create_b (h:Rdy w E lo p mf mt D t) (s:ByteArray):Calls Tryz.prog 17 #[ptr p,.string s] w fun e w'=>e = .returned (.int .i64 (createB s t D.pub).1) ∧ Did3 w w' lo p mf mt D (createB s t D.pub).2:=by
 unfold createB
 cases ho:D.on with
 | true =>
  have hon:D.pub.on = true:=ho
  rw [if_pos hon]
  refine (Create_x h.env h.rep ho h.small h.faults h.tr s).mono fun e w' ⟨v,A',h1,h2,h3⟩=>?_
  have h4:befX t.kind t.bytes D.pub (createA s D.pub) { (createA s D.pub).2 with on:=false } = (v,A'):=h3
  rw [h4]
  exact ⟨h1,h2⟩
 | false =>
  have hon:¬ D.pub.on = true:=by show ¬ D.on = true; rw [ho]; simp
  rw [if_neg hon]
  exact Create_off h.env h.rep ho s
theorem Seal_b (h:Rdy w E lo p mf mt D t) (s:ByteArray):Calls Tryz.prog 18 #[ptr p,.string s] w fun e w'=>e = .returned (.int .i64 (sealB s t D.pub).1) ∧ Did3 w w' lo p mf mt D (sealB s t D.pub).2:=by
 unfold sealB
 cases ho:D.on with
 | true =>
  have hon:D.pub.on = true:=ho
  rw [if_pos hon]
  refine (Seal_x h.env h.rep ho h.small h.faults h.tr s).mono fun e w' ⟨v,A',h1,h2,h3⟩=>?_
  have h4:befX t.kind t.bytes D.pub (sealA s D.pub) { (sealA s D.pub).2 with on:=false } = (v,A'):=h3
  rw [h4]
  exact ⟨h1,h2⟩
 | false =>
  have hon:¬ D.pub.on = true:=by show ¬ D.on = true; rw [ho]; simp
  rw [if_neg hon]
  exact Seal_off h.env h.rep ho s
theorem Delete_b (h:Rdy w E lo p mf mt D t) (s:ByteArray):Calls Tryz.prog 105 #[ptr p,.string s] w fun e w'=>e = .returned (.int .i64 (deleteB s t D.pub).1) ∧ Did3 w w' lo p mf mt D (deleteB s t D.pub).2:=by
 unfold deleteB
 cases ho:D.on with
 | true =>
  have hon:D.pub.on = true:=ho
  rw [if_pos hon]
  refine (Delete_x h.env h.rep ho h.small h.more h.tr s).mono fun e w' ⟨v,A',h1,h2,h3⟩=>?_
  have h4:befX (if t.kind = 1 then 0 else t.kind) t.bytes D.pub (deleteA s D.pub) { (deleteA s D.pub).2 with on:=false } = (v,A'):=h3
  rw [h4]
  exact ⟨h1,h2⟩
 | false =>
  have hon:¬ D.pub.on = true:=by show ¬ D.on = true; rw [ho]; simp
  rw [if_neg hon]
  exact Delete_off h.env h.rep ho s
theorem Append_b (h:Rdy w E lo p mf mt D t) (s:ByteArray) {sa:Option Addr} {n c:Nat} {bl:List UInt8} (hh:Hand w p mf mt D sa n c bl):Calls Tryz.prog 192 #[ptr p,.string s,.slice sa n c] w fun e w'=>e = .returned (.int .i64 (appendB s bl t D.pub).1) ∧ Did3 w w' lo p mf mt D (appendB s bl t D.pub).2:=by
 unfold appendB
 cases ho:D.on with
 | true =>
  have hon:D.pub.on = true:=ho
  rw [if_pos hon]
  refine (Append_x h.env h.rep ho h.small h.faults h.more h.tr s hh).mono fun e w' ⟨v,A',h1,h2,h3⟩=>?_
  have h4:befX t.kind t.bytes D.pub (appendA s bl D.pub) (cutX s bl t.bytes D.pub) = (v,A'):=h3
  rw [h4]
  exact ⟨h1,h2⟩
 | false =>
  have hon:¬ D.pub.on = true:=by show ¬ D.on = true; rw [ho]; simp
  rw [if_neg hon]
  exact Append_off h.env h.rep ho s sa n c
theorem Read_b (h:Rdy w E lo p mf mt D t) (s:ByteArray) (i:Int):Calls Tryz.prog 253 #[ptr p,.string s,.int .i64 i] w fun e w'=>∃ v,e = .returned (.tuple #[v,.int .i64 (readB s i t D.pub).2.1]) ∧ Told1 w' w.heap.size D.B (readB s i t D.pub).1 v ∧ DidIn3 w w' lo p mf mt D (readB s i t D.pub).2.2:=by
 unfold readB
 cases ho:D.on with
 | true =>
  have hon:D.pub.on = true:=ho
  rw [if_pos hon]
  exact Read_x h.env h.rep ho h.small h.faults h.tr s i
 | false =>
  have hon:¬ D.pub.on = true:=by show ¬ D.on = true; rw [ho]; simp
  rw [if_neg hon]
  exact Read_off h.env h.rep ho s i
theorem Length_b (h:Rdy w E lo p mf mt D t) (s:ByteArray):Calls Tryz.prog 107 #[ptr p,.string s] w fun e w'=>e = .returned (.tuple #[.int .i64 (lnB s D.pub).1,.bool (lnB s D.pub).2.1,.int .i64 (lnB s D.pub).2.2]) ∧ Tc [] w w':=by
 unfold lnB
 cases ho:D.on with
 | true =>
  have hon:D.pub.on = true:=ho
  rw [if_pos hon]
  exact Length_any h.env h.rep ho s
 | false =>
  have hon:¬ D.pub.on = true:=by show ¬ D.on = true; rw [ho]; simp
  rw [if_neg hon]
  exact Length_off h.env h.rep ho s
set_option maxHeartbeats 400000 in
theorem Block_any (R:Rep w lo p mf mt D):Calls Tryz.prog 82 #[ptr p] w fun e w'=>e = .returned (.int .i64 (D.B:Int)) ∧ w' = w:=by
 have k0:=R.cell 0
 simp only [dRow] at k0
 go_enter Tryz.func82,Tryz.ntmps82
 go_wp2
 go_ret
 exact ⟨rfl,rfl⟩
end
end Go.Proofs.YthehcjjckabljaaGreatDoor
namespace Go.Proofs.YthehcjjckabljaaGreatDoor.Pu
set_option maxRecDepth 100000
abbrev muLink:Go.Conc.Locks.MuLink:={ lock:=55,unlock:=56,ilock:=112,iunlock:=113,lockSlow:=167,unlockSlow:=170,disable:=163,enable:=165,acquire:=166,relMerge:=168,cas32:=164,add32:=169,tMutex:=150,tIMutex:=148,tPMutex:=103,tPIMutex:=243,tPI32:=245,tUP:=247,tNoCopy:=145,tU32:=146 }
theorem muLib:Go.Conc.Locks.MuLib Tryz.prog muLink:=
 ⟨Tryz.func55,Tryz.func56,Tryz.func112,Tryz.func113,Tryz.func163,Tryz.func165,Tryz.func166,Tryz.func168,Tryz.func164,Tryz.func169,Tryz.underlying148,Tryz.runUnderlying148,Tryz.sizeOf148,Tryz.isAgg148,Tryz.zeroValue148,Tryz.underlying150,Tryz.runUnderlying150,Tryz.sizeOf150,Tryz.isAgg150,Tryz.zeroValue150,Tryz.underlying103,Tryz.runUnderlying103,Tryz.sizeOf103,Tryz.isAgg103,Tryz.zeroValue103,Tryz.underlying243,Tryz.runUnderlying243,Tryz.sizeOf243,Tryz.isAgg243,Tryz.zeroValue243,Tryz.underlying245,Tryz.runUnderlying245,Tryz.sizeOf245,Tryz.isAgg245,Tryz.zeroValue245,Tryz.underlying247,Tryz.runUnderlying247,Tryz.sizeOf247,Tryz.isAgg247,Tryz.zeroValue247,Tryz.underlying145,Tryz.runUnderlying145,Tryz.sizeOf145,Tryz.isAgg145,Tryz.zeroValue145,Tryz.underlying21,Tryz.runUnderlying21,Tryz.sizeOf21,Tryz.isAgg21,Tryz.zeroValue21,(by kernel_rfl)⟩
open Go.RowKit Go.MuLone
section
variable {F G:List Nat} {a w w':World}
end
structure St where
 limit:Int
 lb:Nat
 whole:Value
 hand:Int
 lent:Int
 parts:Int
 closed:Bool
 peak:Int
abbrev St.row (s:St):Array Value:=#[.int .i64 s.limit,ptr s.lb,s.whole,.int .i64 s.hand,.int .i64 s.lent,.int .i64 s.parts,.bool s.closed,.int .i64 s.peak]
structure St.Good (s:St):Prop where
 hand:0 ≤ s.hand
 lent:0 ≤ s.lent
 out:s.hand + s.lent ≤ s.limit
 limit:s.limit ≤ 9223372036854775807
 parts:0 ≤ s.parts
 partsLe:s.parts ≤ 4611686018427387904
 peak:s.hand + s.lent ≤ s.peak
 peakLe:s.peak ≤ s.limit
abbrev PurseAt (w:World) (b:Nat) (s:St):Prop:=w.heap[b]? = some (.cells s.row 110 (0,0))
abbrev LockAt (w:World) (lb:Nat) (k:Int):Prop:=w.heap[lb]? = some (.cells #[.int .i32 k,.int .u32 0] 150 (0,0))
def moveE (s:St) (n:Int):Int:=if s.closed then 6 else if n < 0 then 1 else 0
def leaveE (s:St) (n:Int):Int:=if s.closed then 6 else if n < 0 then 1 else if n > s.limit - (s.hand + s.lent) then 2 else 0
def giveE (s:St) (n:Int):Int:=if s.closed then 6 else if n < 0 then 1 else if n > s.hand then 20 else 0
section
variable {w:World} {b:Nat} {s:St}
set_option maxRecDepth 100000 in
set_option maxHeartbeats 400000 in
theorem mayMove_any (h:PurseAt w b s) (n:Int):Calls Tryz.prog 117 #[ptr b,.int .i64 n] w fun e w'=>e = .returned (.int .i64 (moveE s n)) ∧ w' = w:=by
 have c:=fun i=>cRw h i
 clear h
 cases hc:s.closed with
 | true =>
  have HB:=hid (show moveE s n = 6 by simp [moveE,hc])
  go_enter Tryz.func117,Tryz.ntmps117
  go_wp2
  go_ret
  rw [HB.out]
  exact ⟨rfl,rfl⟩
 | false =>
  by_cases hn:n < 0
  ·have HB:=hid (show moveE s n = 1 by simp [moveE,hc,hn])
   go_enter Tryz.func117,Tryz.ntmps117
   go_wp2
   go_ret
   rw [HB.out]
   exact ⟨rfl,rfl⟩
  ·have HB:=hid (show moveE s n = 0 by simp [moveE,hc,hn])
   go_enter Tryz.func117,Tryz.ntmps117
   go_wp2
   go_ret
   rw [HB.out]
   exact ⟨rfl,rfl⟩
end
section
variable {w:World} {b:Nat} {s:St}
set_option maxRecDepth 100000 in
set_option maxHeartbeats 400000 in
theorem out_any' (h:PurseAt w b s) (g1:0 ≤ s.hand) (g2:0 ≤ s.lent) (g3:s.hand + s.lent ≤ s.limit) (g4:s.limit ≤ 9223372036854775807):Calls Tryz.prog 57 #[ptr b] w fun e w'=>e = .returned (.int .i64 (s.hand + s.lent)) ∧ ∃ n,w' = w.drewN n:=by
 have c:=fun i=>cRw h i
 have hw:IntKind.i64.wrap (s.hand + s.lent) = s.hand + s.lent:=(IntWalk.i64_left _).trans <| IntWalk.wrap64_in _ ⟨by omega,by omega⟩
 clear h
 go_enter Tryz.func57,Tryz.ntmps57
 go_wp2
 go_quiet (fail)
 all_goals go_wp2
 go_ret
 exact ⟨by simp,_,rfl⟩
theorem out_any (h:PurseAt w b s) (g:s.Good):Calls Tryz.prog 57 #[ptr b] w fun e w'=>e = .returned (.int .i64 (s.hand + s.lent)) ∧ ∃ n,w' = w.drewN n:=
 out_any' h g.hand g.lent g.out g.limit
set_option maxRecDepth 100000 in
set_option maxHeartbeats 400000 in
theorem free_any (h:PurseAt w b s) (g:s.Good):Calls Tryz.prog 118 #[ptr b] w fun e w'=>e = .returned (.int .i64 (s.limit - (s.hand + s.lent))) ∧ ∃ n,w' = w.drewN n:=by
 have c:=fun i=>cRw h i
 have hw:IntKind.i64.wrap (s.limit - (s.hand + s.lent)) = s.limit - (s.hand + s.lent):=(IntWalk.i64_left _).trans <| IntWalk.wrap64_in _ ⟨by have:=g.out; omega,by have:=g.hand; have:=g.lent; have:=g.limit; omega⟩
 have HO:=hid (fun n=>out_any (w:=w.drewN n) (b:=b) (s:=s) h g)
 clear h g
 go_enter Tryz.func118,Tryz.ntmps118
 go_wp2
 go_quiet (first | (go_at_call 57; exact Calls.quiet_of (HO.out _)))
 all_goals go_wp2
 go_ret
 exact ⟨by simp,_,rfl⟩
set_option maxRecDepth 100000 in
set_option maxHeartbeats 400000 in
theorem load_any {a:Addr} {x:Int} (c:w.cell? a = some (.int .i64 x)):Calls Tryz.prog 120 #[.pointer (some a)] w fun e w'=>e = .returned (.int .i64 x) ∧ w' = w:=by
 have hl:=run_call_load (P:=Tryz.prog) Tryz.func172 (by kernel_rfl) (by kernel_rfl) (by kernel_rfl) .i64 (by kernel_rfl) c
 go_enter Tryz.func120,Tryz.ntmps120
 go_wp2
 go_ret
 exact ⟨rfl,rfl⟩
set_option maxRecDepth 100000 in
set_option maxHeartbeats 400000 in
theorem store_any {a:Addr} {u:Value} (y:Int) (c:w.cell? a = some u) (z:w.frozen? a = false):Calls Tryz.prog 119 #[.pointer (some a),.int .i64 y] w fun e w'=>e = .returned (.tuple #[]) ∧ w' = w.setCell a (.int .i64 y):=by
 have hl:=run_call_store (P:=Tryz.prog) Tryz.func171 (by kernel_rfl) (by kernel_rfl) (by kernel_rfl) (by kernel_rfl) (k:=.i64) (y:=y) c z
 go_enter Tryz.func119,Tryz.ntmps119
 go_wp2
 go_end0
 exact ⟨rfl,rfl⟩
set_option maxRecDepth 100000 in
set_option maxHeartbeats 400000 in
theorem mayLeave_any (h:PurseAt w b s) (g:s.Good) (n:Int):Calls Tryz.prog 64 #[ptr b,.int .i64 n] w fun e w'=>e = .returned (.int .i64 (leaveE s n)) ∧ ∃ n,w' = w.drewN n:=by
 have HM:=hid (mayMove_any h n)
 have HF:=hid (free_any h g)
 by_cases hc:s.closed = true
 ·have e1:moveE s n = 6:=by simp [moveE,hc]
  have HB:=hid (show leaveE s n = 6 by simp [leaveE,hc])
  rw [e1] at HM
  clear h g e1
  go_enter Tryz.func64,Tryz.ntmps64
  go_wp2_with (first | (go_at_call 117; refine HM.out.mono ?_; rintro e w' ⟨rfl,rfl⟩))
  go_ret
  rw [HB.out]
  exact ⟨rfl,0,rfl⟩
 ·by_cases hn:n < 0
  ·have e1:moveE s n = 1:=by simp [moveE,hc,hn]
   have HB:=hid (show leaveE s n = 1 by simp [leaveE,hc,hn])
   rw [e1] at HM
   clear h g e1
   go_enter Tryz.func64,Tryz.ntmps64
   go_wp2_with (first | (go_at_call 117; refine HM.out.mono ?_; rintro e w' ⟨rfl,rfl⟩))
   go_ret
   rw [HB.out]
   exact ⟨rfl,0,rfl⟩
  ·have e1:moveE s n = 0:=by simp [moveE,hc,hn]
   rw [e1] at HM
   by_cases hf:n > s.limit - (s.hand + s.lent)
   ·have HB:=hid (show leaveE s n = 2 by simp [leaveE,hc,hn,hf])
    clear h g e1 hc hn
    go_enter Tryz.func64,Tryz.ntmps64
    go_wp2_with (first | (go_at_call 118; refine HF.out.mono ?_; rintro e w' ⟨rfl,m,rfl⟩) | (go_at_call 117; refine HM.out.mono ?_; rintro e w' ⟨rfl,rfl⟩))
    go_ret
    rw [HB.out]
    exact ⟨rfl,m,rfl⟩
   ·have HB:=hid (show leaveE s n = 0 by simp only [leaveE,hc,hn,hf,if_false]; simp)
    clear h g e1 hc hn
    go_enter Tryz.func64,Tryz.ntmps64
    go_wp2_with (first | (go_at_call 118; refine HF.out.mono ?_; rintro e w' ⟨rfl,m,rfl⟩) | (go_at_call 117; refine HM.out.mono ?_; rintro e w' ⟨rfl,rfl⟩))
    go_ret
    rw [HB.out]
    exact ⟨rfl,m,rfl⟩
end
section
variable {w:World} {b:Nat} {s:St}
set_option maxRecDepth 100000 in
set_option maxHeartbeats 400000 in
theorem raise_any (h:PurseAt w b s) (g1:0 ≤ s.hand) (g2:0 ≤ s.lent) (g3:s.hand + s.lent ≤ s.limit) (g4:s.limit ≤ 9223372036854775807) :
  Calls Tryz.prog 65 #[ptr b] w fun e w'=>e = .returned (.tuple #[]) ∧ ∃ n,w' = (w.drewN n).setCell ⟨b,7,none⟩ (.int .i64 (max s.peak (s.hand + s.lent))):=by
 have HO:Hid (∀ W,PurseAt W b s → Calls Tryz.prog 57 #[ptr b] W fun e w'=>e = .returned (.int .i64 (s.hand + s.lent)) ∧ ∃ n,w' = W.drewN n):=hid fun W hW=>by
  exact out_any' hW g1 g2 g3 g4
 have HH:=hid h
 have HL:=hid (fun W (hW:PurseAt W b s)=>load_any (w:=W) (a:=⟨b,7,none⟩) (x:=s.peak) (cRw hW 7))
 have HS:=hid (fun W (hW:PurseAt W b s) (y:Int)=>store_any (w:=W) (a:=⟨b,7,none⟩) (u:=.int .i64 s.peak) y (cRw hW 7) (uRw hW 7))
 clear h g1 g2 g3 g4
 by_cases hp:s.hand + s.lent > s.peak
 ·have HB:=hid (show max s.peak (s.hand + s.lent) = s.hand + s.lent by omega)
  go_enter Tryz.func65,Tryz.ntmps65
  go_wp2
  go_region_with (first | (go_at_call 119; refine (HS.out _ ?_ _).mono ?_; exact HH.out; rintro e w' ⟨rfl,rfl⟩) | (go_at_call 57; refine (HO.out _ ?_).mono ?_; exact HH.out; rintro e w' ⟨rfl,m,rfl⟩) | (go_at_call 120; refine (HL.out _ ?_).mono ?_; exact HH.out; rintro e w' ⟨rfl,rfl⟩))
  all_goals go_wp2
  all_goals go_end0
  all_goals (rw [HB.out]; exact ⟨rfl,_,rfl⟩)
 ·have HB:=hid (show max s.peak (s.hand + s.lent) = s.peak by omega)
  go_enter Tryz.func65,Tryz.ntmps65
  go_wp2
  go_region_with (first | (go_at_call 119; refine (HS.out _ ?_ _).mono ?_; exact HH.out; rintro e w' ⟨rfl,rfl⟩) | (go_at_call 57; refine (HO.out _ ?_).mono ?_; exact HH.out; rintro e w' ⟨rfl,m,rfl⟩) | (go_at_call 120; refine (HL.out _ ?_).mono ?_; exact HH.out; rintro e w' ⟨rfl,rfl⟩))
  all_goals go_wp2
  all_goals go_end0
  all_goals (rw [HB.out]; exact ⟨rfl,_,rfl⟩)
theorem raise_at (h:PurseAt w b s) (g1:0 ≤ s.hand) (g2:0 ≤ s.lent) (g3:s.hand + s.lent ≤ s.limit) (g4:s.limit ≤ 9223372036854775807) :
  Calls Tryz.prog 65 #[ptr b] w fun e w'=>e = .returned (.tuple #[]) ∧ PurseAt w' b { s with peak:=max s.peak (s.hand + s.lent) } ∧ Tc [b] w w':=by
 refine (raise_any h g1 g2 g3 g4).mono ?_
 rintro e w' ⟨rfl,n,rfl⟩
 exact ⟨rfl,sRw (w:=w.drewN n) h 7 _,((Tc.refl [b] w).drewN n).setCell (by simp) _⟩
theorem lock_any (h:PurseAt w b s) (hl:LockAt w s.lb 0) (hne:b ≠ s.lb) :
  Calls Tryz.prog 55 #[ptr s.lb] w fun e w'=>e = .returned (.tuple #[]) ∧ PurseAt w' b s ∧ LockAt w' s.lb 1 ∧ Tc [s.lb] w w':=by
 refine (lock_free muLib ⟨s.lb,0,none⟩ w (cRw hl 0) (uRw hl 0)).mono ?_
 rintro e w' ⟨rfl,rfl⟩
 exact ⟨rfl,(Below.heap_setCell w _ _ b hne).trans h,sRw hl 0 _,(Tc.refl [s.lb] w).setCell (by simp) _⟩
theorem unlock_any (u:FrameMode) (h:PurseAt w b s) {lb:Nat} (hl:LockAt w lb 1) (hne:b ≠ lb) :
  CallsD Tryz.prog 56 #[ptr lb] u w fun e u' w'=>u' = u ∧ e = .returned (.tuple #[]) ∧ PurseAt w' b s ∧ LockAt w' lb 0 ∧ Tc [lb] w w':=by
 refine (unlock_deferred muLib ⟨lb,0,none⟩ u w (cRw hl 0) (uRw hl 0)).mono ?_
 rintro e u' w' ⟨rfl,rfl,rfl⟩
 exact ⟨rfl,rfl,(Below.heap_setCell w _ _ b hne).trans h,sRw hl 0 _,(Tc.refl [lb] w).setCell (by simp) _⟩
theorem LockAt.touch {w':World} {F:List Nat} {lb:Nat} {k:Int} (h:LockAt w lb k) (t:Tc F w w') (hn:lb ∉ F):LockAt w' lb k:=(t.block lb (ltB h) hn).trans h
theorem PurseAt.touch {w':World} {F:List Nat} (h:PurseAt w b s) (t:Tc F w w') (hn:b ∉ F):PurseAt w' b s:=(t.block b (ltB h) hn).trans h
theorem PurseAt.quiet {w':World} (h:PurseAt w b s) (hq:Quiet w w'):PurseAt w' b s:=by obtain ⟨n,rfl⟩:=hq; exact h
def St.take (s:St) (n:Int):St:=if leaveE s n = 0 then { s with hand:=s.hand + n,peak:=max s.peak (s.hand + n + s.lent) } else s
def St.give (s:St) (n:Int):St:=if giveE s n = 0 then { s with hand:=s.hand - n } else s
set_option maxRecDepth 100000 in
set_option maxHeartbeats 400000 in
theorem take_any (h:PurseAt w b s) (hl:LockAt w s.lb 0) (hne:b ≠ s.lb) (g:s.Good) (n:Int) :
  Calls Tryz.prog 30 #[ptr b,.int .i64 n] w fun e w'=>e = .returned (.int .i64 (leaveE s n)) ∧ PurseAt w' b (s.take n) ∧ LockAt w' s.lb 0 ∧ Tc [b,s.lb] w w':=by
 have c:=fun i=>cRw h i
 have HL:=hid (lock_any h hl hne)
 have HM:=hid (fun W (hW:PurseAt W b s)=>mayLeave_any hW g n)
 by_cases he:leaveE s n = 0
 ·rw [he] at HM
  have HTK:=hid (show s.take n = { s with hand:=s.hand + n,peak:=max s.peak (s.hand + n + s.lent) } by simp [St.take,he])
  have HE:=hid he
  have hn:0 ≤ n ∧ n ≤ s.limit - (s.hand + s.lent):=by
   unfold leaveE at he
   split at he
   ·simp at he
   split at he
   ·simp at he
   split at he
   ·simp at he
   omega
  have hw:wrap64 (s.hand + n) = s.hand + n:=IntWalk.wrap64_in _ ⟨by have:=g.hand; omega,by have:=g.out; have:=g.lent; have:=g.limit; omega⟩
  have HR:=hid (fun W (hW:PurseAt W b { s with hand:=s.hand + n })=>raise_at hW (by have:=g.hand; show (0:Int) ≤ s.hand + n; omega) g.lent (by show s.hand + n + s.lent ≤ s.limit; omega) g.limit)
  have HN:=hid hne
  clear h hl hne g he hn
  go_enter_defers Tryz.func30,Tryz.ntmps30
  go_wp2_with (first
   |(go_at_call 65; refine (HR.out _ ?_).mono ?_; exact sRw HP2.out 3 _; rintro e w3 ⟨rfl,hp3,ht3⟩; have HP3:=hid hp3; have HT3:=hid ht3; clear hp3 ht3)
   |(go_at_call 64; refine (HM.out _ HP1.out).mono ?_; rintro e w2 ⟨rfl,hq⟩; have hp2:=PurseAt.quiet HP1.out hq; have HP2:=hid hp2; have HQ:=hid hq; have c2:=(fun i=>cRw hp2 i); have f2:=(fun i=>uRw hp2 i); clear hp2 hq)
   |(go_at_call 55; refine HL.out.mono ?_; rintro e w1 ⟨rfl,hp1,hl1,ht1⟩; have HP1:=hid hp1; have HL1:=hid hl1; have HT1:=hid ht1; have c1:=(fun i=>cRw hp1 i); clear hp1 hl1 ht1))
  refine leaves_cons (f:=56) (args:=#[ptr s.lb]) (by simp) (by simp [go_sem]) ?_
  have t2:Tc [b,s.lb] w w2:=(HT1.out.mono (by simp)).trans (Quiet.touch HQ.out []) (by simp)
  have t3:Tc [b,s.lb] w w3:=(t2.setCell (p:=⟨b,3,none⟩) (by simp) _).trans HT3.out (by simp)
  have hl3:LockAt w3 s.lb 1:=LockAt.touch (w:=w2.setCell ⟨b,3,none⟩ (.int .i64 (s.hand + n))) ((Below.heap_setCell w2 _ _ s.lb (by simpa using HN.out.symm)).trans (LockAt.touch HL1.out (Quiet.touch HQ.out []) (by simp))) HT3.out (by simpa using HN.out.symm)
  refine (unlock_any .returning HP3.out hl3 HN.out).mono ?_
  rintro e u' w4 ⟨rfl,rfl,hp4,hl4,ht4⟩
  refine ⟨_,results_tmp rfl _ _ _,?_⟩
  rw [HE.out,HTK.out]
  exact ⟨rfl,hp4,hl4,t3.trans ht4 (by simp)⟩
 ·have HTK:=hid (show s.take n = s by simp [St.take,he])
  have hk:(leaveE s n != 0) = true:=by simpa using he
  have HN:=hid hne
  clear h hl hne g he
  go_enter_defers Tryz.func30,Tryz.ntmps30
  go_wp2_with (first
   |(go_at_call 64; refine (HM.out _ HP1.out).mono ?_; rintro e w2 ⟨rfl,hq⟩; have hp2:=PurseAt.quiet HP1.out hq; have HP2:=hid hp2; have HQ:=hid hq; clear hp2 hq)
   |(go_at_call 55; refine HL.out.mono ?_; rintro e w1 ⟨rfl,hp1,hl1,ht1⟩; have HP1:=hid hp1; have HL1:=hid hl1; have HT1:=hid ht1; have c1:=(fun i=>cRw hp1 i); clear hp1 hl1 ht1))
  refine leaves_cons (f:=56) (args:=#[ptr s.lb]) (by simp) (by simp [go_sem]) ?_
  have t2:Tc [b,s.lb] w w2:=(HT1.out.mono (by simp)).trans (Quiet.touch HQ.out []) (by simp)
  refine (unlock_any .returning HP2.out (LockAt.touch HL1.out (Quiet.touch HQ.out []) (by simp)) HN.out).mono ?_
  rintro e u' w4 ⟨rfl,rfl,hp4,hl4,ht4⟩
  refine ⟨_,results_tmp rfl _ _ _,?_⟩
  rw [HTK.out]
  exact ⟨rfl,hp4,hl4,t2.trans ht4 (by simp)⟩
end
end Go.Proofs.YthehcjjckabljaaGreatDoor.Pu
