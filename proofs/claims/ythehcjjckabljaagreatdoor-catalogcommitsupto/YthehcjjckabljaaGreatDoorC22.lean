import Derived.Test.YthehcjjckabljaaGreatDoorC21
namespace Go.Proofs.YthehcjjckabljaaGreatDoor
open Go.RowKit Go.Deep
def TIs (T:DataW Unit) (l:List TrA):Prop:=
 AllT T ∧ (∀ n:Int,Maps.has T (.int .i64 n) = (l.find? fun t=>t.hits n).isSome) ∧ ∀ n:Int,TrI T n (trFirst l n).at_ (trFirst l n).kind (trFirst l n).bytes
theorem TIs.nil:TIs (.map []) []:=⟨AllT.nil,fun _=>rfl,fun _=>rfl⟩
theorem find_snoc (l:List TrA) (t:TrA) (n:Int):(l ++ [t]).find? (fun t=>t.hits n) = (l.find? fun t=>t.hits n).or (if t.hits n then some t else none):=by
 rw [List.find?_append]
 congr 1
 simp only [List.find?_cons,List.find?_nil]
 cases t.hits n <;> rfl
theorem TIs.same {T:DataW Unit} {l:List TrA} {t:TrA} (h:TIs T l) (he:∀ n,t.hits n = true → (l.find? fun t=>t.hits n).isSome = true):TIs T (l ++ [t]):=by
 have e:∀ n,(l ++ [t]).find? (fun t=>t.hits n) = l.find? fun t=>t.hits n:=fun n=>by
  rw [find_snoc]
  cases hn:t.hits n with
  | false=>simp
  | true =>
   have:=he n hn
   cases hf:l.find? fun t=>t.hits n with
   | none=>rw [hf] at this; simp at this
   | some x=>rfl
 refine ⟨h.1,fun n=>by rw [e n]; exact h.2.1 n,fun n=>?_⟩
 have e2:trFirst (l ++ [t]) n = trFirst l n:=by unfold trFirst; rw [e n]
 rw [e2]
 exact h.2.2 n
theorem hits_at {t:TrA} {n:Int} (h:t.hits n = true):t.at_ = n ∧ (t.kind = 1 ∨ t.kind = 2):=by
 unfold TrA.hits at h
 simpa using h
theorem hits_of {t:TrA} (h:t.kind = 1 ∨ t.kind = 2):t.hits t.at_ = true:=by
 unfold TrA.hits
 simpa using h
theorem TIs.skip {T:DataW Unit} {l:List TrA} {t:TrA} (h:TIs T l) (h1:t.kind ≠ 1) (h2:t.kind ≠ 2):TIs T (l ++ [t]):=
 h.same fun n hn=>by have:=(hits_at hn).2; omega
theorem TIs.taken {T:DataW Unit} {l:List TrA} {t:TrA} (h:TIs T l) (_h1:t.kind = 1 ∨ t.kind = 2) (hh:Maps.has T (.int .i64 t.at_) = true):TIs T (l ++ [t]):=
 h.same fun n hn=>by
  have:=(hits_at hn).1
  subst this
  rw [← h.2.1]
  exact hh
theorem TIs.isMap {T:DataW Unit} {l:List TrA} (h:TIs T l):Maps.IsMap T:=by
 obtain ⟨e,rfl,_⟩:=h.1
 exact ⟨e,rfl⟩
theorem TIs.put {T:DataW Unit} {l:List TrA} {t:TrA} (h:TIs T l) (h1:t.kind = 1 ∨ t.kind = 2) (hh:Maps.has T (.int .i64 t.at_) = false):TIs (T.put (.int .i64 t.at_) (.agg [.lit (.int .i64 t.at_),.lit (.int .i64 t.kind),.lit (.int .i64 t.bytes)])) (l ++ [t]):=by
 have hno:l.find? (fun x=>x.hits t.at_) = none:=by
  have:=h.2.1 t.at_
  rw [hh] at this
  cases hf:l.find? (fun x=>x.hits t.at_) with
  | none=>rfl
  | some x=>rw [hf] at this; simp at this
 have e1:(l ++ [t]).find? (fun x=>x.hits t.at_) = some t:=by rw [find_snoc,hno,hits_of h1]; rfl
 have e2:∀ n,n ≠ t.at_ → (l ++ [t]).find? (fun x=>x.hits n) = l.find? fun x=>x.hits n:=fun n hn=>by
  have:t.hits n = false:=by
   cases hq:t.hits n with
   | false=>rfl
   | true=>exact absurd (hits_at hq).1.symm hn
  rw [find_snoc,this]
  simp
 refine ⟨h.1.put _ _ _ _,fun n=>?_,fun n=>?_⟩
 ·by_cases hn:n = t.at_
  ·subst hn
   rw [e1,Maps.has_put_same h.isMap (by trivial)]
   rfl
  ·rw [e2 n hn,Maps.has_put_other (by simp [hn]),h.2.1]
 ·by_cases hn:n = t.at_
  ·subst hn
   unfold TrI trFirst
   rw [e1,Maps.atKey_put_same h.isMap (by trivial)]
   rfl
  ·have:=h.2.2 n
   unfold TrI trFirst at this ⊢
   rw [e2 n hn,Maps.atKey_put_other (by simp [hn]),this]
theorem TIs.from {T:DataW Unit} {l:List TrA} (h:TIs T l) (n:Int):TFrom T l n:=fun m _=>h.2.2 m
section
variable {w w':World}
set_option maxRecDepth 100000 in
set_option maxHeartbeats 1000000 in
theorem byCall_x {sa:Option Addr} {ca:Nat} {l:List TrA} (hl:TrsAt w sa l) (hlen:l.length ≤ 1099511627776) :
  Calls Tryz.prog 128 #[.slice sa l.length ca] w fun e w'=>e = .returned (.map (some w.heap.size)) ∧ (∃ n T,w'.ownsMap Tryz.prog 3 trElem w.heap.size n T ∧ TIs T l) ∧ Below w.heap.size w w':=by
 have hmm:=@run_makeMap Tryz.prog
 have HL:=hid hl
 have HLN:=hid hlen
 clear hl hlen
 go_enter Tryz.func128,Tryz.ntmps128
 go_wp2
 clear hmm
 go_loopw [11] (fun i wr=>∃ (k n:Nat) (T:DataW Unit),k ≤ l.length ∧ i = .int .i64 k ∧ n ≤ k ∧ wr.ownsMap Tryz.prog 3 trElem w.heap.size n T ∧ TIs T (l.take k) ∧ Below w.heap.size w wr) (fun i _=>l.length - (intOf i).toNat)
 case atStart =>
  exact ⟨0,0,.map [],Nat.zero_le _,rfl,Nat.le_refl _,empty_map _ _ _ _ (heap_alloc_new w _),TIs.nil,(Below.refl _ w).alloc (Nat.le_refl _) _⟩
 case round =>
  obtain ⟨k,n,T,hk,rfl,hnk,hm,hT,hb⟩:=hrel
  by_cases hlt:k < l.length
  ·obtain ⟨a,rfl,hblk,c0,c1,c2⟩:=HL.out.read hlt hb
   have hwf:=HL.out.wf k hlt
   obtain ⟨at_,e0⟩:∃ x,x = l[k].at_:=⟨_,rfl⟩
   obtain ⟨kd,e1⟩:∃ x,x = l[k].kind:=⟨_,rfl⟩
   obtain ⟨by_,e2⟩:∃ x,x = l[k].bytes:=⟨_,rfl⟩
   rw [← e0] at c0 hwf
   rw [← e1] at c1
   rw [← e2] at c2
   have HN:Hid ((kd = 1 ∨ kd = 2 → Maps.has T (.int .i64 at_) = true → TIs T (l.take (k + 1))) ∧ (kd = 1 ∨ kd = 2 → Maps.has T (.int .i64 at_) = false → TIs (T.put (.int .i64 at_) (.agg [.lit (.int .i64 at_),.lit (.int .i64 kd),.lit (.int .i64 by_)])) (l.take (k + 1))) ∧ (kd ≠ 1 → kd ≠ 2 → TIs T (l.take (k + 1)))):=by
    rw [e0,e1,e2,List.take_succ_eq_append_getElem hlt]
    exact ⟨fun h1 h2=>hT.taken h1 h2,fun h1 h2=>hT.put h1 h2,fun h1 h2=>hT.skip h1 h2⟩
   clear e0 e1 e2
   have hkI:(k:Int) < (l.length:Int):=by omega
   have hk0:(0:Int) ≤ (k:Int):=by omega
   have hwk:=wrap_step hlt HLN.out
   obtain ⟨a1,k1,b1,ht⟩:=hT.1.trouble at_
   have hlw:w.heap.size < wr.heap.size:=hm.lt
   have HM:=hid hm
   have HB:=hid hb
   have HT:=hid hT
   have HLT:=hid hlt
   have HNK:=hid hnk
   have HBX:Hid (∀ o:Obj,Below w.heap.size w (wr.alloc o)):=hid fun o=>hb.alloc hb.size o
   clear hk hlt hnk
   by_cases h1:kd = 1
   ·subst h1
    have hmx:=hm.alloc (.cells #[.int .i64 at_,.int .i64 1,.int .i64 by_] 67)
    have hlook:=tr_look hmx ht hwf
    by_cases hh:Maps.has T (.int .i64 at_) = true
    ·have HN1:=hid (HN.out.1 (.inl rfl) hh)
     rw [hh] at hlook
     clear hm hb hT ht hmx hwf hh
     go_wp2
     try rw [hwk]
     exact ⟨⟨k + 1,n,T,HLT.out,next_num k,Nat.le_succ_of_le HNK.out,(HM.out.alloc _).alloc _,HN1.out,((HB.out.alloc HB.out.size _).alloc (Nat.le_trans HB.out.size (by simp)) _)⟩,less_step HLT.out⟩
    ·have hh':Maps.has T (.int .i64 at_) = false:=by simpa using hh
     have HN2:=hid (HN.out.2.1 (.inl rfl) hh')
     rw [hh'] at hlook
     obtain ⟨w3,hst,hm3,hg3⟩:=tr_store (hmx.alloc (.cells #[.int .i64 a1,.int .i64 k1,.int .i64 b1] 67)) (Nat.lt_of_le_of_lt HNK.out (Nat.lt_of_lt_of_le HLT.out HLN.out)) hwf 1 by_
     have hb3:Below w.heap.size w w3:=Below.grown ((HB.out.alloc HB.out.size _).alloc (Nat.le_trans HB.out.size (by simp)) _) hg3 (Nat.le_trans HB.out.size (by simp; omega)) (fun k h=>by simp at h; omega)
     have HM3:=hid hm3
     have HB3:=hid hb3
     clear hm hb hT ht hmx hwf hh hh' hm3 hb3 hg3
     go_wp2
     try rw [hwk]
     exact ⟨⟨k + 1,n + 1,_,HLT.out,next_num k,Nat.succ_le_succ HNK.out,HM3.out,HN2.out,HB3.out⟩,less_step HLT.out⟩
   ·by_cases h2:kd = 2
    ·subst h2
     clear h1
     have hmx:=hm.alloc (.cells #[.int .i64 at_,.int .i64 2,.int .i64 by_] 67)
     have hlook:=tr_look hmx ht hwf
     by_cases hh:Maps.has T (.int .i64 at_) = true
     ·have HN1:=hid (HN.out.1 (.inr rfl) hh)
      rw [hh] at hlook
      clear hm hb hT ht hmx hwf hh
      go_wp2
      try rw [hwk]
      exact ⟨⟨k + 1,n,T,HLT.out,next_num k,Nat.le_succ_of_le HNK.out,(HM.out.alloc _).alloc _,HN1.out,((HB.out.alloc HB.out.size _).alloc (Nat.le_trans HB.out.size (by simp)) _)⟩,less_step HLT.out⟩
     ·have hh':Maps.has T (.int .i64 at_) = false:=by simpa using hh
      have HN2:=hid (HN.out.2.1 (.inr rfl) hh')
      rw [hh'] at hlook
      obtain ⟨w3,hst,hm3,hg3⟩:=tr_store (hmx.alloc (.cells #[.int .i64 a1,.int .i64 k1,.int .i64 b1] 67)) (Nat.lt_of_le_of_lt HNK.out (Nat.lt_of_lt_of_le HLT.out HLN.out)) hwf 2 by_
      have hb3:Below w.heap.size w w3:=Below.grown ((HB.out.alloc HB.out.size _).alloc (Nat.le_trans HB.out.size (by simp)) _) hg3 (Nat.le_trans HB.out.size (by simp; omega)) (fun k h=>by simp at h; omega)
      have HM3:=hid hm3
      have HB3:=hid hb3
      clear hm hb hT ht hmx hwf hh hh' hm3 hb3 hg3
      go_wp2
      try rw [hwk]
      exact ⟨⟨k + 1,n + 1,_,HLT.out,next_num k,Nat.succ_le_succ HNK.out,HM3.out,HN2.out,HB3.out⟩,less_step HLT.out⟩
    ·have HN3:=hid (HN.out.2.2 h1 h2)
     have n1:(kd != 1) = true:=by simp [h1]
     have n2:(kd != 2) = true:=by simp [h2]
     clear hm hb hT ht h1 h2 hwf
     go_wp2
     try rw [hwk]
     exact ⟨⟨k + 1,n,T,HLT.out,next_num k,Nat.le_succ_of_le HNK.out,HM.out.alloc _,HN3.out,HBX.out _⟩,less_step HLT.out⟩
  ·have hend:¬ (k:Int) < (l.length:Int):=by omega
   have HM:=hid (⟨n,T,hm,by rw [List.take_of_length_le (by omega)] at hT; exact hT⟩:∃ n T,wr.ownsMap Tryz.prog 3 trElem w.heap.size n T ∧ TIs T l)
   have HB:=hid hb
   clear hm hT hb hnk hk hlt
   go_wp2
   go_ret
   exact ⟨rfl,HM.out,HB.out⟩
set_option maxRecDepth 100000 in
set_option maxHeartbeats 600000 in
theorem empty_x {B:Nat} {Bs:Int} {sa:Option Addr} {ca:Nat} {l:List TrA} (hl:TrsAt w sa l) (hlen:l.length ≤ 1099511627776) :
  Calls Tryz.prog 77 #[.agg #[.int .i64 B,.int .i64 Bs,.slice sa l.length ca]] w fun e w'=>∃ p mf mt T,e = .returned (ptr p) ∧ Rep w' w.heap.size p mf mt (.newT B Bs T) ∧ TIs T l ∧ Below w.heap.size w w':=by
 have hmm:=@run_makeMap Tryz.prog
 have HL:=hid (fun (W:World) (hb:Below w.heap.size w W)=>byCall_x (ca:=ca) (hl.below hb) hlen)
 have HX:Hid (Below w.heap.size w (w.alloc (.cells #[.int .i64 B,.int .i64 Bs,.slice sa l.length ca] 79))):=hid ((Below.refl _ w).alloc (Nat.le_refl _) _)
 have HY:Hid (∀ o,Below w.heap.size w (((w.alloc (.cells #[.int .i64 B,.int .i64 Bs,.slice sa l.length ca] 79)).alloc o).drew)):=hid fun o=>(((Below.refl _ w).alloc (Nat.le_refl _) _).alloc (by simp) _).drew
 have HB3:Hid (∀ W w2:World,Below W.heap.size W w2 → W.cell? ⟨w.heap.size,0,none⟩ = some (.int .i64 B) → W.cell? ⟨w.heap.size,1,none⟩ = some (.int .i64 Bs) → W.cell? ⟨w.heap.size,2,none⟩ = some (.slice sa l.length ca) →
   w2.cell? ⟨w.heap.size,0,none⟩ = some (.int .i64 B) ∧ w2.cell? ⟨w.heap.size,1,none⟩ = some (.int .i64 Bs) ∧ w2.cell? ⟨w.heap.size,2,none⟩ = some (.slice sa l.length ca)):=hid fun W w2 hb h0 h1 h2 =>
  ⟨(hb.cell (World.block_lt_of_cell? W _ h0)).trans h0,(hb.cell (World.block_lt_of_cell? W _ h1)).trans h1,(hb.cell (World.block_lt_of_cell? W _ h2)).trans h2⟩
 clear hl hlen
 go_enter Tryz.func77,Tryz.ntmps77
 go_wp2
 go_region_held3 (fun V=>V.cell? ⟨w.heap.size,0,none⟩ = some (.int .i64 B) ∧ V.cell? ⟨w.heap.size,1,none⟩ = some (.int .i64 Bs) ∧ V.cell? ⟨w.heap.size,2,none⟩ = some (.slice sa l.length ca)) (go_keep)
  (first
   |(go_at_call 128; refine (HL.out _ HX.out.drew).mono ?_; rintro e w2 ⟨rfl,hT2,hb2⟩; have z2:=HB3.out _ w2 hb2 (by simp) (by simp) (by simp); have HT2:=hid hT2; have HBB:=hid (HX.out.drew.trans (hb2.mono (by first | (simp; done) | (simp; omega)))); clear hT2 hb2)
   |(go_at_call 128; refine (HL.out _ (HY.out _)).mono ?_; rintro e w2 ⟨rfl,hT2,hb2⟩; have z2:=HB3.out _ w2 hb2 (by simp) (by simp) (by simp); have HT2:=hid hT2; have HBB:=hid ((HY.out _).trans (hb2.mono (by first | (simp; done) | (simp; omega)))); have HOB:=hid hb2; clear hT2 hb2))
 ·go_wp2
  go_ret
  obtain ⟨n,T,hT,hA⟩:=HT2.out
  have hT':w2.ownsMap Tryz.prog 3 trElem (w.heap.size + 1 + 1) n T:=by simpa using hT
  have hz:=hT'.lt
  have hm:w2.heap[w.heap.size + 1]? = some (.map #[] 0):=(HOB.out.block _ (by simp)).trans (heap_two w (.cells #[.int .i64 B,.int .i64 Bs,.slice sa l.length ca] 79) (.map #[] 0)).2
  refine ⟨w2.heap.size,w.heap.size + 1,w.heap.size + 1 + 1,T,rfl,new_repT (heap_alloc_new w2 _) (empty_map _ _ _ _ ((Below.heap_alloc w2 _ _ (by omega)).trans hm)) ⟨n,hT'.alloc _⟩ (by omega) (by omega) (by omega) ⟨by omega,by omega,by omega⟩,hA,HBB.out.alloc HBB.out.size _⟩
 ·go_wp2
  go_ret
  obtain ⟨n,T,hT,hA⟩:=HT2.out
  have hT':w2.ownsMap Tryz.prog 3 trElem (w.heap.size + 1) n T:=by simpa using hT
  have hz:=hT'.lt
  have h2:=heap_two w2 (.map #[] 0) (.cells #[.int .i64 B,.int .i64 Bs,.bool true,.map (some w2.heap.size),.map (some (w.heap.size + 1)),.int .i64 0,.int .i64 0,.int .i64 0,.int .i64 0,.int .i64 0,.int .i64 0,.int .i64 0] 102)
  refine ⟨w2.heap.size + 1,w2.heap.size,w.heap.size + 1,T,rfl,new_repT h2.2 (empty_map _ _ _ _ h2.1) ⟨n,(hT'.alloc _).alloc _⟩ (by omega) (by omega) (by omega) ⟨by omega,by omega,by omega⟩,hA,(HBB.out.alloc HBB.out.size _).alloc (Nat.le_trans HBB.out.size (by simp)) _⟩
end
set_option maxRecDepth 100000
def SetOk (B Bs:Int):Prop:=64 ≤ B ∧ B ≤ 65536 ∧ B % 32 = 0 ∧ 0 ≤ Bs ∧ Bs ≤ 1099511627776
theorem SetOk.not {B Bs:Int} (h:¬ SetOk B Bs):B < 64 ∨ (¬ B < 64 ∧ 65536 < B) ∨ (¬ B < 64 ∧ ¬ 65536 < B ∧ ¬ B % 32 = 0) ∨ (¬ B < 64 ∧ ¬ 65536 < B ∧ B % 32 = 0 ∧ Bs < 0) ∨ (¬ B < 64 ∧ ¬ 65536 < B ∧ B % 32 = 0 ∧ ¬ Bs < 0 ∧ 1099511627776 < Bs):=by
 unfold SetOk at h
 omega
section
variable {w:World} {E:Nat → Addr} {lo:Nat}
set_option maxHeartbeats 1000000 in
theorem checkSetup_bad (S:∀ o,Sents (w.alloc o) E) {B Bs:Int} {ga:Option Addr} {gn gc:Nat} (h:¬ SetOk B Bs) :
  Calls Tryz.prog 126 #[.agg #[.int .i64 B,.int .i64 Bs,.slice ga gn gc]] w fun e w'=>e = .returned (errV E 0) ∧ Below w.heap.size w w':=by
 have c0:∀ o:Obj,(w.alloc o).cell? ⟨10,0,none⟩ = some (errV E 0):=fun o=>(S o).var0
 have h2:=SetOk.not h
 clear h S
 rcases h2 with x1 | ⟨x1,x2⟩ | ⟨x1,x2,x3⟩ | ⟨x1,x2,x3,x4⟩ | ⟨x1,x2,x3,x4,x5⟩
 all_goals
  go_enter Tryz.func126,Tryz.ntmps126
  go_wp2
  go_ret
  exact ⟨rfl,(Below.refl _ w).alloc (Nat.le_refl _) _⟩
end
def FilesOk (B:Int) (l:List SFl) (k:Nat):Prop:=∀ (j:Nat) (e:SFl),j < k → l[j]? = some e → FOk B ⟨(lastN l j).toArray⟩ ⟨e.name.toArray⟩ e.file.blocks
def MountV (sB B Bs:Int) (l:List SFl) (c:Option Nat):Prop:=
 (c = none ∧ SetOk B Bs ∧ sB = B ∧ FilesOk B l l.length ∧ (usedN l l.length:Int) ≤ Bs) ∨
 (c = some 0 ∧ ¬ SetOk B Bs) ∨
 (c = some 10 ∧ SetOk B Bs ∧ ¬ (sB = B ∧ FilesOk B l l.length)) ∨
 (c = some 9 ∧ SetOk B Bs ∧ sB = B ∧ FilesOk B l l.length ∧ ¬ (usedN l l.length:Int) ≤ Bs)
def errOf (E:Nat → Addr):Option Nat → Value
 | none=>.nilIface
 | some c=>errV E c
section
variable {w w':World} {E:Nat → Addr} {lo:Nat}
set_option maxRecDepth 100000 in
set_option maxHeartbeats 1000000 in
theorem checkMount_bad (V:Env w lo E) {sB B Bs:Int} {fa ta:Option Addr} {fn fc tn tc:Nat} (h:¬ SetOk B Bs) :
  Calls Tryz.prog 75 #[.agg #[.int .i64 sB,.slice fa fn fc],.agg #[.int .i64 B,.int .i64 Bs,.slice ta tn tc]] w fun e w'=>e = .returned (errV E 0) ∧ Below w.heap.size w w':=by
 have HC:=hid (fun o1 o2:Obj=>checkSetup_bad (w:=(w.alloc o1).alloc o2) (E:=E) (fun o3=>(((V.alloc o1).alloc o2).alloc o3).sents) (ga:=ta) (gn:=tn) (gc:=tc) h)
 clear h V
 go_enter Tryz.func75,Tryz.ntmps75
 go_wp2_with (go_at_call 126; refine (HC.out _ _).mono ?_; rintro e w1 ⟨rfl,hb1⟩; have HB0:Hid (Below w.heap.size w w1):=hid ((((Below.refl _ w).alloc (Nat.le_refl _) _).alloc (by simp) _).trans (hb1.mono (by simp; omega))); clear hb1)
 go_ret
 exact ⟨rfl,HB0.out⟩
set_option maxRecDepth 100000 in
set_option maxHeartbeats 1000000 in
theorem checkMount_other (V:Env w lo E) {sB B Bs:Int} {fa ta:Option Addr} {fn fc tn tc:Nat} (h:SetOk B Bs) (hne:¬ sB = B) :
  Calls Tryz.prog 75 #[.agg #[.int .i64 sB,.slice fa fn fc],.agg #[.int .i64 B,.int .i64 Bs,.slice ta tn tc]] w fun e w'=>e = .returned (errV E 10) ∧ Below w.heap.size w w':=by
 have HC:=hid (fun W=>checkSetup_ok (B:=B) (Bs:=Bs) (v:=.slice ta tn tc) rfl h.1 h.2.1 h.2.2.1 h.2.2.2.1 h.2.2.2.2 W)
 have HV:Hid (∀ W,Below w.heap.size w W → W.cell? ⟨5,0,none⟩ = some (errV E 10)):=fun W hb=>(V.touch (Tc.of_below (F:=[]) hb (Nat.le_refl _)) (by simp)).sents.var10
 have hnb:(sB != B) = true:=by simpa using hne
 obtain ⟨W,hW⟩:∃ W,W = (w.alloc (.cells #[.int .i64 sB,.slice fa fn fc] 42)).alloc (.cells #[.int .i64 B,.int .i64 Bs,.slice ta tn tc] 79):=⟨_,rfl⟩
 have hW1:=heap_two w (.cells #[.int .i64 sB,.slice fa fn fc] 42) (.cells #[.int .i64 B,.int .i64 Bs,.slice ta tn tc] 79)
 rw [← hW] at hW1
 have hTW:Below w.heap.size w W:=by rw [hW]; exact ((Below.refl _ w).alloc (Nat.le_refl _) _).alloc (by simp) _
 have HE:=hid hW
 have HW:=hid hW1
 have HTW:=hid hTW
 clear h V hne hW hW1 hTW
 go_enter Tryz.func75,Tryz.ntmps75
 go_wp2_with fail
 rw [← HE.out]
 refine (HC.out _).mono ?_
 rintro e w1 ⟨rfl,hb1⟩
 have r1:w1.heap[w.heap.size]? = _:=(hb1.block _ (ltB HW.out.1)).trans HW.out.1
 have r2:w1.heap[w.heap.size + 1]? = _:=(hb1.block _ (ltB HW.out.2)).trans HW.out.2
 have a0:=cRw r1 0
 have b0:=cRw r2 0
 simp at a0 b0
 have hbw:Below w.heap.size w w1:=HTW.out.trans (hb1.mono HTW.out.size)
 have c10:=HV.out _ hbw
 have HBW:=hid hbw
 clear r1 r2 hb1 hbw
 go_wp2
 go_ret
 exact ⟨rfl,HBW.out⟩
set_option maxRecDepth 100000 in
set_option maxHeartbeats 1000000 in
theorem checkMount_files (V:Env w lo E) {B Bs:Int} {fv:Value} {l:List SFl} {ta:Option Addr} {tn tc:Nat} (h:StIn w fv l) (hs:SetOk B Bs) (hn:l.length ≤ 1099511627776) (hu:usedN l l.length ≤ 1099511627776) :
  Calls Tryz.prog 75 #[.agg #[.int .i64 B,fv],.agg #[.int .i64 B,.int .i64 Bs,.slice ta tn tc]] w fun e w'=>(∃ c,MountV B B Bs l c ∧ e = .returned (errOf E c)) ∧ Below w.heap.size w w':=by
 have HC:=hid (fun W=>checkSetup_ok (B:=B) (Bs:=Bs) (v:=.slice ta tn tc) rfl hs.1 hs.2.1 hs.2.2.1 hs.2.2.2.1 hs.2.2.2.2 W)
 obtain ⟨fa,fc,hfv⟩:=h.sl
 have HV:Hid (∀ W,Below w.heap.size w W → Env W lo E):=fun W hb=>V.touch (Tc.of_below (F:=[]) hb (Nat.le_refl _)) (by simp)
 have HS:=hid h
 have HOK:=hid hs
 have HFV:=hid hfv
 rw [hfv]
 obtain ⟨W,hW⟩:∃ W,W = (w.alloc (.cells #[.int .i64 B,.slice fa l.length fc] 42)).alloc (.cells #[.int .i64 B,.int .i64 Bs,.slice ta tn tc] 79):=⟨_,rfl⟩
 have hW1:=heap_two w (.cells #[.int .i64 B,.slice fa l.length fc] 42) (.cells #[.int .i64 B,.int .i64 Bs,.slice ta tn tc] 79)
 rw [← hW] at hW1
 have hTW:Below w.heap.size w W:=by rw [hW]; exact ((Below.refl _ w).alloc (Nat.le_refl _) _).alloc (by simp) _
 have HE:=hid hW
 have HW:=hid hW1
 have HTW:=hid hTW
 clear h hs V hfv hW hW1 hTW
 go_enter Tryz.func75,Tryz.ntmps75
 go_wp2_with fail
 rw [← HE.out]
 refine (HC.out _).mono ?_
 rintro e w1 ⟨rfl,hb1⟩
 have r1:w1.heap[w.heap.size]? = _:=(hb1.block _ (ltB HW.out.1)).trans HW.out.1
 have r2:w1.heap[w.heap.size + 1]? = _:=(hb1.block _ (ltB HW.out.2)).trans HW.out.2
 have a0:=cRw r1 0
 have a1:=cRw r1 1
 have b0:=cRw r2 0
 have b1:=cRw r2 1
 simp at a0 a1 b0 b1
 have hbw:Below w.heap.size w w1:=HTW.out.trans (hb1.mono HTW.out.size)
 have HBW:=hid hbw
 have lz:w.heap.size + 1 < w1.heap.size:=ltB r2
 have hnb:(B != B) = false:=by simp
 clear r1 r2 hb1 hbw
 go_wp2
 go_loopw [6,7,25] (fun la us i wr=>∃ k:Nat,k ≤ l.length ∧ i = .int .i64 k ∧ la = encStr (lastN l k) ∧ us = .int .i64 (usedN l k) ∧ FilesOk B l k ∧ Below w1.heap.size w1 wr) (fun _ _ i _=>l.length - (intOf i).toNat)
 case atStart=>exact ⟨0,Nat.zero_le _,rfl,rfl,rfl,fun j e hj=>by omega,Below.refl _ _⟩
 case round =>
  obtain ⟨k,hk,rfl,rfl,rfl,hall,hbr⟩:=hrel
  have x0:=hbr.cell (p:=⟨w.heap.size + 1,0,none⟩) lz
  have x1:=hbr.cell (p:=⟨w.heap.size + 1,1,none⟩) lz
  rw [b0] at x0
  rw [b1] at x1
  have hzr:w.heap.size + 1 < wr.heap.size:=Nat.lt_of_lt_of_le lz hbr.size
  have hub:=usedN_le l k
  have hbwr:Below w.heap.size w wr:=HBW.out.trans (hbr.mono HBW.out.size)
  have HALL:=hid hall
  clear hall
  by_cases hlt:k < l.length
  ·obtain ⟨e0,he0⟩:∃ e0,l[k]? = some e0:=⟨l[k],List.getElem?_eq_getElem hlt⟩
   obtain ⟨A,gc,hG⟩:=HS.out.one (by omega)
   rw [HFV.out] at hG
   simp only [Value.slice.injEq,true_and] at hG
   obtain ⟨rfl,rfl⟩:=hG
   obtain ⟨f0,f1,f2,hbl⟩:=(HS.out.below hbwr).read he0 HFV.out
   have hus:=usedN_succ he0
   have hle:=usedN_le l (k + 1)
   have hone:e0.file.blocks.length ≤ 1099511627776:=by omega
   have HK:=hid (fun o:Obj=>checkFile_in (w:=wr.alloc o) (lo:=lo) (E:=E) (B:=B) (s:=⟨e0.name.toArray⟩) (last:=⟨(lastN l k).toArray⟩) (x:=e0.file.shut) ((HV.out _ hbwr).alloc o) (hbl.below ((Below.refl _ wr).alloc (Nat.le_refl _) o)) hone)
   obtain ⟨ga,gk,hsv⟩:=hbl.sl
   rw [hsv] at f2 HK
   have HUS:=hid hus
   have HE0:=hid he0
   have HBR:=hid hbr
   have HBWR:=hid hbwr
   clear he0 hbl hsv hus hbr hbwr
   by_cases hok:FOk B ⟨(lastN l k).toArray⟩ ⟨e0.name.toArray⟩ e0.file.blocks
   ·have NX:Hid (FilesOk B l (k + 1)):=fun j e hj he=>by
     by_cases hjk:j < k
     ·exact HALL.out j e hjk he
     ·have:j = k:=by omega
      subst this
      have h9:=HE0.out
      rw [h9] at he
      cases he
      exact hok
    have HOKF:=hid hok
    clear hok
    go_wp2_with (go_at_call 127; refine (HK.out _).mono ?_; rintro e w2 ⟨hres,ht2⟩; obtain rfl:e = .returned .nilIface:=by { rcases hres with ⟨_,h⟩ | ⟨hc,_⟩; exact h; exact absurd HOKF.out hc }; clear hres; obtain ⟨q0,q1,q2,lq⟩:=box_up3 ht2; have HT2:=hid ht2; clear ht2)
    have hbn:Below w1.heap.size w1 w2:=HBR.out.trans (((Below.refl _ wr).alloc (Nat.le_refl _) _).trans (HT2.out.mono (by simp)) |>.mono HBR.out.size)
    have hla:encStr e0.name = encStr (lastN l (k + 1)):=by simp [lastN,HE0.out]
    have hue:(usedN l k:Int) + e0.file.blocks.length = (usedN l (k + 1):Nat):=by rw [HUS.out]; simp
    have HBN:=hid hbn
    have HLA:=hid hla
    have HUE:=hid hue
    clear hbn hla hue
    go_roundw
    case rel=>first | exact ⟨k + 1,by omega,by go_num,HLA.out,by rw [HUE.out],NX.out,HBN.out⟩ | ((repeat apply Exists.intro); exact ⟨⟨k + 1,by omega,by go_num,HLA.out,by rw [HUE.out],NX.out,HBN.out⟩,rfl⟩)
    case measure=>simp [intOf]; omega
   ·have NX:Hid (¬ FilesOk B l l.length):=fun hf=>hok (hf k e0 hlt HE0.out)
    have HOKF:=hid hok
    clear hok
    go_wp2_with (go_at_call 127; refine (HK.out _).mono ?_; rintro e w2 ⟨hres,ht2⟩; obtain rfl:e = .returned (errV E 10):=by { rcases hres with ⟨hc,_⟩ | ⟨_,h⟩; exact absurd hc HOKF.out; exact h }; clear hres; obtain ⟨q0,q1,q2,lq⟩:=box_up3 ht2; have HT2:=hid ht2; clear ht2)
    go_ret
    exact ⟨⟨some 10,.inr (.inr (.inl ⟨rfl,HOK.out,fun h=>NX.out h.2⟩)),rfl⟩,HBWR.out.trans (((Below.refl _ wr).alloc (Nat.le_refl _) _).trans (HT2.out.mono (by simp)) |>.mono HBWR.out.size)⟩
  ·have hkk:k = l.length:=by omega
   subst hkk
   have c9:=(HV.out _ hbwr).sents.var9
   have HBWR:=hid hbwr
   have HBR:=hid hbr
   clear hbr hbwr
   by_cases hu2:(usedN l l.length:Int) ≤ Bs
   ·go_wp2
    go_ret
    exact ⟨⟨none,.inl ⟨rfl,HOK.out,rfl,HALL.out,hu2⟩,rfl⟩,HBWR.out⟩
   ·have hu3:Bs < (usedN l l.length:Int):=by omega
    go_wp2
    go_ret
    exact ⟨⟨some 9,.inr (.inr (.inr ⟨rfl,HOK.out,rfl,HALL.out,by omega⟩)),rfl⟩,HBWR.out⟩
theorem checkMount_in (V:Env w lo E) {sB B Bs:Int} {fv:Value} {l:List SFl} {ta:Option Addr} {tn tc:Nat} (h:StIn w fv l) (hn:l.length ≤ 1099511627776) (hu:usedN l l.length ≤ 1099511627776) :
  Calls Tryz.prog 75 #[.agg #[.int .i64 sB,fv],.agg #[.int .i64 B,.int .i64 Bs,.slice ta tn tc]] w fun e w'=>(∃ c,MountV sB B Bs l c ∧ e = .returned (errOf E c)) ∧ Below w.heap.size w w':=by
 by_cases hs:SetOk B Bs
 ·by_cases hb:sB = B
  ·subst hb
   exact checkMount_files V h hs hn hu
  ·obtain ⟨fa,fc,hfv⟩:=h.sl
   rw [hfv]
   exact (checkMount_other V hs hb).mono fun e w' ⟨h1,h2⟩=>⟨⟨some 10,.inr (.inr (.inl ⟨rfl,hs,fun h=>hb h.1⟩)),h1⟩,h2⟩
 ·obtain ⟨fa,fc,hfv⟩:=h.sl
  rw [hfv]
  exact (checkMount_bad V hs).mono fun e w' ⟨h1,h2⟩=>⟨⟨some 0,.inr (.inl ⟨rfl,hs⟩),h1⟩,h2⟩
end
theorem MountV.uniq {sB B Bs:Int} {l:List SFl} {c d:Option Nat} (h:MountV sB B Bs l c) (g:MountV sB B Bs l d):c = d:=by
 rcases h with ⟨rfl,h1,h2,h3,h4⟩ | ⟨rfl,h1⟩ | ⟨rfl,h1,h2⟩ | ⟨rfl,h1,h2,h3,h4⟩ <;>
 rcases g with ⟨rfl,g1,g2,g3,g4⟩ | ⟨rfl,g1⟩ | ⟨rfl,g1,g2⟩ | ⟨rfl,g1,g2,g3,g4⟩ <;>
 first
  | rfl
  | exact absurd h1 g1
  | exact absurd g1 h1
  | exact absurd ⟨h2,h3⟩ g2
  | exact absurd ⟨g2,g3⟩ h2
  | exact absurd h4 g4
  | exact absurd g4 h4
theorem ahead {a b:List UInt8} (h:(Op.bytesLess b a || b == a) = false):bytesBefore a b = true:=by
 rw [less_before] at h
 have h1:bytesBefore b a = false:=by cases hx:bytesBefore b a with | false=>rfl | true=>rw [hx] at h; cases h
 have h2:b ≠ a:=fun e=>by subst e; simp at h
 rcases WideAt.bytes_total b a h2 with h3 | h3
 ·rw [h1] at h3; cases h3
 ·exact h3
theorem FilesOk.good {B:Int} {l:List SFl} (h:FilesOk B l l.length) (hn:l.length ≤ 1099511627776) (hu:usedN l l.length ≤ 1099511627776):GoodL l ∧ ∀ e ∈ l,∀ b ∈ e.file.blocks,(b.length:Int) = B:=by
 have hstep:∀ (j:Nat) (hj:j + 1 < l.length),bytesBefore (l[j]'(by omega)).name (l[j + 1]).name = true:=fun j hj=>by
  have h1:=(h (j + 1) _ hj (List.getElem?_eq_getElem hj)).2.1
  have h2:l[j]? = some (l[j]'(by omega)):=List.getElem?_eq_getElem (by omega)
  have h3:lastN l (j + 1) = (l[j]'(by omega)).name:=by simp [lastN,h2]
  rw [h3] at h1
  exact ahead (by simpa [ByteArray.toList_eq] using h1)
 have hall:∀ (d i:Nat) (hj:i + d + 1 < l.length),bytesBefore (l[i]'(by omega)).name (l[i + d + 1]).name = true:=fun d=>by
  induction d with
  | zero=>exact fun i hj=>hstep i hj
  | succ d ih =>
   intro i hj
   exact WideShapes.bytes_trans _ _ _ (ih i (by omega)) (hstep (i + d + 1) (by omega))
 refine ⟨⟨fun e he=>?_,List.pairwise_iff_getElem.2 fun i j hi hj hij=>?_,hn,hu⟩,fun e he=>?_⟩
 ·obtain ⟨j,hj⟩:=List.getElem?_of_mem he
  exact (h j e (List.getElem?_eq_some_iff.1 hj).1 hj).1
 ·obtain ⟨d,rfl⟩:∃ d,j = i + d + 1:=⟨j - i - 1,by omega⟩
  exact hall d i hj
 ·obtain ⟨j,hj⟩:=List.getElem?_of_mem he
  exact (h j e (List.getElem?_eq_some_iff.1 hj).1 hj).2.2
section
variable {w w':World} {E:Nat → Addr} {lo p mf mt:Nat} {D:DkC}
structure MInvT (w1 wr:World) (p mf mt B:Nat) (Bs:Int) (l:List SFl) (k:Nat) (T:DataW Unit) (D:DkC):Prop where
 rep:Rep wr w1.heap.size p mf mt D
 pub:D.pub = mountA B Bs l k
 still:D.T = T
 below:Below w1.heap.size w1 wr
theorem MInvT.find {T:DataW Unit} {w1 wr:World} {B k:Nat} {Bs:Int} {l:List SFl} (h:MInvT w1 wr p mf mt B Bs l k T D) (hg:GoodL l) {e:SFl} (he:l[k]? = some e):findE D.ents e.name = none ∧ ∀ y ∈ D.ents,bytesBefore y.name e.name = true:=by
 have hall:∀ y ∈ D.ents,bytesBefore y.name e.name = true:=by
  intro y hy
  have hm:y.pub ∈ (l.take k).map SFl.pub:=by
   have:=congrArg PubA.files h.pub
   simp only [DkC.pub,mountA] at this
   rw [← this]
   exact List.mem_map.2 ⟨y,hy,rfl⟩
  obtain ⟨z,hz,hzy⟩:=List.mem_map.1 hm
  obtain ⟨j,hj,hjz⟩:=List.getElem_of_mem hz
  obtain ⟨hk,rfl⟩:=List.getElem?_eq_some_iff.1 he
  simp at hj
  have hb:=List.pairwise_iff_getElem.1 hg.rising j k (by omega) hk (by omega)
  have hzn:z.name = y.name:=congrArg Prod.fst hzy
  rw [List.getElem_take] at hjz
  rw [hjz,hzn] at hb
  exact hb
 refine ⟨?_,hall⟩
 unfold findE
 rw [List.find?_eq_none]
 intro y hy
 have:=hall y hy
 simp
 intro e1
 rw [e1,WideAt.bytes_irrefl] at this
 cases this
theorem mountT_next {T:DataW Unit} {w1 wr wa wb:World} {B k n:Nat} {Bs:Int} {l:List SFl} {e:SFl} {L:Lay} (h:MInvT w1 wr p mf mt B Bs l k T D) (hg:GoodL l) (he:l[k]? = some e) (hsz:w1.heap.size ≤ wr.heap.size)
  (hta:Tc [] wr wa) (hat:FileAt wa B L e.file) (hfr:∀ b ∈ L.foot,wr.heap.size ≤ b) (hnd:L.foot.Nodup) (hmap:wb.ownsMap Tryz.prog 9 ptrElem mf (n + 1) ((mapOf D.ents).put (.string e.name) (.lit (.int .i64 L.fb)))) (hn:n = D.ents.length) (hgr:wa.grownBy wb (some mf)) :
  Rep wb w1.heap.size p mf mt { D with ents:=D.ents ++ [⟨e.name,e.file,L⟩] } ∧ Below w1.heap.size w1 wb:=by
 subst hn
 obtain ⟨hf,hall⟩:=h.find hg he
 have hBB:D.B = B:=congrArg PubA.B h.pub
 have ht:Tc [mf] wr wb:=(hta.mono (by simp)).grown hgr (by simp)
 have hnm:e.name.length ≤ 32:=by
  have:=name_size (hg.names e (List.mem_of_getElem? he))
  simpa using (show e.name.toArray.size ≤ 32 from this)
 have hmfl:mf < wr.heap.size:=h.rep.files.lt
 have hat':FileAt wb D.B L e.file:=by
  rw [hBB]
  exact hat.kept fun b hb=>hgr.block b (hat.lt b hb) (by have:=hfr b hb; simp; omega)
 have hR:=h.rep.insertFile (e:=⟨e.name,e.file,L⟩) hnm hf ht hfr hsz hnd hat' hmap
 rw [insE_end hall] at hR
 exact ⟨hR,h.below.trans (ht.below hsz (fun b hb=>by simp at hb; subst hb; exact h.rep.base b (by simp [DkC.foot])))⟩
theorem mountT_use {T:DataW Unit} {w1 wb wc:World} {B k:Nat} {Bs:Int} {l:List SFl} {e:SFl} {L:Lay} {wr:World} (h:MInvT w1 wr p mf mt B Bs l k T D) (he:l[k]? = some e) (hR:Rep wc w1.heap.size p mf mt { D with ents:=D.ents ++ [⟨e.name,e.file,L⟩],c:={ D.c with used:=D.c.used + e.file.blocks.length,most:=max D.c.most (D.c.used + e.file.blocks.length) } }) (hb:Below w1.heap.size w1 wb) (ht:Tc [p] wb wc) (hsz:w1.heap.size ≤ wb.heap.size) :
  MInvT w1 wc p mf mt B Bs l (k + 1) T { D with ents:=D.ents ++ [⟨e.name,e.file,L⟩],c:={ D.c with used:=D.c.used + e.file.blocks.length,most:=max D.c.most (D.c.used + e.file.blocks.length) } }:=by
 have hp:=h.pub
 simp only [DkC.pub,mountA,PubA.mk.injEq] at hp
 obtain ⟨h1,h2,h3,h4,h5⟩:=hp
 refine ⟨hR,?_,h.still,hb.trans (ht.below hsz (fun b hb=>by simp at hb; subst hb; exact h.rep.base b (by simp [DkC.foot])))⟩
 simp only [DkC.pub,mountA,PubA.mk.injEq]
 refine ⟨h1,h2,h3,?_,?_⟩
 ·obtain ⟨hk,rfl⟩:=List.getElem?_eq_some_iff.1 he
  rw [List.map_append,h4,List.take_succ_eq_append_getElem hk,List.map_append]
  rfl
 ·rw [h5]
  have hu:=usedN_succ he
  simp only [Cnt.mk.injEq,true_and]
  refine ⟨?_,?_⟩ <;> (rw [hu]; omega)
theorem mount_fileIn {wr X:World} {B:Nat} {s:ByteArray} {x:Bool} {sv:Value} {blocks:List (List UInt8)} {ga:Option Addr} {gn gk:Nat} (h:BlIn wr sv blocks) (hlb:∀ b ∈ blocks,b.length = B) (hsv:sv = .slice ga gn gk) (T:Tc [] wr X) (hB1:64 ≤ B) (hB2:B ≤ 65536) (hn:blocks.length ≤ 1099511627776) :
  Calls Tryz.prog 78 #[.agg #[.string s,.bool x,.slice ga gn gk]] X fun e w'=>∃ L:Lay,e = .returned (ptr L.fb) ∧ FileAt w' B L ⟨x,blocks⟩ ∧ (∀ b ∈ L.foot,X.heap.size ≤ b) ∧ L.foot.Nodup ∧ Below X.heap.size X w':=by
 rw [← hsv]
 exact fileOfIn_any (h.below (T.below (Nat.le_refl _) (by simp))) hlb hB1 hB2 hn
set_option maxRecDepth 100000 in
set_option maxHeartbeats 1000000 in
theorem Mount_go (V:Env w lo E) {B:Nat} {Bs:Int} {fv:Value} {l:List SFl} {ta:Option Addr} {tc:Nat} {tl:List TrA} (h:StIn w fv l) (htl:TrsAt w ta tl) (htn:tl.length ≤ 1099511627776) (hn:l.length ≤ 1099511627776) (hu:usedN l l.length ≤ 1099511627776) (hc:MountV B B Bs l none) :
  Calls Tryz.prog 37 #[.agg #[.int .i64 B,fv],.agg #[.int .i64 B,.int .i64 Bs,.slice ta tl.length tc]] w fun e w'=>∃ p mf mt D,e = .returned (.tuple #[ptr p,.int .i64 0]) ∧ Rep w' w.heap.size p mf mt D ∧ D.pub = mountA B Bs l l.length ∧ TIs D.T tl ∧ Below w.heap.size w w':=by
 obtain ⟨hso,hfo⟩:SetOk B Bs ∧ FilesOk B l l.length:=by
  rcases hc with ⟨_,h1,_,h2,_⟩ | ⟨h,_⟩ | ⟨h,_⟩ | ⟨h,_⟩
  ·exact ⟨h1,h2⟩
  all_goals cases h
 obtain ⟨hg,hlb⟩:=hfo.good hn hu
 obtain ⟨h1,h2,h3,h4,h5⟩:=hso
 have h1:64 ≤ B:=by omega
 have h2:B ≤ 65536:=by omega
 obtain ⟨fa,fc,hfv⟩:=h.sl
 obtain ⟨W,hW⟩:∃ W,W = (w.alloc (.cells #[.int .i64 B,.slice fa l.length fc] 42)).alloc (.cells #[.int .i64 B,.int .i64 Bs,.slice ta tl.length tc] 79):=⟨_,rfl⟩
 have hW1:=heap_two w (.cells #[.int .i64 B,.slice fa l.length fc] 42) (.cells #[.int .i64 B,.int .i64 Bs,.slice ta tl.length tc] 79)
 rw [← hW] at hW1
 have hTW:Below w.heap.size w W:=by rw [hW]; exact ((Below.refl _ w).alloc (Nat.le_refl _) _).alloc (by simp) _
 have HC:=hid (checkMount_in (sB:=B) (B:=B) (Bs:=Bs) (ta:=ta) (tn:=tl.length) (tc:=tc) (V.touch (Tc.of_below (F:=[]) hTW (Nat.le_refl _)) (by simp)) (h.below hTW) hn hu)
 have HEM:=hid (fun (W:World) (hb:Below w.heap.size w W)=>empty_x (B:=B) (Bs:=Bs) (ca:=tc) (htl.below hb) htn)
 rw [hfv] at HC
 have HS:=hid h
 have HG:=hid hg
 have HLB:=hid hlb
 have HFV:=hid hfv
 have HU:=hid hc
 rw [hfv]
 have HE:=hid hW
 have HW:=hid hW1
 have HTW:=hid hTW
 clear h hg hlb hfv h3 hW hW1 hTW hc hfo htl V
 go_enter Tryz.func37,Tryz.ntmps37
 go_wp2_with fail
 rw [← HE.out]
 refine HC.out.mono ?_
 rintro e w0 ⟨⟨d,hd,rfl⟩,hb0⟩
 obtain rfl:d = none:=hd.uniq HU.out
 clear hd
 simp only [errOf]
 have r1:w0.heap[w.heap.size]? = _:=(hb0.block _ (ltB HW.out.1)).trans HW.out.1
 have r2:w0.heap[w.heap.size + 1]? = _:=(hb0.block _ (ltB HW.out.2)).trans HW.out.2
 have b0:=cRw r2 0
 have b1:=cRw r2 1
 have b2:=cRw r2 2
 simp at b0 b1 b2
 have hbw:Below w.heap.size w w0:=HTW.out.trans (hb0.mono HTW.out.size)
 have HR1:=hid r1
 have HBW:=hid hbw
 have lz:w.heap.size + 1 < w0.heap.size:=ltB r2
 clear r1 r2 hb0 hbw
 go_wp2_with fail
 refine (HEM.out _ HBW.out).mono ?_
 rintro e w1 ⟨p,mf,mt,T,rfl,hR1,hTI,hb1⟩
 have q1:w1.heap[w.heap.size]? = _:=(hb1.block _ (ltB HR1.out)).trans HR1.out
 have c1:=cRw q1 1
 simp at c1
 have HI:Hid (MInvT w0 w1 p mf mt B Bs l 0 T (.newT B Bs T)):=⟨hR1,rfl,rfl,hb1⟩
 have HTI:=hid hTI
 clear hR1 hb1 q1 hTI
 go_wp2
 go_loopw [22] (fun i wr=>∃ (k:Nat) (D:DkC),k ≤ l.length ∧ i = .int .i64 k ∧ MInvT w0 wr p mf mt B Bs l k T D) (fun i _=>l.length - (intOf i).toNat)
 case atStart=>exact ⟨0,_,Nat.zero_le _,rfl,HI.out⟩
 case round =>
  obtain ⟨k,D,hk,rfl,hinv⟩:=hrel
  have hfew:=HG.out.few
  have hsz:w0.heap.size ≤ wr.heap.size:=hinv.below.size
  by_cases hlt:k < l.length
  ·obtain ⟨e0,he0⟩:∃ e0,l[k]? = some e0:=⟨l[k],List.getElem?_eq_getElem hlt⟩
   obtain ⟨G,gc,hG⟩:=HS.out.one (by omega)
   rw [HFV.out] at hG
   simp only [Value.slice.injEq,true_and] at hG
   obtain ⟨rfl,rfl⟩:=hG
   have hbwr:Below w.heap.size w wr:=HBW.out.trans (hinv.below.mono HBW.out.size)
   obtain ⟨f0,f1,f2,hbl⟩:=(HS.out.below hbwr).read he0 HFV.out
   have hone:=HG.out.one he0
   have hnm:e0.name.length ≤ 32:=by
    have:=name_size (HG.out.names e0 (List.mem_of_getElem? he0))
    simpa using (show e0.name.toArray.size ≤ 32 from this)
   have hlb0:∀ b ∈ e0.file.blocks,b.length = B:=fun b hb=>by have:=HLB.out e0 (List.mem_of_getElem? he0) b hb; omega
   obtain ⟨ga,gk,hsv⟩:=hbl.sl
   have k3:=hinv.rep.cell 3
   simp only [dRow] at k3
   have lp:=ltB hinv.rep.row
   rw [hsv] at f2
   have HBL:=hid hbl
   have HSV:=hid hsv
   have HL0:=hid hlb0
   have HI:=hid hinv
   have HE0:=hid he0
   have hents:D.ents.length ≤ 1099511627776:=by
    have:=congrArg (fun A:PubA=>A.files.length) hinv.pub
    simp only [DkC.pub,mountA,List.length_map,List.length_take] at this
    omega
   have hBe:D.B = B:=congrArg PubA.B hinv.pub
   have hus:D.c.used = usedN l k:=congrArg (fun A:PubA=>A.c.used) hinv.pub
   have hule:=usedN_le l k
   have hgbl:=HG.out.blocks
   obtain ⟨T0,row0⟩:Tc [] wr (wr.alloc (.cells #[encStr e0.name,.bool e0.file.shut,.slice ga e0.file.blocks.length gk] 113)).drew ∧ (wr.alloc (.cells #[encStr e0.name,.bool e0.file.shut,.slice ga e0.file.blocks.length gk] 113)).drew.heap[wr.heap.size]? = some (.cells #[encStr e0.name,.bool e0.file.shut,.slice ga e0.file.blocks.length gk] 113 (0,0)):=⟨((Tc.refl [] wr).alloc _).drew,heap_alloc_new wr _⟩
   have HT0:=hid T0
   have HRW0:=hid row0
   have hu1:0 ≤ D.c.used:=by omega
   have hu2:D.c.used ≤ 1099511627776:=by omega
   clear hbl hsv hinv he0 hbwr T0 row0 hus hBe hlb0
   go_wp2
   go_region_held3 (fun V=>V.cell? ⟨p,3,none⟩ = some (.map (some mf)) ∧ V.cell? ⟨wr.heap.size,0,none⟩ = some (encStr e0.name) ∧ V.cell? ⟨wr.heap.size,1,none⟩ = some (.bool e0.file.shut) ∧ V.cell? ⟨wr.heap.size,2,none⟩ = some (.slice ga e0.file.blocks.length gk)) (go_keep)
    (first
     |(go_at_call 79; refine (ownName_any ⟨e0.name.toArray⟩ _ ?_).mono ?_; exact Nat.le_trans (show e0.name.toArray.size ≤ 32 by simpa using hnm) (by omega); rintro e w3 ⟨rfl,hb3⟩; obtain ⟨T3,row3,x0,x1,x2,x3⟩:=mount_arm HI.out.rep HT0.out HRW0.out hb3; have HT3:=hid T3; have HRW3:=hid row3; clear hb3 T3 row3)
     |(go_at_call 78; refine (mount_fileIn HBL.out HL0.out HSV.out HT3.out h1 h2 hone).mono ?_; rintro e w4 ⟨L,rfl,hat,hfr,hnd,hb4⟩; obtain ⟨T4,row4,y0,y1,y2,y3⟩:=mount_arm HI.out.rep HT3.out HRW3.out hb4; obtain ⟨wA,hA,mA,gA,z0,z1,z2,z3⟩:=mount_upd HI.out.rep T4 row4 hents hnm L.fb; have HT4:=hid T4; have HRW4:=hid row4; have HAT4:=hid hat; have HFR:=hid hfr; have HND:=hid hnd; have HMA:=hid mA; have HGA:=hid gA; have HS3:=hid HT3.out.size; clear hb4 T4 row4 mA gA hat hfr hnd))
   have hnx:=mountT_next HI.out HG.out HE0.out hsz HT4.out HAT4.out (fun b hb=>Nat.le_trans HS3.out (HFR.out b hb)) HND.out HMA.out rfl HGA.out
   have HNX:=hid hnx
   have HSA:Hid (w0.heap.size ≤ wA.heap.size):=Nat.le_trans hsz (Nat.le_trans HT4.out.size HGA.out.size)
   clear hnx
   go_wp2_with (go_at_call 80; refine (use_any HNX.out.1 _ hu1 hu2 (by omega) (by omega)).mono ?_; rintro e w5 ⟨rfl,hR5,ht5⟩; have HM:=hid (mountT_use HI.out HE0.out hR5 HNX.out.2 ht5 HSA.out); clear hR5 ht5)
   go_roundw
   case rel=>first | exact ⟨k + 1,_,by omega,by go_num,HM.out⟩ | ((repeat apply Exists.intro); exact ⟨⟨k + 1,_,by omega,by go_num,HM.out⟩,rfl⟩)
   case measure=>simp [intOf]; omega
  ·have hkk:k = l.length:=by omega
   subst hkk
   have HI:=hid hinv
   clear hinv
   go_wp2
   go_ret2
   have hz:=HBW.out.size
   exact ⟨p,mf,mt,D,rfl,HI.out.rep.lower hz,HI.out.pub,by have h9:=HI.out.still; rw [h9]; exact HTI.out,HBW.out.trans (HI.out.below.mono hz)⟩
end
set_option linter.unusedSimpArgs false
set_option linter.unusedVariables false
theorem rfit_any {B:Nat} (h1:64 ≤ B) (h2:B ≤ 65536) (h3:B % 32 = 0) (w:World):Calls Tryz.prog 38 #[.int .i64 (B:Int)] w fun e w'=>e = .returned (.int .i64 ((B / 32 - 1:Nat):Int)) ∧ w' = w:=by
 have a1:¬ (B:Int) < 64:=by omega
 have a2:¬ (B:Int) > 65536:=by omega
 have hm:(B:Int).tmod 32 = (B:Int) % 32:=Int.tmod_eq_emod_of_nonneg (by omega)
 have hq:(B:Int).tdiv 32 = (B:Int) / 32:=Int.tdiv_eq_ediv_of_nonneg (by omega)
 have a3:(B:Int) % 32 = 0:=by omega
 have HB:=hid (show (B:Int) / 32 - 1 = ((B / 32 - 1:Nat):Int) by omega)
 clear h3
 go_enter Tryz.func38,Tryz.ntmps38
 go_wp2
 go_ret
 rw [← HB.out]
 exact ⟨rfl,rfl⟩
section
variable {w w':World} {b:Bn} {n:Nat} {A:PubA} {s:Pu.St} {F:List Nat} {kb:Nat} {K:Nat} {T:Int} {x:ByteArray}
theorem NewDesk_ok (S:Std w b n A s F) (hA:Fits A K) (hK:1 ≤ K):Calls Tryz.prog 40 #[ptr b.p,ptr b.q] w fun e w'=>∃ kb,e = .returned (.tuple #[ptr kb,.int .i64 0]) ∧ DkA w' kb b K 1 ∧ Tc [] w w' ∧ w.heap.size ≤ kb:=by
 have HB:=hid (fun W (t:Tc [] w W)=>block_s (S.quiet t))
 have hf:Rx.fitN (A.B:Int) = (K:Int):=by
  unfold Rx.fitN
  have h1:=hA.h64
  have h2:=hA.hmax
  have h3:=hA.h32
  have h4:=hA.k
  rw [if_pos (by omega)]
  omega
 have HF:=hid (fun W=>Rx.fit_any (A.B:Int) W)
 rw [hf] at HF
 have hne:¬ (K:Int) = 0:=by omega
 clear S hA hf
 go_enter Tryz.func40,Tryz.ntmps40
 go_wp2_with (first
  |(go_at_call 81; refine (HF.out _).mono ?_; rintro e w1 ⟨rfl,hh⟩; have hh:=hh.symm; subst hh)
  |(go_at_call 82; refine (HB.out _ (Tc.refl _ _)).mono ?_; rintro e w1 ⟨rfl,hh⟩; have hh:=hh.symm; subst hh))
 go_ret2
 exact ⟨w.heap.size,rfl,heap_alloc_new w _,(Tc.refl [] w).alloc _,Nat.le_refl _⟩
end
theorem box3 {w2:World} {b:Nat} {t:TypeId} {u0 u1 u2:Value} (hr:w2.heap[b]? = some (.cells #[u0,u1,u2] t (0,0))) (v0 v1 v2:Value) :
  ∃ W2,W2 = (((w2.setCell ⟨b,0,none⟩ v0).setCell ⟨b,1,none⟩ v1).setCell ⟨b,2,none⟩ v2) ∧ W2.heap[b]? = some (.cells #[v0,v1,v2] t (0,0)) ∧ Tc [b] w2 W2:=by
 refine ⟨_,rfl,?_,?_⟩
 ·have h0:=sRw hr 0 v0
  have h1:=sRw h0 1 v1
  have h2:=sRw h1 2 v2
  simpa using h2
 ·exact (((Tc.refl [b] w2).setCell (by simp) _).setCell (by simp) _).setCell (by simp) _
theorem total_mount {l:List SFl}:total (l.map SFl.pub) = usedN l l.length:=by
 unfold total usedN
 rw [List.take_length,List.map_map]
 rfl
theorem IB.mounted {B:Nat} {Bs:Int} {l:List SFl} {t:Nat} (hs:SetOk B Bs) (hg:GoodL l) (h1:l.length ≤ t) (h2:usedN l l.length ≤ t):IB t (mountA B Bs l l.length):=by
 have e1:(mountA B Bs l l.length).files = l.map SFl.pub:=by simp [mountA]
 refine ⟨⟨?_,?_⟩,?_,?_,?_,?_,?_,?_,?_,?_,?_,?_⟩
 ·have:=hs.1
  show 64 ≤ B
  omega
 ·have:=hs.2.1
  show B ≤ 65536
  omega
 ·exact ⟨Int.le_refl _,by show (0:Int) ≤ t; omega⟩
 ·exact ⟨Int.le_refl _,by show (0:Int) ≤ t; omega⟩
 ·exact ⟨Int.le_refl _,by show (0:Int) ≤ t; omega⟩
 ·exact ⟨Int.le_refl _,by show (0:Int) ≤ t; omega⟩
 ·exact ⟨Int.le_refl _,by show (0:Int) ≤ t; omega⟩
 ·rw [e1,total_mount]
  rfl
 ·exact Int.le_refl _
 ·rw [e1,total_mount]
  exact h2
 ·rw [e1,List.length_map]
  exact h1
 ·rw [e1]
  exact List.pairwise_map.2 hg.rising
section
variable {w w':World}
theorem stand_mount {E:Nat → Addr} {lo p mf mt q lb n B:Nat} {l:List SFl} {tl:List TrA} {D:DkC} (V:Env w lo E) (R:Rep w lo p mf mt D) (hD:D.pub = mountA B 1099511627776 l l.length) (hT:TIs D.T tl) (hs:SetOk B 1099511627776) (hg:GoodL l) (h1:l.length ≤ n) (h2:usedN l l.length ≤ n) {lim:Int} (hl:0 ≤ lim ∧ lim ≤ 9223372036854775807) (hp:Pu.PurseAt w q (.new lim lb)) (hlk:Pu.LockAt w lb 0) (hne:q ≠ lb) (hq:q ∉ D.foot p mf mt) (hlb:lb ∉ D.foot p mf mt) (hlo:lo ≤ q ∧ lo ≤ lb) :
  Std w ⟨E,lo,p,mf,mt,q,tl⟩ n (mountA B 1099511627776 l l.length) (.new lim lb) (q :: lb :: D.foot p mf mt):=by
 refine ⟨⟨_,⟨D,R,hD,hT.from _,rfl⟩,rfl,hq,hlb⟩,V,IB.mounted hs hg h1 h2,hp,hlk,?_,hne,hlo⟩
 exact ⟨by simp,by simp,by simp; exact hl.1,hl.2,by simp,by simp,by simp,by simp; exact hl.1⟩
set_option maxHeartbeats 4000000 in
theorem open_ok {E:Nat → Addr} {lo B:Nat} {fv:Value} {l:List SFl} {ta:Option Addr} {tc n:Nat} {tl:List TrA} (V:Env w lo E) (hlo:lo ≤ w.heap.size) (h:StIn w fv l) (htl:TrsAt w ta tl) (htn:tl.length ≤ 1099511627776) (h1:l.length ≤ n) (h2:usedN l l.length ≤ n) (hn:n ≤ 1099511627776) (hc:MountV B B 1099511627776 l none) (hB:64 ≤ B ∧ B ≤ 65536 ∧ B % 32 = 0) (extra:Nat) (hx:extra ≤ 1048576) :
  Calls Tryz.prog 14 #[.agg #[.int .i64 (B:Int),fv],.int .i64 (extra:Int),.slice ta tl.length tc] w fun e w'=>∃ b kb lb F,e = .returned (.tuple #[.agg #[ptr b.p,ptr b.q,ptr kb],.bool true]) ∧ b.lo = lo ∧ b.E = E ∧ b.l = tl ∧ Tc [] w w' ∧
   Std w' b n (mountA B 1099511627776 l l.length) (.new ((64 * (B / 32 - 1) + extra:Nat):Int) lb) F ∧ DkA w' kb b ((B / 32 - 1:Nat):Int) 1 ∧ kb ∉ F ∧ w.heap.size ≤ kb ∧ kb < w'.heap.size ∧ ∀ y ∈ F,w.heap.size ≤ y:=by
 obtain ⟨hso,hfo⟩:SetOk B 1099511627776 ∧ FilesOk B l l.length:=by
  rcases hc with ⟨_,h1,_,h2,_⟩ | ⟨h,_⟩ | ⟨h,_⟩ | ⟨h,_⟩
  ·exact ⟨h1,h2⟩
  all_goals cases h
 obtain ⟨K,hK⟩:∃ K,K = B / 32 - 1:=⟨_,rfl⟩
 have hK2:1 ≤ K ∧ K ≤ 2047:=by omega
 have HF:=hid (fun W=>rfit_any hB.1 hB.2.1 hB.2.2 W)
 rw [← hK] at HF ⊢
 obtain ⟨fa,fc,hfv⟩:=h.sl
 have HM:=hid (fun W (tt:Tc [] w W) (hb:Below w.heap.size w W)=>Mount_go (Bs:=1099511627776) (tc:=tc) (V.touch tt (by simp)) (h.below hb) (htl.below hb) htn (by omega) (by omega) hc)
 rw [hfv] at HM
 have HP:=hid (fun W=>Pu.new_any (n:=((64 * K + extra:Nat):Int)) (by omega) W)
 have hw1:IntKind.i64.wrap (64 * (K:Int)) = 64 * (K:Int):=by rw [IntKind.wrap_i64]; omega
 have hw2:IntKind.i64.wrap (64 * (K:Int) + (extra:Int)) = ((64 * K + extra:Nat):Int):=by rw [IntKind.wrap_i64]; omega
 have HV:=hid V
 have HG:=hid (hfo.good (by omega) (by omega)).1
 have HSO:=hid hso
 have HKB:=hid (And.intro hK hB)
 rw [hfv]
 clear h htl V hc hso hfo hfv hK hB
 have HT0:Hid (Tc [] w ((w.alloc (.cells #[.int .i64 (B:Int),.slice fa l.length fc] 42)).alloc (.cells #[.pointer none,.pointer none,.pointer none] 36))):=hid (((Tc.refl [] w).alloc _).alloc _)
 have HB0:Hid (Below w.heap.size w ((w.alloc (.cells #[.int .i64 (B:Int),.slice fa l.length fc] 42)).alloc (.cells #[.pointer none,.pointer none,.pointer none] 36))):=hid (((Below.refl _ w).alloc (Nat.le_refl _) _).alloc (by simp) _)
 have HR0:=hid (heap_two w (.cells #[.int .i64 (B:Int),.slice fa l.length fc] 42) (.cells #[.pointer none,.pointer none,.pointer none] 36))
 go_enter Tryz.func14,Tryz.ntmps14
 go_upto_region 8 with (first
  |(go_at_call 39; refine (HP.out _).mono ?_; rintro e w3 ⟨q,lb,rfl,hq1,hq2,hq3,hq4,hq5,hq6⟩; have HQ:=hid (And.intro hq1 (And.intro hq2 (And.intro hq3 (And.intro hq4 (And.intro hq5 hq6))))); clear hq1 hq2 hq3 hq4 hq5 hq6)
  |(go_at_call 38; refine (HF.out _).mono ?_; rintro e w2 ⟨rfl,hh⟩; have hh:=hh.symm; subst hh)
  |(go_at_call 37; refine (HM.out _ HT0.out HB0.out).mono ?_; rintro e w1 ⟨p,mf,mt,D,rfl,hrep,hpub,hT,hbl⟩; have HREP:=hid (And.intro hrep (And.intro hpub (And.intro hT hbl))); have c1:=cRw ((hbl.block _ (by simp; omega)).trans HR0.out.1) 0; simp only [List.getElem?_toArray,List.getElem?_cons_zero] at c1; clear hrep hpub hT hbl))
 obtain ⟨hrep,hpub,hT,hbl⟩:=HREP.out
 obtain ⟨hq1,hq2,hq3,hq4,hq5,hq6⟩:=HQ.out
 have hs0:((w.alloc (.cells #[.int .i64 (B:Int),.slice fa l.length fc] 42)).alloc (.cells #[.pointer none,.pointer none,.pointer none] 36)).heap.size = w.heap.size + 2:=by simp
 have t1:Tc [] w w1:=HT0.out.trans (Tc.of_below (F:=[]) hbl (Nat.le_refl _)) (by simp)
 have hs1:=hbl.size
 have hs12:w.heap.size + 2 ≤ w1.heap.size:=by omega
 have tw3:Tc [] w w3:=t1.trans hq6 (by simp)
 have hfoot:∀ y ∈ D.foot p mf mt,w.heap.size + 2 ≤ y ∧ y < w1.heap.size:=fun y hy=>⟨by have:=hrep.base y hy; omega,hrep.lt y hy⟩
 have nq:q ∉ D.foot p mf mt:=fun h=>by have:=(hfoot q h).2; omega
 have nl:lb ∉ D.foot p mf mt:=fun h=>by have:=(hfoot lb h).2; omega
 have HS3:Hid (Std w3 ⟨E,lo,p,mf,mt,q,tl⟩ n (mountA B 1099511627776 l l.length) (.new ((64 * K + extra:Nat):Int) lb) (q :: lb :: D.foot p mf mt)):=
  hid (stand_mount (HV.out.touch tw3 (by simp)) ((hrep.lower (by omega)).touch hq6 (by simp)) hpub hT HSO.out HG.out h1 h2 (by omega) hq4 hq5 hq3 nq nl (by omega))
 have HND:=hid (NewDesk_ok (K:=K) HS3.out ⟨HKB.out.2.1,HKB.out.2.2.1,HKB.out.2.2.2,HKB.out.1⟩ hK2.1)
 have hr3:=(hq6.block _ (by have:=hs1; omega) (by simp)).trans ((hbl.block _ (by simp)).trans HR0.out.2)
 have HR3:=hid hr3
 have HTW:=hid tw3
 have HFO:=hid hfoot
 have HQS:=hid (And.intro hq1 hq2)
 have hrow:w.heap.size + 1 < w3.heap.size:=ltB hr3
 clear hrep hpub hT hbl hq1 hq2 hq3 hq4 hq5 hq6 hs0 t1 hs1 tw3 hfoot nq nl hr3 HREP HQ c1
 go_upto_region 9 with (go_at_call 40; refine (HND.out).mono ?_; rintro e w4 ⟨kb,rfl,hkd,ht4,hkb⟩; have HKD:=hid (And.intro hkd (And.intro ht4 hkb)); clear hkd ht4 hkb)
 obtain ⟨hkd,ht4,hkb⟩:=HKD.out
 have hr4:=(ht4.block _ hrow (by simp)).trans HR3.out
 obtain ⟨W5,e5,hr5,t5⟩:=box3 hr4 (ptr p) (ptr q) (ptr kb)
 have u4:=fun i=>uRw hr4 i
 have c4:=fun i=>cRw hr4 i
 have HE5:=hid e5
 have H5:=hid (And.intro hr5 t5)
 clear hkd ht4 hkb hr4 e5 hr5 t5
 go_wp2_with fail
 rw [← HE5.out]
 have q5:=fun i=>cRw H5.out.1 i
 refine bodyPost_ret (v:=.tuple #[.agg #[ptr p,ptr q,ptr kb],.bool true]) (by simp [results,Tryz.results14,go_sem,q5]) rfl ?_
 obtain ⟨hkd,ht4,hkb⟩:=HKD.out
 have h45:=H5.out.2
 have hh3:=HTW.out.size
 have hw5:Tc [] w W5:=(HTW.out.trans ht4 (by simp)).trans h45 (fun y hy=>by simp at hy; subst hy; exact .inr (by omega))
 have hq9:=HQS.out
 have hlow:lo ≤ w.heap.size:=hlo
 have hnF:w.heap.size + 1 ∉ (q :: lb :: D.foot p mf mt):=fun hx=>by
  rcases List.mem_cons.1 hx with h | h
  ·have:=HQS.out.1; have:=H5.out; omega
  ·rcases List.mem_cons.1 h with h | h
   ·have:=HQS.out.2; omega
   ·have:=(HFO.out _ h).1; omega
 refine ⟨⟨E,lo,p,mf,mt,q,tl⟩,kb,lb,(q :: lb :: D.foot p mf mt),rfl,rfl,rfl,rfl,hw5,(HS3.out.quiet ht4).touch h45 (fun y hy=>by simp at hy; subst hy; exact ⟨hnF,by show lo ≤ _; omega⟩),hkd.touch h45 (by simp; omega),fun hx=>?_,by omega,Nat.lt_of_lt_of_le (ltB hkd) h45.size,fun y hy=>?_⟩
 ·have:=HS3.out.lt _ hx; omega
 ·rcases List.mem_cons.1 hy with rfl | h
  ·have:=HQS.out.1; omega
  ·rcases List.mem_cons.1 h with rfl | h
   ·have:=HQS.out.2; omega
   ·have:=(HFO.out _ h).1; omega
end
theorem digH_hex:∀ d,d < 16 → digH (PureHex.hexC d).toNat = d:=by decide
theorem parH_hex:∀ (k u:Nat) (r:List UInt8),k ≤ 16 → parH 0 (PureHex.hexW k u ++ r) = parH (u % 16 ^ k) r
 | 0,u,r,_=>by simp [PureHex.hexW,Nat.mod_one]
 | k + 1,u,r,hk=>by
  have h1:(u / 16) % 16 ^ k < 16 ^ k:=Nat.mod_lt _ (Nat.pow_pos (by decide))
  have h2:16 ^ k ≤ 16 ^ 15:=Nat.pow_le_pow_right (by decide) (by omega)
  have h3:(16:Nat) ^ 15 = 1152921504606846976:=by decide
  have hd:=digH_hex (u % 16) (Nat.mod_lt _ (by decide))
  have hl:u % 16 < 16:=Nat.mod_lt _ (by decide)
  rw [PureHex.hexW,List.append_assoc,parH_hex k (u / 16) _ (by omega),List.singleton_append,parH_on (by rw [hd]; omega) (by omega),hd]
  have e:u % 16 ^ (k + 1) = u % 16 + 16 * (u / 16 % 16 ^ k):=by rw [Nat.pow_succ,Nat.mul_comm,Nat.mod_mul]
  rw [e]
  congr 1
  omega
theorem genN_cat {g:Nat} (hg:g < 18446744073709551616):genN (catN g) = g:=by
 have h1:trimC (catN g) = PureHex.hexW 16 g:=by
  unfold trimC catN
  rw [if_pos (by rfl)]
  rfl
 have h2:parU (PureHex.hexW 16 g) = (g,0):=by
  unfold parU
  rw [if_neg (by intro h; have:=PureHex.hexW_len 16 g; rw [h] at this; cases this)]
  have:=parH_hex 16 g [] (by omega)
  rw [List.append_nil] at this
  rw [this,Nat.mod_eq_of_lt (by omega)]
  rfl
 unfold genN
 rw [h1,h2]
 rw [if_pos ⟨rfl,rfl⟩]
theorem nm_bs (l:List UInt8):nm (bs l) = l:=rfl
theorem LayOk.tap {b:Bn} {A:PubA} {x:ByteArray} {kind K:Nat} {l:List Rc} (C:LayOk b A x kind K l) (c:Int):TapX b (mkX A x true (bkO kind K A.B l (nBk K l.length)) c) x K kind (bkO kind K A.B l (nBk K l.length)) l:=
 ⟨C.nil,⟨C.new.on,C.new.name,find_ins C.new.none⟩,fits_mkX C.fit,C.hK,C.k1,C.k2,C.small,C.len,blocksOf_length _ _ _ _ _,fun j hj=>by
  rw [blocksOf_length] at hj
  exact blocksOf_get hj⟩
abbrev tblF:Tbl:=⟨2,[1,0],[],5,9⟩
abbrev dskF:PubA:=mountA 64 1099511627776 [] 0
theorem formedF:fmB tblF = true:=by decide
theorem numF:tblF.Num:=⟨by decide,by decide,by decide,by decide,by decide⟩
theorem namesF (A:PubA) (h:A.on = true) (x:List UInt8) (f:FlA) (hf:A.files = [(x,f)]):namesA A = [bs x]:=by
 unfold namesA
 rw [if_pos h,hf]
 rfl
theorem putF_files:(putA dskF 1 tblF 1).files = [(catN 1,⟨true,bkO 5 1 64 (recsN tblF 1) (nBk 1 (recsN tblF 1).length)⟩)]:=rfl
theorem namesPF:namesA (putA dskF 1 tblF 1) = [bs (catN 1)]:=namesF _ rfl _ _ putF_files
theorem hexC_name:∀ d,d < 16 → nbB (PureHex.hexC d).toNat = true:=by decide
theorem hexW_name:∀ (k u:Nat),∀ c ∈ PureHex.hexW k u,nbB c.toNat = true
 | 0,u,c,h=>by cases h
 | k + 1,u,c,h=>by
  rw [PureHex.hexW] at h
  rcases List.mem_append.1 h with h | h
  ·exact hexW_name k _ c h
  ·rw [List.mem_singleton] at h
   subst h
   exact hexC_name _ (Nat.mod_lt _ (by decide))
theorem nameCat (g:Nat):nameB (bs (catN g)) = true:=by
 have h1:(bs (catN g)).size = 20:=by
  show (catN g).toArray.size = 20
  rw [List.size_toArray,catN_len]
 have h2:(bs (catN g)).data.toList.all (fun c=>nbB c.toNat) = true:=by
  show (catN g).all _ = true
  rw [List.all_eq_true]
  intro c hc
  unfold catN at hc
  rcases List.mem_append.1 hc with h | h
  ·simp only [List.mem_cons,List.not_mem_nil,or_false] at h
   rcases h with rfl | rfl | rfl | rfl <;> rfl
  ·exact hexW_name _ _ c h
 unfold nameB
 rw [h1,h2]
 rfl
theorem layF (b:Bn) (hb:b.l = []):LayOk b dskF (bs (catN 1)) 5 1 (recsN tblF 1):=
 ⟨hb,⟨rfl,nameCat 1,rfl⟩,⟨by decide,by decide,by decide,by decide⟩,by omega,by decide,by decide,recs_small numF (by decide) (by decide),by decide,by decide⟩
theorem tidyF (b:Bn):tidyB b (filesN tblF.rows ++ [catN 1]) (putA dskF 1 tblF 1) = (0,putA dskF 1 tblF 1):=by
 unfold tidyB
 rw [namesPF,tidyL_kept (by rw [nm_bs]; simp)]
 rfl
theorem newestF:newestA (putA dskF 1 tblF 1) = 1:=by
 have hg:genN (nm (bs (catN 1))) = 1:=genN_cat (by decide)
 have hH:Has (putA dskF 1 tblF 1) (bs (catN 1)) (bkO 5 1 64 (recsN tblF 1) (nBk 1 (recsN tblF 1).length)):=⟨rfl,nameCat 1,find_ins (l:=dskF.files) rfl⟩
 have hl:=length_has hH
 unfold newestA
 rw [namesPF]
 show stepN (putA dskF 1 tblF 1) 0 (bs (catN 1)) = 1
 unfold stepN
 rw [hg,hl,if_pos ⟨by decide,rfl,rfl⟩]
end Go.Proofs.YthehcjjckabljaaGreatDoor
