import Derived.Deep.RegionLaw
import Derived.Test.YthehcjjckabljaaGreatDoorC01
namespace Go.Proofs.YthehcjjckabljaaGreatDoor
open Go.RowKit Go.Deep
structure Env (w:World) (lo:Nat) (E:Nat → Addr):Prop where
 sents:Sents w E
 vars:11 ≤ lo
 objs:∀ i,i < 11 → (E i).block < lo
 room:lo ≤ w.heap.size
theorem Env.touch {w w':World} {lo:Nat} {E:Nat → Addr} {F:List Nat} (h:Env w lo E) (ht:Tc F w w') (hF:∀ b ∈ F,lo ≤ b):Env w' lo E:=
 ⟨h.sents.below (ht.below h.room hF) h.vars h.objs,h.vars,h.objs,Nat.le_trans h.room ht.size⟩
section
variable {w w':World} {E:Nat → Addr} {lo p mf mt:Nat} {D:DkC}
theorem Rep.alloc (R:Rep w lo p mf mt D) (o:Obj):Rep (w.alloc o) lo p mf mt D:=R.touch (F:=[]) ((Tc.refl _ _).alloc _) (by simp)
theorem Rep.drewN (R:Rep w lo p mf mt D) (n:Nat):Rep (w.drewN n) lo p mf mt D:=R.kept fun _ _=>rfl
theorem Tc.drewN {F:List Nat} {a:World} (h:Tc F a w) (n:Nat):Tc F a (w.drewN n):=⟨h.os,h.tape,h.output,h.size,h.block⟩
theorem Env.alloc (h:Env w lo E) (o:Obj):Env (w.alloc o) lo E:=h.touch (F:=[]) ((Tc.refl _ _).alloc _) (by simp)
theorem Env.drewN (h:Env w lo E) (n:Nat):Env (w.drewN n) lo E:=h.touch (F:=[]) ((Tc.refl _ _).drewN n) (by simp)
set_option maxRecDepth 100000 in
set_option maxHeartbeats 400000 in
theorem carry_create (R:Rep w lo p mf mt D) {s:ByteArray} {a k b:Int} (bd bn:Nat) (hk1:(k == 1) = false) (hk2:(k == 2) = false) (hs:s.size ≤ 32) (hfind:findE D.ents (nm s) = none) (hlo:lo ≤ w.heap.size) (hsmall:D.ents.length ≤ 1099511627776)
  (hbd:w.heap[bd]? = some (.cells #[ptr p] 32 (0,0))) (hbn:w.heap[bn]? = some (.cells #[.string s] 9 (0,0))) :
  Calls Tryz.prog 87 #[ptr p,.agg #[.int .i64 a,.int .i64 k,.int .i64 b],.func (.func 89) #[] #[ptr bd,ptr bn]] w fun e w'=>e = .returned .nilIface ∧ (∃ fb,w.heap.size ≤ fb ∧ Rep w' lo p mf mt { D with ents:=insE ⟨nm s,⟨false,[]⟩,⟨fb,.slice none 0 0,[]⟩⟩ D.ents }) ∧ Tc [mf] w w':=by
 have k0:=R.cell 0
 simp only [dRow] at k0
 have hp:=ltB R.row
 have lbd:=ltB hbd
 have lbn:=ltB hbn
 have H:=hid (fun o:Obj=>create1_any (R.alloc o) (D.B:Int) bd bn hs hfind (Nat.le_trans hlo (by simp)) hsmall ((Below.heap_alloc w o bd lbd).trans hbd) ((Below.heap_alloc w o bn lbn).trans hbn))
 clear hbd hbn hfind
 go_enter Tryz.func87,Tryz.ntmps87
 go_wp2_with (go_at_call 89; refine (H.out _).mono ?_; rintro e w1 ⟨rfl,⟨fb,hfb,hR⟩,ht⟩)
 go_ret
 have h1:Tc [mf] w w1:=((Tc.refl [mf] w).alloc _).trans ht (by simp)
 exact ⟨rfl,⟨fb,Nat.le_trans (by simp) hfb,hR⟩,h1⟩
set_option maxHeartbeats 400000 in
theorem create_err (V:Env w lo E) (s:ByteArray) (i:Nat) (hi:i < 11) (h4:i ≠ 4)
  (hf:∀ o1 o2:Obj,Calls Tryz.prog 86 #[ptr p,.string s] ((w.alloc o1).alloc o2) fun e w'=>e = .returned (.tuple #[.pointer none,errV E i]) ∧ ∃ n,w' = ((w.alloc o1).alloc o2).drewN n) :
  Calls Tryz.prog 43 #[ptr p,.string s] w fun e w'=>e = .returned (errV E i) ∧ Tc [] w w':=by
 have H:=hid hf
 have H2:=hid (fun (o1 o2:Obj) (n:Nat)=>is_at (((V.alloc o1).alloc o2).drewN n).sents i 4 hi (by omega))
 have c4:∀ (o1 o2:Obj) (n:Nat),(((w.alloc o1).alloc o2).drewN n).cell? ⟨3,0,none⟩ = some (errV E 4):=fun o1 o2 n=>(((V.alloc o1).alloc o2).drewN n).sents.var4
 have hd:decide (i = 4) = false:=by simp [h4]
 clear hf h4 hi
 go_enter Tryz.func43,Tryz.ntmps43
 go_wp2_with (first | (go_at_call 86; refine (H.out _ _).mono ?_; rintro e w1 ⟨rfl,n,rfl⟩) | (go_at_call 85; refine (H2.out _ _ _).mono ?_; rintro e w1 ⟨rfl,rfl⟩))
 go_ret
 exact ⟨rfl,(((Tc.refl [] w).alloc _).alloc _).drewN _⟩
theorem create_off (V:Env w lo E) (R:Rep w lo p mf mt D) (s:ByteArray) (ho:D.on = false) :
  Calls Tryz.prog 43 #[ptr p,.string s] w fun e w'=>e = .returned (errV E 2) ∧ Tc [] w w':=
 create_err V s 2 (by omega) (by omega) fun o1 o2=>find_off ((V.alloc o1).alloc o2).sents ((R.alloc o1).alloc o2) s ho
theorem create_bad (V:Env w lo E) (R:Rep w lo p mf mt D) (s:ByteArray) (ho:D.on = true) (hn:nameB s = false) :
  Calls Tryz.prog 43 #[ptr p,.string s] w fun e w'=>e = .returned (errV E 3) ∧ Tc [] w w':=
 create_err V s 3 (by omega) (by omega) fun o1 o2=>find_bad ((V.alloc o1).alloc o2).sents ((R.alloc o1).alloc o2) s ho hn
set_option maxHeartbeats 400000 in
theorem create_there (V:Env w lo E) (R:Rep w lo p mf mt D) (s:ByteArray) (ho:D.on = true) (hn:nameB s = true) {e0:Ent} (hf:findE D.ents (nm s) = some e0) :
  Calls Tryz.prog 43 #[ptr p,.string s] w fun e w'=>e = .returned (errV E 5) ∧ Tc [] w w':=by
 have H:=hid (fun o1 o2:Obj=>find_some ((R.alloc o1).alloc o2) s ho hn hf)
 have c5:∀ (o1 o2:Obj) (n:Nat),(((w.alloc o1).alloc o2).drewN n).cell? ⟨2,0,none⟩ = some (errV E 5):=fun o1 o2 n=>(((V.alloc o1).alloc o2).drewN n).sents.var5
 clear hf
 go_enter Tryz.func43,Tryz.ntmps43
 go_wp2_with (go_at_call 86; refine (H.out _ _).mono ?_; rintro e w1 ⟨rfl,n,rfl⟩)
 go_ret
 exact ⟨rfl,(((Tc.refl [] w).alloc _).alloc _).drewN _⟩
def DkC.numbered (D:DkC):DkC:={ D with T:=D.T.del (.int .i64 D.c.calls),c:={ D.c with calls:=D.c.calls + 1 } }
theorem number_row {W w2:World} {b:Nat} {o:Obj} {n:Nat} (hb:W.heap[b]? = some o) (ht:Tc [p,mt] (W.drewN n) w2) (h1:p < b) (h2:mt < b):w2.heap[b]? = some o:=
 (ht.block b (ltB (w:=W) hb) (by simp; omega)).trans hb
theorem number_box {W w2:World} {b:Nat} {v:Value} {t:TypeId} {n:Nat} (hb:W.heap[b]? = some (.cells #[v] t)) (ht:Tc [p,mt] (W.drewN n) w2) (h1:p < b) (h2:mt < b):w2.cell? ⟨b,0,none⟩ = some v:=
 cRw (number_row hb ht h1 h2) 0
set_option maxRecDepth 100000 in
set_option maxHeartbeats 400000 in
theorem create_ok (V:Env w lo E) (R:Rep w lo p mf mt D) (s:ByteArray) (ho:D.on = true) (hn:nameB s = true) (hf:findE D.ents (nm s) = none) {a k b:Int} (hT:TrI D.T D.c.calls a k b) (hk1:(k == 1) = false) (hk2:(k == 2) = false)
  (h0:0 ≤ D.c.calls) (h1:D.c.calls ≤ 1099511627776) (hsmall:D.ents.length ≤ 1099511627776) :
  Calls Tryz.prog 43 #[ptr p,.string s] w fun e w'=>e = .returned .nilIface ∧ (∃ fb,w.heap.size ≤ fb ∧ Rep w' lo p mf mt { D.numbered with ents:=insE ⟨nm s,⟨false,[]⟩,⟨fb,.slice none 0 0,[]⟩⟩ D.ents }) ∧ Tc [p,mf,mt] w w':=by
 obtain ⟨W,hW⟩:∃ W,W = (w.alloc (.cells #[ptr p] 32)).alloc (.cells #[.string s] 9):=⟨_,rfl⟩
 have hW1:W.heap[w.heap.size]? = some (.cells #[ptr p] 32) ∧ W.heap[w.heap.size + 1]? = some (.cells #[.string s] 9):=by rw [hW]; exact heap_two w _ _
 have hTW:Tc [] w W:=by rw [hW]; exact ((Tc.refl [] w).alloc _).alloc _
 have VW:Env W lo E:=V.touch hTW (by simp)
 have RW:Rep W lo p mf mt D:=R.touch hTW (by simp)
 have H:=hid (find_none VW.sents RW s ho hn hf)
 have H2:=hid (fun n:Nat=>is_at (VW.drewN n).sents 4 4 (by omega) (by omega))
 have c4:∀ n:Nat,(W.drewN n).cell? ⟨3,0,none⟩ = some (errV E 4):=fun n=>(VW.drewN n).sents.var4
 have cd:∀ n:Nat,(W.drewN n).cell? ⟨w.heap.size,0,none⟩ = some (ptr p):=fun n=>cRw (w:=W.drewN n) hW1.1 0
 have cn:∀ n:Nat,(W.drewN n).cell? ⟨w.heap.size + 1,0,none⟩ = some (.string s):=fun n=>cRw (w:=W.drewN n) hW1.2 0
 have HV:=hid VW
 have HR:=hid RW
 have HW:=hid hW1
 have HF:=hid hf
 have HTW:=hid hTW
 have HE:=hid hW
 have hp:=ltB R.row
 have hmf:=R.files.lt
 have hmt:mt < w.heap.size:=R.lt mt (by simp [DkC.foot])
 clear hf V R VW RW hW1 hTW hW
 go_enter Tryz.func43,Tryz.ntmps43
 go_wp2_with fail
 rw [← HE.out]
 refine H.out.mono ?_
 rintro e w1 ⟨rfl,n,rfl⟩
 go_wp2_with (go_at_call 85; refine (H2.out _).mono ?_; rintro e w1 ⟨rfl,rfl⟩)
 go_region_held3 (fun W'=>W'.cell? ⟨w.heap.size,0,none⟩ = some (ptr p)) (go_keep)
  (first
   |(go_at_call 88; refine (number_any (HR.out.drewN _) hT h0 h1).mono ?_; rintro e w2 ⟨rfl,hR2,ht2⟩; have hb2:=HW.out; have z2:w2.cell? ⟨w.heap.size,0,none⟩ = some (ptr p):=number_box hb2.1 ht2 hp hmt; have q2:=hid (number_row hb2.1 ht2 hp hmt); have q3:=hid (number_row hb2.2 ht2 (by omega) (by omega)); clear hb2)
   |(go_at_call 87; refine (carry_create hR2 _ _ hk1 hk2 (name_size hn) HF.out ?_ hsmall q2.out q3.out).mono ?_; exact Nat.le_trans HV.out.room ht2.size; rintro e w3 ⟨rfl,⟨fb,hfb,hR3⟩,ht3⟩; have z3:w3.cell? ⟨w.heap.size,0,none⟩ = some (ptr p):=(ht3.cell (p:=⟨w.heap.size,0,none⟩) (ltB q2.out) (by simp; omega)).trans z2))
 all_goals
  go_wp2
  go_ret
  have t3:Tc [p,mf,mt] w w3:=(((HTW.out.mono (by simp)).drewN _).trans ht2 (by simp)).trans ht3 (by simp)
  exact ⟨rfl,⟨fb,Nat.le_trans (Nat.le_trans HTW.out.size ht2.size) hfb,hR3⟩,t3⟩
end
section
variable {w w':World} {E:Nat → Addr} {lo p mf mt:Nat} {D:DkC}
set_option maxHeartbeats 400000 in
theorem is_nil (b:Addr) (w:World) :
  Calls Tryz.prog 85 #[.nilIface,.iface 341 (.pointer (some b))] w fun e w'=>e = .returned (.bool false) ∧ w' = w:=by
 have hn:=run_eql_iface_nil_left (P:=Tryz.prog) w 341 (.pointer (some b)) Tryz.underlying86
 go_enter Tryz.func85,Tryz.ntmps85
 go_wp2
 go_ret
 exact ⟨rfl,rfl⟩
set_option maxHeartbeats 400000 in
theorem answer_nil (S:Sents w E):Calls Tryz.prog 42 #[ptr p,.nilIface] w fun e w'=>e = .returned (.int .i64 0) ∧ w' = w:=by
 have c1:=S.var1
 have c9:=S.var9
 go_enter Tryz.func42,Tryz.ntmps42
 go_wp2_with (first | (go_at_call 85; refine (is_nil _ _).mono ?_; rintro e w1 ⟨rfl,rfl⟩) | (go_at_call 76; refine (tell_nil _).mono ?_; rintro e w1 ⟨rfl,rfl⟩))
 go_ret
 exact ⟨rfl,rfl⟩
set_option maxHeartbeats 400000 in
theorem anE (S:Sents w E) (i:Nat) (hi:i < 11) (h1:i ≠ 1) (h9:i ≠ 9):Calls Tryz.prog 42 #[ptr p,errV E i] w fun e w'=>e = .returned (.int .i64 (code i)) ∧ w' = w:=by
 have c1:=S.var1
 have c9:=S.var9
 have d1:decide (i = 1) = false:=by simp [h1]
 have d9:decide (i = 9) = false:=by simp [h9]
 have H1:=hid (is_at S i 1 hi (by omega))
 have H9:=hid (is_at S i 9 hi (by omega))
 have HT:=hid (tell_err S i hi)
 clear h1 h9 hi
 go_enter Tryz.func42,Tryz.ntmps42
 go_wp2_with fail
 refine H1.out.mono ?_
 rintro e w1 ⟨rfl,rfl⟩
 go_wp2_with fail
 refine H9.out.mono ?_
 rintro e w1 ⟨rfl,rfl⟩
 go_wp2_with fail
 refine HT.out.mono ?_
 rintro e w1 ⟨rfl,rfl⟩
 go_wp2
 go_ret
 exact ⟨rfl,rfl⟩
end
structure PubA where
 B:Nat
 Bs:Int
 on:Bool
 files:List (List UInt8 × FlA)
 c:Cnt
def Ent.pub (e:Ent):List UInt8 × FlA:=(e.name,e.file)
def DkC.pub (D:DkC):PubA:=⟨D.B,D.Bs,D.on,D.ents.map Ent.pub,D.c⟩
def findA (l:List (List UInt8 × FlA)) (k:List UInt8):Option FlA:=(l.find? fun e=>decide (e.1 = k)).map Prod.snd
def insA (e:List UInt8 × FlA):List (List UInt8 × FlA) → List (List UInt8 × FlA)
 | []=>[e]
 | y :: r=>if (Lit.string e.1).before (.string y.1) then e :: y :: r else y :: insA e r
def dropA (k:List UInt8) (l:List (List UInt8 × FlA)):List (List UInt8 × FlA):=l.filter fun e=>!decide (e.1 = k)
def setA (k:List UInt8) (f:FlA) (l:List (List UInt8 × FlA)):List (List UInt8 × FlA):=l.map fun e=>if e.1 = k then (e.1,f) else e
theorem find_pub (l:List Ent) (k:List UInt8):findA (l.map Ent.pub) k = (findE l k).map Ent.file:=by
 unfold findA findE
 rw [List.find?_map,Option.map_map]
 rfl
theorem ins_pub (e:Ent):∀ l:List Ent,(insE e l).map Ent.pub = insA e.pub (l.map Ent.pub)
 | []=>rfl
 | y :: r=>by
  unfold insE
  simp only [List.map_cons,insA]
  have h:((Lit.string e.pub.1).before (.string y.pub.1)) = (Lit.string e.name).before (.string y.name):=rfl
  rw [h]
  split
  ·rfl
  ·simp [ins_pub e r]
theorem drop_pub (k:List UInt8) (l:List Ent):(dropE k l).map Ent.pub = dropA k (l.map Ent.pub):=by
 unfold dropE dropA
 rw [List.filter_map]
 rfl
structure Small (A:PubA):Prop where
 calls:0 ≤ A.c.calls ∧ A.c.calls ≤ 1099511627776
 reads:0 ≤ A.c.reads ∧ A.c.reads ≤ 1099511627776
 appends:0 ≤ A.c.appends ∧ A.c.appends ≤ 1099511627776
 full:0 ≤ A.c.full ∧ A.c.full ≤ 1099511627776
 used:0 ≤ A.c.used ∧ A.c.used ≤ 1099511627776
 files:A.files.length ≤ 1099511627776
 blocks:∀ e ∈ A.files,e.2.blocks.length ≤ 1099511627776
 size:64 ≤ A.B ∧ A.B ≤ 65536
section
variable {w w':World} {E:Nat → Addr} {lo p mf mt:Nat} {D:DkC}
def createA (s:ByteArray) (A:PubA):Int × PubA:=
 if nameB s then
  if (findA A.files (nm s)).isSome then (13,A) else (0,{ A with files:=insA (nm s,⟨false,[]⟩) A.files,c:={ A.c with calls:=A.c.calls + 1 } })
 else (11,A)
theorem foot_insert {e:Ent} {D':DkC} (he:D'.ents = insE e D.ents) (hfoot:∀ b ∈ e.lay.foot,w.heap.size ≤ b):∀ b ∈ D'.foot p mf mt,b ∈ D.foot p mf mt ∨ w.heap.size ≤ b:=by
 intro b hb
 simp only [DkC.foot,List.mem_cons,List.mem_flatMap,he] at hb ⊢
 rcases hb with h | h | h | ⟨x,hx,h⟩
 ·exact .inl (.inl h)
 ·exact .inl (.inr (.inl h))
 ·exact .inl (.inr (.inr (.inl h)))
 ·rcases List.mem_cons.1 ((insE_perm e D.ents).mem_iff.1 hx) with rfl | hx
  ·exact .inr (hfoot b h)
  ·exact .inl (.inr (.inr (.inr ⟨x,hx,h⟩)))
set_option maxHeartbeats 400000 in
theorem Create_of {i:Option Nat} {s:ByteArray} {Post:World → Prop} (h:Calls Tryz.prog 43 #[ptr p,.string s] w fun e w'=>e = .returned (i.elim .nilIface (errV E)) ∧ Post w') {v:Int}
  (ha:∀ w1,Post w1 → Calls Tryz.prog 42 #[ptr p,i.elim .nilIface (errV E)] w1 fun e w'=>e = .returned (.int .i64 v) ∧ w' = w1) :
  Calls Tryz.prog 17 #[ptr p,.string s] w fun e w'=>e = .returned (.int .i64 v) ∧ Post w':=by
 have H:=hid h
 have HA:=hid ha
 clear h ha
 go_enter Tryz.func17,Tryz.ntmps17
 go_wp2_with (first | (go_at_call 43; refine H.out.mono ?_; rintro e w1 ⟨rfl,hp⟩) | (go_at_call 42; refine (HA.out _ hp).mono ?_; rintro e w2 ⟨rfl,rfl⟩))
 go_ret
 exact ⟨rfl,hp⟩
end
def setE (k:List UInt8) (f:FlA) (L:Lay) (l:List Ent):List Ent:=l.map fun e=>if e.name = k then ⟨e.name,f,L⟩ else e
theorem set_pub (k:List UInt8) (f:FlA) (L:Lay) (l:List Ent):(setE k f L l).map Ent.pub = setA k f (l.map Ent.pub):=by
 unfold setE setA
 rw [List.map_map,List.map_map]
 apply List.map_congr_left
 intro e _
 simp only [Function.comp]
 by_cases h:e.name = k
 ·simp [h,Ent.pub]
 ·simp [h,Ent.pub]
theorem fEm {l:List Ent} {k:List UInt8} {e:Ent} (h:findE l k = some e):e ∈ l ∧ e.name = k:=
 ⟨List.mem_of_find?_eq_some h,by simpa using List.find?_some h⟩
section
variable {w w':World} {E:Nat → Addr} {lo p mf mt:Nat} {D:DkC}
theorem Rep.uniq (R:Rep w lo p mf mt D):D.ents.Pairwise fun a b=>a.name ≠ b.name:=by
 obtain ⟨es,h,hp⟩:=R.files.tidy (Maps.string_keyed Tryz.underlying9)
 simp only [mapOf,DataW.map.injEq] at h
 subst h
 rw [List.pairwise_map] at hp
 exact hp.imp fun h e=>h (by simp [Ent.key,e])
theorem pairwise_eq {α:Type} {r:α → α → Prop} {l:List α} (h:l.Pairwise r) {a b:α} (ha:a ∈ l) (hb:b ∈ l) (h1:¬ r a b) (h2:¬ r b a):a = b:=by
 induction h with
 | nil=>cases ha
 | cons hd _ ih =>
  rcases List.mem_cons.1 ha with e1 | ha'
  ·rcases List.mem_cons.1 hb with e2 | hb'
   ·rw [e1,e2]
   ·rw [e1] at h1
    exact absurd (hd _ hb') h1
  ·rcases List.mem_cons.1 hb with e2 | hb'
   ·rw [e2] at h2
    exact absurd (hd _ ha') h2
   ·exact ih ha' hb'
theorem Rep.one (R:Rep w lo p mf mt D) {k:List UInt8} {e0:Ent} (hf:findE D.ents k = some e0):∀ a ∈ D.ents,a.name = k → a = e0:=by
 intro a ha hn
 obtain ⟨he,hk⟩:=fEm hf
 exact pairwise_eq R.uniq ha he (fun h=>h (hn.trans hk.symm)) (fun h=>h (hk.trans hn.symm))
theorem Rep.parts (R:Rep w lo p mf mt D):(∀ e ∈ D.ents,e.lay.foot.Nodup) ∧ D.ents.Pairwise (fun a b=>∀ x ∈ a.lay.foot,∀ y ∈ b.lay.foot,x ≠ y):=by
 have ha:=R.apart
 simp only [DkC.foot,List.nodup_cons] at ha
 have h:=ha.2.2.2
 unfold List.Nodup at h
 rw [List.pairwise_flatMap] at h
 exact h
theorem Rep.setFile (R:Rep w lo p mf mt D) {k:List UInt8} {e0:Ent} (hf:findE D.ents k = some e0) {L:Lay} {f:FlA} (hfb:L.fb = e0.lay.fb) (hat:FileAt w' D.B L f) (hfoot:∀ b ∈ L.foot,b ∈ e0.lay.foot ∨ w.heap.size ≤ b) (hnd:L.foot.Nodup)
  (ht:Tc e0.lay.foot w w') (hlo:lo ≤ w.heap.size):Rep w' lo p mf mt { D with ents:=setE k f L D.ents }:=by
 obtain ⟨he0,hk0⟩:=fEm hf
 have h1:=R.one hf
 obtain ⟨n,hT⟩:=R.troubles
 have hin:∀ b ∈ e0.lay.foot,b ≠ p ∧ b ≠ mf ∧ b ≠ mt:=fun b hb=>⟨(R.ent_ne he0 hb).1,(R.ent_ne he0 hb).2.1,(R.ent_ne he0 hb).2.2.1⟩
 have hm:mapOf (setE k f L D.ents) = mapOf D.ents:=by
  unfold mapOf setE
  rw [List.map_map]
  congr 1
  apply List.map_congr_left
  intro e he
  simp only [Function.comp]
  by_cases hn:e.name = k
  ·rw [if_pos hn]
   have:=h1 e he hn
   subst this
   simp [Ent.key,hfb]
  ·rw [if_neg hn]
 have hold:∀ b,b < w.heap.size → (b = p ∨ b = mf ∨ b = mt) → w'.heap[b]? = w.heap[b]?:=fun b hb h=>ht.block b hb fun hm=>by
  have:=hin b hm
  rcases h with h | h | h <;> simp [h] at this
 have hlt:∀ b ∈ [p,mf,mt],b < w.heap.size:=fun b hb=>R.lt b (by simp at hb; rcases hb with rfl | rfl | rfl <;> simp [DkC.foot])
 have hLne:∀ x ∈ L.foot,x ≠ p ∧ x ≠ mf ∧ x ≠ mt:=by
  intro x hx
  rcases hfoot x hx with h | h
  ·exact hin x h
  ·have a:=hlt p (by simp); have b:=hlt mf (by simp); have c:=hlt mt (by simp)
   refine ⟨?_,?_,?_⟩ <;> omega
 have hmem:∀ x ∈ setE k f L D.ents,(∃ e ∈ D.ents,e.name ≠ k ∧ x = e) ∨ (x.name = k ∧ x.file = f ∧ x.lay = L):=by
  intro x hx
  obtain ⟨e,he,rfl⟩:=List.mem_map.1 hx
  by_cases hn:e.name = k
  ·right; simp [hn]
  ·left; exact ⟨e,he,hn,by simp [hn]⟩
 have hother:∀ e ∈ D.ents,e.name ≠ k → ∀ x ∈ e.lay.foot,x ∉ e0.lay.foot:=by
  intro e he hn x hx hx0
  have hne:e ≠ e0:=fun h=>hn (h ▸ hk0)
  exact hne (pairwise_eq R.parts.2 he he0 (fun h=>h x hx x hx0 rfl) (fun h=>h x hx0 x hx rfl))
 refine ⟨(hold p (hlt p (by simp)) (by simp)).trans R.row,?_,⟨n,ownsMap_kept hT (hold mt (hlt mt (by simp)) (by simp))⟩,?_,?_,?_,?_⟩
 ·show w'.ownsMap Tryz.prog 9 ptrElem mf (setE k f L D.ents).length (mapOf (setE k f L D.ents))
  rw [hm]
  have:(setE k f L D.ents).length = D.ents.length:=by simp [setE]
  rw [this]
  exact ownsMap_kept R.files (hold mf (hlt mf (by simp)) (by simp))
 ·intro x hx
  rcases hmem x hx with ⟨e,he,hn,rfl⟩ | ⟨_,h2,h3⟩
  ·exact (R.each _ he).kept fun b hb=>ht.block b (R.ent_ne he hb).2.2.2.1 (hother _ he hn b hb)
  ·rw [h2,h3]; exact hat
 ·simp only [DkC.foot,List.nodup_cons,List.mem_cons,not_or,List.mem_flatMap,not_exists,not_and]
  have hne:=R.p_ne
  have hx:∀ x ∈ setE k f L D.ents,∀ b ∈ x.lay.foot,b ≠ p ∧ b ≠ mf ∧ b ≠ mt:=by
   intro x hx b hb
   rcases hmem x hx with ⟨e,he,hn,rfl⟩ | ⟨_,h2,h3⟩
   ·exact ⟨(R.ent_ne he hb).1,(R.ent_ne he hb).2.1,(R.ent_ne he hb).2.2.1⟩
   ·rw [h3] at hb; exact hLne b hb
  refine ⟨⟨hne.2.1,hne.1,fun x hm hb=>(hx x hm p hb).1 rfl⟩,⟨hne.2.2,fun x hm hb=>(hx x hm mf hb).2.1 rfl⟩,fun x hm hb=>(hx x hm mt hb).2.2 rfl,?_⟩
  unfold List.Nodup
  rw [List.pairwise_flatMap]
  refine ⟨fun x hx=>?_,?_⟩
  ·rcases hmem x hx with ⟨e,he,hn,rfl⟩ | ⟨_,h2,h3⟩
   ·exact R.parts.1 _ he
   ·rw [h3]; exact hnd
  ·unfold setE
   rw [List.pairwise_map]
   refine (R.parts.2.and R.uniq).imp_of_mem fun {a b} ha hb ⟨hd,hu⟩=>?_
   intro x hx y hy
   by_cases hna:a.name = k
   ·have hnb:b.name ≠ k:=fun h=>hu (hna.trans h.symm)
    rw [if_pos hna] at hx
    rw [if_neg hnb] at hy
    rcases hfoot x hx with h | h
    ·have:=h1 a ha hna
     subst this
     exact hd x h y hy
    ·have:=(R.ent_ne hb hy).2.2.2.1
     omega
   ·rw [if_neg hna] at hx
    by_cases hnb:b.name = k
    ·rw [if_pos hnb] at hy
     rcases hfoot y hy with h | h
     ·have:=h1 b hb hnb
      subst this
      exact hd x hx y h
     ·have:=(R.ent_ne ha hx).2.2.2.1
      omega
    ·rw [if_neg hnb] at hy
     exact hd x hx y hy
 ·intro b hb
  simp only [DkC.foot,List.mem_cons,List.mem_flatMap] at hb
  rcases hb with rfl | rfl | rfl | ⟨x,hx,hb⟩
  ·exact R.base _ (by simp [DkC.foot])
  ·exact R.base _ (by simp [DkC.foot])
  ·exact R.base _ (by simp [DkC.foot])
  ·rcases hmem x hx with ⟨e,he,hn,rfl⟩ | ⟨_,h2,h3⟩
   ·exact (R.ent_ne he hb).2.2.2.2
   ·rw [h3] at hb
    rcases hfoot b hb with h | h
    ·exact (R.ent_ne he0 h).2.2.2.2
    ·omega
 ·intro x hx
  rcases hmem x hx with ⟨e,he,hn,rfl⟩ | ⟨h1,_,_⟩
  ·exact R.names _ he
  ·rw [h1,← hk0]; exact R.names _ he0
theorem foot_set {k:List UInt8} {e0:Ent} (hf:findE D.ents k = some e0) {L:Lay} {f:FlA} {D':DkC} (he:D'.ents = setE k f L D.ents) (hfoot:∀ b ∈ L.foot,b ∈ e0.lay.foot ∨ w.heap.size ≤ b):∀ b ∈ D'.foot p mf mt,b ∈ D.foot p mf mt ∨ w.heap.size ≤ b:=by
 intro b hb
 simp only [DkC.foot,List.mem_cons,List.mem_flatMap,he] at hb ⊢
 rcases hb with h | h | h | ⟨x,hx,h⟩
 ·exact .inl (.inl h)
 ·exact .inl (.inr (.inl h))
 ·exact .inl (.inr (.inr (.inl h)))
 ·obtain ⟨e,hm,rfl⟩:=List.mem_map.1 hx
  by_cases hn:e.name = k
  ·rw [if_pos hn] at h
   rcases hfoot b h with h | h
   ·exact .inl (.inr (.inr (.inr ⟨e0,(fEm hf).1,h⟩)))
   ·exact .inr h
  ·rw [if_neg hn] at h
   exact .inl (.inr (.inr (.inr ⟨e,hm,h⟩)))
theorem foot_ent {k:List UInt8} {e0:Ent} (hf:findE D.ents k = some e0):∀ b ∈ e0.lay.foot,b ∈ D.foot p mf mt:=by
 intro b hb
 simp only [DkC.foot,List.mem_cons,List.mem_flatMap]
 exact .inr (.inr (.inr ⟨e0,(fEm hf).1,hb⟩))
end
theorem FileAt.shut {w w':World} {B:Nat} {L:Lay} {f:FlA} (h:FileAt w B L f) (hnd:L.foot.Nodup) (ht:Tc [L.fb] w w') (hrow:w'.heap[L.fb]? = some (.cells #[.int .i64 1,L.sv] 160 (0,0))):FileAt w' B L { f with shut:=true }:=by
 have hne:∀ b ∈ L.foot,b ≠ L.fb → w'.heap[b]? = w.heap[b]?:=fun b hb hn=>ht.block b (h.lt b hb) (by simp [hn])
 unfold Lay.foot at hnd
 rw [List.nodup_cons] at hnd
 refine ⟨hrow,⟨h.own.1,?_⟩,fun i b bl hb hbl=>?_⟩
 ·rcases h.own.2 with hn | ⟨g,cap,cur,hv,hb,hg,rest⟩
  ·exact .inl hn
  ·refine .inr ⟨g,cap,cur,hv,hb,(hne g (by simp [Lay.foot,hv,Value.ownBlock]) fun e=>?_).trans hg,rest⟩
   subst e
   exact hnd.1 (by simp [hv,Value.ownBlock])
 ·have h1:=h.bytes i b bl hb hbl
  have hm:b ∈ L.bs:=List.mem_of_getElem? hb
  refine ⟨h1.1,(hne b (by simp [Lay.foot,hm]) fun e=>?_).trans h1.2⟩
  subst e
  exact hnd.1 (by simp [hm])
def Quiet (w w':World):Prop:=∃ n,w' = w.drewN n
section
variable {w w':World} {E:Nat → Addr} {lo p mf mt:Nat} {D:DkC}
theorem Quiet.heap (h:Quiet w w'):w'.heap = w.heap:=by obtain ⟨n,rfl⟩:=h; rfl
theorem Quiet.cell (h:Quiet w w') (a:Addr):w'.cell? a = w.cell? a:=by obtain ⟨n,rfl⟩:=h; rfl
theorem Quiet.touch (h:Quiet w w') (F:List Nat):Tc F w w':=by obtain ⟨n,rfl⟩:=h; exact (Tc.refl F w).drewN n
theorem Quiet.rep (h:Quiet w w') (R:Rep w lo p mf mt D):Rep w' lo p mf mt D:=by obtain ⟨n,rfl⟩:=h; exact R.drewN n
theorem Quiet.env (h:Quiet w w') (V:Env w lo E):Env w' lo E:=by obtain ⟨n,rfl⟩:=h; exact V.drewN n
end
section
variable {w w':World} {E:Nat → Addr} {lo p mf mt:Nat} {D:DkC}
set_option maxHeartbeats 400000 in
theorem seal1_any (k:Int) (bf fb:Nat) {v:Value} {sv:Value} (hbf:w.heap[bf]? = some (.cells #[ptr fb] 128 (0,0))) (hfb:w.heap[fb]? = some (.cells #[v,sv] 160 (0,0))) :
  Calls Tryz.prog 90 #[.int .i64 k,ptr bf] w fun e w'=>e = .returned (.tuple #[]) ∧ w' = w.setCell ⟨fb,0,none⟩ (.int .i64 1):=by
 have c1:=cRw hbf 0
 have c2:=cRw hfb 0
 have f2:=uRw hfb 0
 simp at c1 c2
 go_enter Tryz.func90,Tryz.ntmps90
 go_wp2
 go_end0
 exact ⟨rfl,rfl⟩
set_option maxRecDepth 100000 in
set_option maxHeartbeats 400000 in
theorem carry_seal (R:Rep w lo p mf mt D) {a k b:Int} (bf fb:Nat) {v:Value} {sv:Value} (hk1:(k == 1) = false) (hk2:(k == 2) = false) (hbf:w.heap[bf]? = some (.cells #[ptr fb] 128 (0,0))) (hfb:w.heap[fb]? = some (.cells #[v,sv] 160 (0,0))) :
  Calls Tryz.prog 87 #[ptr p,.agg #[.int .i64 a,.int .i64 k,.int .i64 b],.func (.func 90) #[] #[ptr bf]] w fun e w'=>e = .returned .nilIface ∧ Tc [fb] w w' ∧ w'.heap[fb]? = some (.cells #[.int .i64 1,sv] 160 (0,0)):=by
 have k0:=R.cell 0
 simp only [dRow] at k0
 have hp:=ltB R.row
 have H:=hid (fun o:Obj=>seal1_any (w:=w.alloc o) (D.B:Int) bf fb ((Below.heap_alloc w o bf (ltB hbf)).trans hbf) ((Below.heap_alloc w o fb (ltB hfb)).trans hfb))
 have HB:=hid hfb
 clear hbf hfb
 go_enter Tryz.func87,Tryz.ntmps87
 go_wp2_with (go_at_call 90; refine (H.out _).mono ?_; rintro e w1 ⟨rfl,rfl⟩)
 go_ret
 refine ⟨rfl,((Tc.refl [fb] w).alloc _).setCell (by simp) _,?_⟩
 rw [sRw ((Below.heap_alloc w _ fb (ltB HB.out)).trans HB.out) 0]
 rfl
theorem kept_row {F:List Nat} {b:Nat} {o:Obj} (hb:w.heap[b]? = some o) (ht:Tc F w w') (h:b ∉ F):w'.heap[b]? = some o:=(ht.block b (ltB hb) h).trans hb
set_option maxHeartbeats 400000 in
theorem seal_err (s:ByteArray) (i:Nat)
  (hf:Calls Tryz.prog 86 #[ptr p,.string s] w fun e w'=>e = .returned (.tuple #[.pointer none,errV E i]) ∧ ∃ n,w' = w.drewN n) :
  Calls Tryz.prog 44 #[ptr p,.string s] w fun e w'=>e = .returned (errV E i) ∧ Tc [] w w':=by
 have H:=hid hf
 clear hf
 go_enter Tryz.func44,Tryz.ntmps44
 go_wp2_with (go_at_call 86; refine H.out.mono ?_; rintro e w1 ⟨rfl,hq⟩; have HQ:=hid (Quiet.touch hq []); clear hq)
 go_ret
 exact ⟨rfl,HQ.out.alloc _⟩
set_option maxHeartbeats 400000 in
theorem seal_shut (V:Env w lo E) (R:Rep w lo p mf mt D) (s:ByteArray) (ho:D.on = true) (hn:nameB s = true) {e0:Ent} (hf:findE D.ents (nm s) = some e0) (hs:e0.file.shut = true) :
  Calls Tryz.prog 44 #[ptr p,.string s] w fun e w'=>e = .returned (errV E 6) ∧ Tc [] w w':=by
 have H:=hid (find_some R s ho hn hf)
 have hrow:=(R.each e0 (fEm hf).1).row
 have lfb:=ltB hrow
 have c0:=cRw hrow 0
 simp [hs] at c0
 have c6:=V.sents.var6
 have l6:4 < w.heap.size:=by have:=V.vars; have:=V.room; omega
 clear hf hs hrow
 go_enter Tryz.func44,Tryz.ntmps44
 go_wp2_with (go_at_call 86; refine H.out.mono ?_; rintro e w1 ⟨rfl,hq⟩; have d0:=(Quiet.cell hq _).trans c0; have d6:=(Quiet.cell hq _).trans c6; rw [← Quiet.heap hq] at lfb l6; have HQ:=hid (Quiet.touch hq []); clear hq c0 c6)
 go_ret
 exact ⟨rfl,HQ.out.alloc _⟩
set_option maxRecDepth 100000 in
set_option maxHeartbeats 400000 in
theorem seal_ok (R:Rep w lo p mf mt D) (s:ByteArray) (ho:D.on = true) (hn:nameB s = true) {e0:Ent} (hf:findE D.ents (nm s) = some e0) (hs:e0.file.shut = false) {a k b:Int} (hT:TrI D.T D.c.calls a k b) (hk1:(k == 1) = false) (hk2:(k == 2) = false)
  (h0:0 ≤ D.c.calls) (h1:D.c.calls ≤ 1099511627776) (hlo:lo ≤ w.heap.size) :
  Calls Tryz.prog 44 #[ptr p,.string s] w fun e w'=>e = .returned .nilIface ∧ Rep w' lo p mf mt { D.numbered with ents:=setE (nm s) { e0.file with shut:=true } e0.lay D.ents } ∧ Tc [p,mt,e0.lay.fb] w w':=by
 have H:=hid (find_some R s ho hn hf)
 have hat:=R.each e0 (fEm hf).1
 have hrow:=hat.row
 have lfb:=ltB hrow
 have c0:=cRw hrow 0
 simp [hs] at c0
 have hne:=R.ent_ne (fEm hf).1 (b:=e0.lay.fb) (by simp [Lay.foot])
 have hp:=ltB R.row
 have hmt:mt < w.heap.size:=R.lt mt (by simp [DkC.foot])
 have HR:=hid R
 have HF:=hid hf
 have HROW:=hid hrow
 clear hf hs hrow hat R
 go_enter Tryz.func44,Tryz.ntmps44
 go_wp2_with (first
  |(go_at_call 86; refine H.out.mono ?_; rintro e w1 ⟨rfl,hq⟩; have d0:=(Quiet.cell hq _).trans c0; rw [← Quiet.heap hq] at lfb hp hmt; have HQ:=hid hq; clear hq c0)
  |(go_at_call 88; refine (number_any ((Quiet.rep HQ.out HR.out).alloc (.cells #[ptr e0.lay.fb] 128)) hT h0 h1).mono ?_; rintro e w2 ⟨rfl,hR2,ht2⟩; have q2:=hid (kept_row (heap_alloc_new w1 (.cells #[ptr e0.lay.fb] 128)) ht2 (by simp; omega)); have q3:=hid (kept_row ((Below.heap_alloc w1 (.cells #[ptr e0.lay.fb] 128) e0.lay.fb lfb).trans ((congrArg (fun h=>h[e0.lay.fb]?) (Quiet.heap HQ.out)).trans HROW.out)) ht2 (by simp; omega)))
  |(go_at_call 87; refine (carry_seal hR2 _ _ hk1 hk2 q2.out q3.out).mono ?_; rintro e w3 ⟨rfl,ht3,hr3⟩))
 go_ret
 have hm:=(fEm HF.out).1
 have hnd:=hR2.parts.1 e0 hm
 have hat3:=(hR2.each e0 hm).shut hnd ht3 hr3
 have t2:Tc [p,mt] w w2:=((Quiet.touch HQ.out [p,mt]).alloc _).trans ht2 (by simp)
 have hl2:lo ≤ w2.heap.size:=Nat.le_trans hlo t2.size
 exact ⟨rfl,hR2.setFile HF.out rfl hat3 (fun b hb=>.inl hb) hnd (ht3.mono (by simp [Lay.foot])) hl2,(t2.mono (by simp)).trans ht3 (by simp)⟩
def sealA (s:ByteArray) (A:PubA):Int × PubA:=
 if nameB s then
  match findA A.files (nm s) with
  | none=>(12,A)
  | some f=>if f.shut then (14,A) else (0,{ A with files:=setA (nm s) { f with shut:=true } A.files,c:={ A.c with calls:=A.c.calls + 1 } })
 else (11,A)
set_option maxHeartbeats 400000 in
theorem Seal_of {i:Option Nat} {s:ByteArray} {Post:World → Prop} (h:Calls Tryz.prog 44 #[ptr p,.string s] w fun e w'=>e = .returned (i.elim .nilIface (errV E)) ∧ Post w') {v:Int}
  (ha:∀ w1,Post w1 → Calls Tryz.prog 42 #[ptr p,i.elim .nilIface (errV E)] w1 fun e w'=>e = .returned (.int .i64 v) ∧ w' = w1) :
  Calls Tryz.prog 18 #[ptr p,.string s] w fun e w'=>e = .returned (.int .i64 v) ∧ Post w':=by
 have H:=hid h
 have HA:=hid ha
 clear h ha
 go_enter Tryz.func18,Tryz.ntmps18
 go_wp2_with (first | (go_at_call 44; refine H.out.mono ?_; rintro e w1 ⟨rfl,hp⟩) | (go_at_call 42; refine (HA.out _ hp).mono ?_; rintro e w2 ⟨rfl,rfl⟩))
 go_ret
 exact ⟨rfl,hp⟩
end
theorem ownsMap_tight {w:World} {k:TypeId} {R:Value → Option (DataW Unit × List MemPlace)} {b n:Nat} {L:List (Lit × DataW Unit)} (h:w.ownsMap Tryz.prog k R b n (.map L)):w.ownsMap Tryz.prog k R b L.length (.map L):=by
 obtain ⟨es,clock,hb,F,_,hD⟩:=h
 refine ⟨es,clock,hb,F,?_,hD⟩
 simp only [DataW.map.injEq] at hD
 rw [hD,length_sorted]
 simp
section
variable {w w':World} {E:Nat → Addr} {lo p mf mt:Nat} {D:DkC}
theorem Rep.remove (R:Rep w lo p mf mt D) {k:List UInt8} {n:Nat} (ht:Tc [mf] w w') (hmap:w'.ownsMap Tryz.prog 9 ptrElem mf n ((mapOf D.ents).del (.string k))):Rep w' lo p mf mt { D with ents:=dropE k D.ents }:=by
 obtain ⟨m,hT⟩:=R.troubles
 have hne:=R.p_ne
 have hold:∀ b ∈ D.foot p mf mt,b ≠ mf → w'.heap[b]? = w.heap[b]?:=fun b hb h=>ht.block b (R.lt b hb) (by simp [h])
 have hsub:(dropE k D.ents).Sublist D.ents:=List.filter_sublist
 have hfoot:(DkC.foot { D with ents:=dropE k D.ents } p mf mt).Sublist (D.foot p mf mt):=by
  simp only [DkC.foot]
  have h:∀ {l l':List Ent},l.Sublist l' → (l.flatMap fun e=>e.lay.foot).Sublist (l'.flatMap fun e=>e.lay.foot):=by
   intro l l' h
   induction h with
   | slnil=>exact .slnil
   | cons a _ ih=>exact ih.trans (by simp)
   | cons_cons a _ ih=>simpa using ih
  exact ((h hsub).cons_cons _).cons_cons _ |>.cons_cons _
 rw [del_map] at hmap
 refine ⟨(hold p (by simp [DkC.foot]) hne.2.1).trans R.row,?_,⟨m,ownsMap_kept hT (hold mt (by simp [DkC.foot]) hne.2.2.symm)⟩,?_,hfoot.nodup R.apart,fun b hb=>R.base b (hfoot.subset hb),fun e he=>R.names e (hsub.subset he)⟩
 ·have:=ownsMap_tight hmap
  rw [List.length_map] at this
  exact this
 ·intro e he
  have he':=hsub.subset he
  exact (R.each e he').kept fun b hb=>by
   have:=R.ent_ne he' hb
   exact ht.block b this.2.2.2.1 (by simp [this.2.1])
set_option maxRecDepth 100000 in
set_option maxHeartbeats 400000 in
theorem drop1_any (R:Rep w lo p mf mt D) {s:ByteArray} (k:Int) (bd bn bf:Nat) (hs:s.size ≤ 32) {e0:Ent} (hf:findE D.ents (nm s) = some e0) (hS:Small D.pub)
  (hbd:w.heap[bd]? = some (.cells #[ptr p] 32 (0,0))) (hbn:w.heap[bn]? = some (.cells #[.string s] 9 (0,0))) (hbf:w.heap[bf]? = some (.cells #[ptr e0.lay.fb] 128 (0,0))) :
  Calls Tryz.prog 193 #[.int .i64 k,ptr bd,ptr bn,ptr bf] w fun e w'=>e = .returned (.tuple #[]) ∧ Rep w' lo p mf mt { D with ents:=dropE (nm s) D.ents,c:={ D.c with used:=D.c.used - e0.file.blocks.length,most:=max D.c.most (D.c.used - e0.file.blocks.length) } } ∧ Tc [p,mf] w w':=by
 have k3:=R.cell 3
 simp only [dRow] at k3
 have cd:=cRw hbd 0
 have cn:=cRw hbn 0
 have cf:=cRw hbf 0
 simp at cd cn cf
 have hat:=R.each e0 (fEm hf).1
 have hlen:=hat.own
 have cb:=cRw hat.row 1
 simp at cb
 obtain ⟨w1,hdel,hm1,ht1⟩:=(show (w.drew).ownsMap Tryz.prog 9 ptrElem mf D.ents.length (mapOf D.ents) from R.files).drop (t:=97) (e:=128) (Maps.string_keyed Tryz.underlying9) Tryz.underlying97 (WideMaps.keyOf_string_mk Tryz.underlying9 (s:=s) (by unfold maxLen; omega)) 0
 have hg:=ht1.grown
 obtain ⟨es,clock,hes,_⟩:=R.files
 have n1:some p ≠ some mf:=by simp [R.p_ne.2.1]
 have n2:some bd ≠ some mf:=by intro e; simp at e; subst e; rw [hes] at hbd; simp at hbd
 have n3:some bn ≠ some mf:=by intro e; simp at e; subst e; rw [hes] at hbn; simp at hbn
 have n4:some bf ≠ some mf:=by intro e; simp at e; subst e; rw [hes] at hbf; simp at hbf
 have n5:some e0.lay.fb ≠ some mf:=by intro e; simp at e; have:=hat.row; rw [e,hes] at this; simp at this
 have m2:bd ≠ p:=by intro e; have:=R.row; rw [← e,hbd] at this; simp at this
 have m4:bf ≠ p:=by intro e; have:=R.row; rw [← e,hbf] at this; simp at this
 have m5:e0.lay.fb ≠ p:=by intro e; have:=R.row; rw [← e,hat.row] at this; simp at this
 have k3':w.cell? ⟨p,3,none⟩ = some (.map (some mf)):=k3
 have y1:=hg.cell (a:=⟨p,3,none⟩) k3' n1
 have y2:=hg.cell (a:=⟨bd,0,none⟩) cd n2
 have y3:=hg.cell (a:=⟨bn,0,none⟩) cn n3
 have y4:=hg.cell (a:=⟨bf,0,none⟩) cf n4
 have y5:=hg.cell (a:=⟨e0.lay.fb,1,none⟩) cb n5
 have t1:Tc [mf] w w1:=(Tc.refl [mf] w).drew.grown hg (by simp)
 have R1:=R.remove t1 hm1
 have HR1:=hid R1
 have HT1:=hid t1
 have hu:=hS.used
 have hbl:=hS.blocks e0.pub (List.mem_map.2 ⟨e0,(fEm hf).1,rfl⟩)
 simp only [DkC.pub,Ent.pub] at hu hbl
 obtain ⟨hu1,hu2⟩:=hu
 clear hbd hbn hbf hes R R1 t1 hg hm1 ht1 n1 n2 n3 n4 n5 hf hS k3
 have hwr:IntKind.i64.wrap (-(e0.file.blocks.length:Int)) = -(e0.file.blocks.length:Int):=by
  rw [IntKind.wrap_i64]
  omega
 have hz:=fun (w2:World) (ht:Tc [p] w1.drew w2) (b o:Nat) (v:Value) (hb:b ≠ p) (hv:w1.cell? ⟨b,o,none⟩ = some v)=>(ht.cell (p:=⟨b,o,none⟩) (World.block_lt_of_cell? w1 _ hv) (by simpa using hb)).trans hv
 have HZ:=hid hz
 have hsv:∃ a cap,e0.lay.sv = .slice a e0.file.blocks.length cap:=by
  rcases hlen.2 with ⟨hsv,hl0⟩ | ⟨g,cap,cur,hsv,_⟩
  ·exact ⟨none,0,by rw [hsv,hl0]⟩
  ·exact ⟨_,cap,hsv⟩
 obtain ⟨ga,gc,hsv⟩:=hsv
 rw [hsv] at cb y5
 clear hlen hz hsv hat
 go_enter Tryz.func193,Tryz.ntmps193
 go_wp2
 go_region_held3 (fun W=>W.cell? ⟨p,3,none⟩ = some (.map (some mf)) ∧ W.cell? ⟨bd,0,none⟩ = some (ptr p) ∧ W.cell? ⟨bn,0,none⟩ = some (.string s)) (go_keep) (fail)
 go_wp2
 go_region_held3 (fun W=>W.cell? ⟨bd,0,none⟩ = some (ptr p) ∧ W.cell? ⟨bf,0,none⟩ = some (ptr e0.lay.fb) ∧ W.cell? ⟨e0.lay.fb,1,none⟩ = some (.slice ga e0.file.blocks.length gc)) (go_keep)
  (first | (go_at_call 80; refine (use_any (w:=w1.drew) (Quiet.rep ⟨1,rfl⟩ HR1.out) _ hu1 hu2 (by omega) (by omega)).mono ?_; rintro e w2 ⟨rfl,hR2,ht2⟩; have z2:=HZ.out w2 ht2 bd 0 _ m2 y2; have z4:=HZ.out w2 ht2 bf 0 _ m4 y4; have z5:=HZ.out w2 ht2 e0.lay.fb 1 _ m5 y5))
 go_wp2
 go_end0
 refine ⟨rfl,hR2,(HT1.out.mono (by simp)).drew.trans ht2 (by simp)⟩
set_option maxRecDepth 100000 in
set_option maxHeartbeats 400000 in
theorem carry_drop (R:Rep w lo p mf mt D) {s:ByteArray} {a k b:Int} (bd bn bf:Nat) (hk1:(k == 1) = false) (hk2:(k == 2) = false) (hs:s.size ≤ 32) {e0:Ent} (hf:findE D.ents (nm s) = some e0) (hS:Small D.pub)
  (hbd:w.heap[bd]? = some (.cells #[ptr p] 32 (0,0))) (hbn:w.heap[bn]? = some (.cells #[.string s] 9 (0,0))) (hbf:w.heap[bf]? = some (.cells #[ptr e0.lay.fb] 128 (0,0))) :
  Calls Tryz.prog 87 #[ptr p,.agg #[.int .i64 a,.int .i64 k,.int .i64 b],.func (.func 193) #[] #[ptr bd,ptr bn,ptr bf]] w fun e w'=>e = .returned .nilIface ∧ Rep w' lo p mf mt { D with ents:=dropE (nm s) D.ents,c:={ D.c with used:=D.c.used - e0.file.blocks.length,most:=max D.c.most (D.c.used - e0.file.blocks.length) } } ∧ Tc [p,mf] w w':=by
 have k0:=R.cell 0
 simp only [dRow] at k0
 have hp:=ltB R.row
 have H:=hid (fun o:Obj=>drop1_any (R.alloc o) (D.B:Int) bd bn bf hs hf hS ((Below.heap_alloc w o bd (ltB hbd)).trans hbd) ((Below.heap_alloc w o bn (ltB hbn)).trans hbn) ((Below.heap_alloc w o bf (ltB hbf)).trans hbf))
 clear hbd hbn hbf hf hS
 go_enter Tryz.func87,Tryz.ntmps87
 go_wp2_with (go_at_call 193; refine (H.out _).mono ?_; rintro e w1 ⟨rfl,hR,ht⟩)
 go_ret
 exact ⟨rfl,hR,((Tc.refl [p,mf] w).alloc _).trans ht (by simp)⟩
set_option maxHeartbeats 400000 in
theorem drop_err (s:ByteArray) (i:Nat)
  (hf:∀ o1 o2:Obj,Calls Tryz.prog 86 #[ptr p,.string s] ((w.alloc o1).alloc o2) fun e w'=>e = .returned (.tuple #[.pointer none,errV E i]) ∧ ∃ n,w' = ((w.alloc o1).alloc o2).drewN n) :
  Calls Tryz.prog 151 #[ptr p,.string s] w fun e w'=>e = .returned (errV E i) ∧ Tc [] w w':=by
 have H:=hid hf
 clear hf
 go_enter Tryz.func151,Tryz.ntmps151
 go_wp2_with (go_at_call 86; refine (H.out _ _).mono ?_; rintro e w1 ⟨rfl,hq⟩; have HQ:=hid (Quiet.touch hq []); clear hq)
 go_ret
 exact ⟨rfl,((((Tc.refl [] w).alloc _).alloc _).trans HQ.out (by simp)).alloc _⟩
theorem small_number (hS:Small D.pub) (hc:D.c.calls + 1 ≤ 1099511627776):Small D.numbered.pub:=by
 obtain ⟨h1,h2,h3,h4,h5,h6,h7,h8⟩:=hS
 simp only [DkC.pub] at h1 h2 h3 h4 h5 h6 h7 h8
 exact ⟨⟨by simp only [DkC.pub,DkC.numbered]; omega,hc⟩,h2,h3,h4,h5,h6,h7,h8⟩
end
section
variable {w w':World} {E:Nat → Addr} {lo p mf mt:Nat} {D:DkC}
def deleteA (s:ByteArray) (A:PubA):Int × PubA:=
 if nameB s then
  match findA A.files (nm s) with
  | none=>(12,A)
  | some f=>(0,{ A with files:=dropA (nm s) A.files,c:={ A.c with calls:=A.c.calls + 1,used:=A.c.used - f.blocks.length,most:=max A.c.most (A.c.used - f.blocks.length) } })
 else (11,A)
set_option maxHeartbeats 400000 in
theorem Delete_of {i:Option Nat} {s:ByteArray} {Post:World → Prop} (h:Calls Tryz.prog 151 #[ptr p,.string s] w fun e w'=>e = .returned (i.elim .nilIface (errV E)) ∧ Post w') {v:Int}
  (ha:∀ w1,Post w1 → Calls Tryz.prog 42 #[ptr p,i.elim .nilIface (errV E)] w1 fun e w'=>e = .returned (.int .i64 v) ∧ w' = w1) :
  Calls Tryz.prog 105 #[ptr p,.string s] w fun e w'=>e = .returned (.int .i64 v) ∧ Post w':=by
 have H:=hid h
 have HA:=hid ha
 clear h ha
 go_enter Tryz.func105,Tryz.ntmps105
 go_wp2_with (first | (go_at_call 151; refine H.out.mono ?_; rintro e w1 ⟨rfl,hp⟩) | (go_at_call 42; refine (HA.out _ hp).mono ?_; rintro e w2 ⟨rfl,rfl⟩))
 go_ret
 exact ⟨rfl,hp⟩
theorem foot_drop {k:List UInt8} {D':DkC} (he:D'.ents = dropE k D.ents):∀ b ∈ D'.foot p mf mt,b ∈ D.foot p mf mt ∨ w.heap.size ≤ b:=by
 intro b hb
 simp only [DkC.foot,List.mem_cons,List.mem_flatMap,he] at hb ⊢
 rcases hb with h | h | h | ⟨x,hx,h⟩
 ·exact .inl (.inl h)
 ·exact .inl (.inr (.inl h))
 ·exact .inl (.inr (.inr (.inl h)))
 ·exact .inl (.inr (.inr (.inr ⟨x,(List.mem_filter.1 hx).1,h⟩)))
end
theorem Tryz.info118:(Tryz.prog.info? 118).map (fun i=>(i.zero,i.size,i.bytes)) = some (some (.slice none 0 0),1,24):=by kernel_rfl
theorem run_append_fresh (w:World) (ty:TypeId) (v:Value) (n:Nat) (xs:List Value) (hown:w.ownsRow 0 118 1 v n xs) (ad:Addr) (u:Value) (hu:w.cell? ad = some u) (h1:u.oneCell' = true) (hn:n ≤ 1099511627776) :
  ∃ v' w',(Builtin.append_ #[111,111] ty #[v,.slice (some ad) 1 1]).run Tryz.prog w = .ok v' w' ∧ w'.ownsRow 0 118 1 v' (n + 1) (xs ++ [u]) ∧ w.grownBy w' v.ownBlock ∧ (v'.ownBlock = v.ownBlock ∨ v'.ownBlock = some w.heap.size) ∧ v'.ownBlock ≠ none:=by
 obtain ⟨i,hi,hz0,hz1,hz2⟩:=info_parts Tryz.info118
 have hnews:∀ j x,[u][j]? = some x → w.cell? (ad.add j) = some x:=by
  intro j x hx
  cases j with
  | zero=>simp at hx; subst hx; simpa [Addr.add] using hu
  | succ j=>simp at hx
 have h1':∀ x ∈ [u],x.oneCell' = true:=by simpa using h1
 obtain ⟨v',w',hr,ho,hg,hnil⟩:=run_append_own (P:=Tryz.prog) w 0 111 ty 118 i (.slice none 0 0) 1 24 Tryz.underlying111 hi hz0 hz1 hz2 rfl (by decide) v n xs hown ad 1 1 [u] rfl hnews h1' (by unfold maxLen; omega) (by omega) (Nat.zero_le _)
 refine ⟨v',w',hr,ho,hg,?_,?_⟩
 ·rcases hown.2 with ⟨rfl,rfl⟩ | ⟨g,cap,cur,rfl,hbg,hgg,hnc,hcm,hcs,htake⟩
  ·have hx:xs = []:=List.eq_nil_of_length_eq_zero (by simpa using hown.1)
   subst hx
   have hr':=run_append_nil (P:=Tryz.prog) w 111 ty 118 i (.slice none 0 0) Tryz.underlying111 hi hz0 ad 1 1 [u] (by rw [hz1]; rfl) hnews (by omega) (by omega) (by rw [hz2]; omega)
   rw [hr] at hr'
   simp only [Result.ok.injEq] at hr'
   right
   rw [hr'.1]
   rfl
  ·by_cases hroom:n + 1 ≤ cap
   ·have hr':=run_append_room (P:=Tryz.prog) w 111 ty 118 i Tryz.underlying111 hi g n cap cur hgg ad 1 1 [u] (by rw [hz1]; rfl) hnews h1' hroom (by rw [hz1,hcs]; simp; omega)
    rw [hr] at hr'
    simp only [Result.ok.injEq] at hr'
    left
    rw [hr'.1]
    rfl
   ·have hr':=run_append_grow (P:=Tryz.prog) w 111 ty 118 i (.slice none 0 0) Tryz.underlying111 hi hz0 ⟨g,0,none⟩ n cap xs (by rw [hz1]; exact hown.1) (hown.cells (g:=g) rfl) ad 1 1 [u] (by rw [hz1]; rfl) hnews (by omega) (by omega) (by rw [hz2]; exact growslice_fits (by omega) (by omega))
    rw [hr] at hr'
    simp only [Result.ok.injEq] at hr'
    right
    rw [hr'.1]
    rfl
 ·rcases ho.2 with ⟨h,h2⟩ | ⟨g,cap,cur,h,_⟩
  ·omega
  ·rw [h]; simp [Value.ownBlock]
theorem step_append_fresh {ops:Array Oper} {o:Oper} {a:Act} {w:World} {K:Act → World → Prop} {Q:Exit → Act → World → Prop} {X:Prop}
  (hg:o.guard = none) (s x:Operand) (hop:o.op = Op.call { callee:=Callee.builtin Builtin.append,args:=#[s,x],argTypes:=#[111,111] })
  (v:Value) (n:Nat) (xs:List Value) (ad:Addr) (u:Value) (hs:a.eval s = v) (hx:a.eval x = .slice (some ad) 1 1) (hown:w.ownsRow 0 118 1 v n xs) (hu:w.cell? ad = some u) (h1:u.oneCell' = true) (hn:n ≤ 1099511627776)
  (hK:∀ g cap w',w'.ownsRow 0 118 1 (.slice (some ⟨g,0,none⟩) (n + 1) cap) (n + 1) (xs ++ [u]) → w.grownBy w' v.ownBlock → (some g = v.ownBlock ∨ g = w.heap.size) → K (a.put o.dst (.slice (some ⟨g,0,none⟩) (n + 1) cap)) w') :
  if Region.wanted o (yielded ops a.tmps) = true then Oper.wp Tryz.prog o a w K Q else X:=by
 have hw:Region.wanted o (yielded ops a.tmps) = true:=by simp [Region.wanted,hg]
 rw [if_pos hw]
 obtain ⟨v',w',hrun,r1,r2,r3,r4⟩:=run_append_fresh w o.type v n xs hown ad u hu h1 hn
 have hv:∃ g cap,v' = .slice (some ⟨g,0,none⟩) (n + 1) cap:=by
  rcases r1.2 with ⟨_,h⟩ | ⟨g,cap,_,h,_⟩
  ·omega
  ·exact ⟨g,cap,h⟩
 obtain ⟨g,cap,rfl⟩:=hv
 unfold Oper.wp
 simp [execOp,hop,resolve,invoke,builtin,hs,hx,hrun,Result.andThen]
 exact hK g cap w' r1 r2 (by rcases r3 with h | h; exact .inl h; right; simpa [Value.ownBlock] using h)
theorem ownsRow_touch {w w':World} {F:List Nat} {v:Value} {n:Nat} {xs:List Value} (h:w.ownsRow 0 118 1 v n xs) (ht:Tc F w w') (hF:∀ x,v.ownBlock = some x → x ∉ F):w'.ownsRow 0 118 1 v n xs:=by
 refine ⟨h.1,?_⟩
 rcases h.2 with hn | ⟨g,cap,cur,rfl,hb,hg,rest⟩
 ·exact .inl hn
 ·exact .inr ⟨g,cap,cur,rfl,hb,(ht.block g (ltB hg) (hF g rfl)).trans hg,rest⟩
end Go.Proofs.YthehcjjckabljaaGreatDoor
