import Derived.Deep.LoopGhost
import Derived.Test.YthehcjjckabljaaGreatDoorC20
namespace Go.Proofs.YthehcjjckabljaaGreatDoor
open Go.RowKit Go.Deep
set_option maxRecDepth 100000
set_option linter.unusedSimpArgs false
set_option linter.unusedVariables false
structure Here (w W:World) (b:Bn) (n:Nat) (A:PubA) (s:Pu.St) (F F':List Nat):Prop where
 S:Std W b n A s F'
 t:Tc F w W
 f:∀ y ∈ F',y ∈ F ∨ w.heap.size ≤ y
section
variable {w W W':World} {b:Bn} {n n':Nat} {A A':PubA} {s s':Pu.St} {F F':List Nat}
theorem Here.start (S:Std w b n A s F):Here w w b n A s F F:=⟨S,Tc.refl _ _,fun y hy=>.inl hy⟩
theorem Here.quiet (h:Here w W b n A s F F') (t:Tc [] W W'):Here w W' b n A s F F':=⟨h.S.quiet t,h.t.trans t (by simp),h.f⟩
theorem Here.went (h:Here w W b n A s F F') (g:Went W W' b n' A' s' F' []):∃ F2,Here w W' b n' A' s' F F2 ∧ Tc F' W W' ∧ ∀ y,y ∉ F' → y < W.heap.size → y ∉ F2:=by
 obtain ⟨F2,S2,t2,f2⟩:=g
 refine ⟨F2,⟨S2,(h.t.trans t2 (fun y hy=>h.f y (by simpa using hy))),fun y hy=>?_⟩,t2.mono (by simp),fun y h1 h2 hx=>?_⟩
 ·rcases f2 y hy with h1 | h1
  ·exact h.f y h1
  ·exact .inr (Nat.le_trans h.t.size h1)
 ·rcases f2 y hx with h3 | h3
  ·exact h1 h3
  ·omega
theorem Here.own {G:List Nat} (h:Here w W b n A s F F') (t:Tc G W W') (hlo:b.lo ≤ w.heap.size) (hG:∀ y ∈ G,y ∉ F' ∧ w.heap.size ≤ y):Here w W' b n A s F F':=
 ⟨h.S.touch t (fun y hy=>⟨(hG y hy).1,by have:=(hG y hy).2; omega⟩),h.t.trans t (fun y hy=>.inr (hG y hy).2),h.f⟩
theorem Here.last {G:List Nat} (h:Here w W b n A s F F') (g:Went W W' b n' A' s' F' G) (hG:∀ y ∈ G,w.heap.size ≤ y):Went w W' b n' A' s' F []:=
 Went.then (h.t.mono (by simp)) h.f g (fun y hy=>.inr (hG y hy))
theorem Here.old (h:Here w W b n A s F F') {y:Nat} (h1:y ∉ F) (h2:y < w.heap.size):y ∉ F':=fun hx=>by
 rcases h.f y hx with h3 | h3
 ·exact h1 h3
 ·omega
end
theorem catN_sz (g:Nat):(bs (catN g)).size ≤ 32:=by
 show (catN g).toArray.size ≤ 32
 rw [List.size_toArray]
 unfold catN
 simp [PureHex.hexW_len]
section
variable {w:World} {b:Bn} {n:Nat} {A:PubA} {s:Pu.St} {F:List Nat} {kb K:Nat} {T:Int} {t:Tbl} {gen:Nat} {so sr:Option Addr} {co cr:Nat}
def putA (A:PubA) (K:Nat) (t:Tbl) (g:Nat):PubA:=mkX A (bs (catN g)) true (bkO 5 K A.B (recsN t g) (nBk K (recsN t g).length)) (2 + (nBk K (recsN t g).length:Nat))
set_option maxHeartbeats 8000000 in
theorem commit_ok (S:Std w b n A s F) (C:LayOk b A (bs (catN (gen + 1))) 5 K (recsN t (gen + 1))) (hn:n < 274877906944) (hk:DkA w kb b (K:Int) T) (hkF:kb ∉ F) (hT:Tabs w) (h17:17 ≤ b.lo) (ht:TblAt w t so sr) (ho:∀ a,so = some a → t.order ≠ [] → a.block ∉ F ∧ a.block < w.heap.size) (hr:∀ a,sr = some a → t.rows ≠ [] → a.block ∉ F ∧ a.block < w.heap.size) (hfree:64 * (K:Int) ≤ s.free) (hg:gen < 18446744073709551615) (hfb:fmB t = true) (hov:overA A gen = false) (hrd:readyE A (sortU (filesN t.rows)) [] = 0) :
  Calls Tryz.prog 19 #[ptr kb,tblV t so sr co cr,.int .u64 (gen:Int)] w fun e w'=>e = .returned (.int .i64 (tidyB b (filesN t.rows ++ [catN (gen + 1)]) (putA A K t (gen + 1))).1) ∧
   Went w w' b (n + (recsN t (gen + 1)).length + 3 + (namesA (putA A K t (gen + 1))).length) (tidyB b (filesN t.rows ++ [catN (gen + 1)]) (putA A K t (gen + 1))).2 ((s.take (K:Int)).give (K:Int)) F []:=by
 have hroom:=S.room
 have hFlt:=S.lt
 have hklt:=ltB hk
 have hKK:=C.hK
 have hlen:=C.len
 have hl:=free_leave (s:=s) (K:=(K:Int)) (by omega) hfree
 have hwr:IntKind.u64.wrap ((gen:Int) + 1) = ((gen + 1:Nat):Int):=by rw [IntKind.wrap_u64]; omega
 have HRF:=hid (fun W (tt:Tc [] w W)=>(by
  have h:=refusal_desk (co:=co) (cr:=cr) (S.quiet tt) (by omega) (hk.touch tt (by simp)) (hT.quiet tt) (ht.touch tt (by simp) (by simp)) hg hfb
  rw [hov] at h
  unfold refuseE at h
  rw [if_neg (by simp [hfb]),if_neg (by omega),if_neg (by simp)] at h
  exact h:Calls Tryz.prog 45 #[ptr kb,tblV t so sr co cr,.int .u64 (gen:Int)] W fun e w'=>e = .returned (.int .i64 0) ∧ Tc [] W w'))
 have HFO:=hid (fun W (tt:Tc [] w W)=>filesOf_any (c:=cr) (ht.rows.touch tt (by simp)) ht.rl (fun x hx=>(ht.ri x hx).2) (hT.quiet tt))
 have HNM:=hid (fun W (hT':Tabs W)=>Nm.name_any (gen + 1) (by omega) W hT'.tz)
 have HWH:=hid (fun W F' (I:Here w W b n A s F F') (sa:Option Addr) (c:Nat) (hs:StrsAt W sa (sortU (filesN t.rows)))=>(by
  have hkn:kb ∉ F':=I.old hkF hklt
  have h1:=sortU_len (filesN t.rows)
  have h2:(filesN t.rows).length = t.rows.length:=by unfold filesN; simp
  have h3:=ht.rl
  have h:=whole_any (ci:=c) (co:=0) (lo:=[]) I.S (by omega) (hk.touch I.t hkF) hkn (by omega) hs (StrsAt.nil _ none) (by omega) (by simp) 0
  rw [wholeE_ok C.new.on hrd hfree] at h
  exact h:Calls Tryz.prog 47 #[ptr kb,.int .i64 0,.slice sa (sortU (filesN t.rows)).length c,.slice none 0 0] W fun e w'=>e = .returned (.int .i64 0) ∧ Went W w' b n A s F' []))
 have HWT:=hid (fun W F' (I:Here w W b n A s F F')=>(by
  have hkn:kb ∉ F':=I.old hkF hklt
  have hT':Tabs W:=hT.touch I.t (fun y hy=>by have:=S.base y hy; omega)
  exact write_ok (co:=co) (cr:=cr) I.S C (by omega) (hk.touch I.t hkF) hkn hT' (ht.touch2 I.t (fun a ha e=>(ho a ha e).1) (fun a ha e=>(hr a ha e).1)) (fun a ha e=>⟨I.old (ho a ha e).1 (ho a ha e).2,Nat.lt_of_lt_of_le (ho a ha e).2 I.t.size⟩) (fun a ha e=>⟨I.old (hr a ha e).1 (hr a ha e).2,Nat.lt_of_lt_of_le (hr a ha e).2 I.t.size⟩) hl (by omega)
   : Calls Tryz.prog 49 #[ptr kb,tblV t so sr co cr,.int .u64 ((gen + 1:Nat):Int)] W fun e w'=>e = .returned (.int .i64 0) ∧ Went W w' b (n + (recsN t (gen + 1)).length + 3) (putA A K t (gen + 1)) ((s.take (K:Int)).give (K:Int)) F' []))
 have HTD:=hid (fun W F' mb (I:Here w W b (n + (recsN t (gen + 1)).length + 3) (putA A K t (gen + 1)) ((s.take (K:Int)).give (K:Int)) F F') (hm:SeenAt W mb (filesN t.rows ++ [catN (gen + 1)])) (hmF:mb ∉ F') (hmw:w.heap.size ≤ mb)=>(by
  have hkn:kb ∉ F':=I.old hkF hklt
  exact tidy_any I.S (by omega) (hk.touch I.t hkF) hkn hm hmF (by omega)
   : Calls Tryz.prog 51 #[ptr kb,.map (some mb)] W fun e w'=>e = .returned (.int .i64 (tidyB b (filesN t.rows ++ [catN (gen + 1)]) (putA A K t (gen + 1))).1) ∧ Went W w' b (n + (recsN t (gen + 1)).length + 3 + (namesA (putA A K t (gen + 1))).length) (tidyB b (filesN t.rows ++ [catN (gen + 1)]) (putA A K t (gen + 1))).2 ((s.take (K:Int)).give (K:Int)) F' [mb]))
 have HTB:Hid (∀ W F',Tc F' w W → F' = F → Tabs W):=hid (fun W F' tt e=>hT.touch tt (fun y hy=>by subst e; have:=S.base y hy; omega))
 have HS:=hid S
 have HFL:=hid (show (filesN t.rows).length ≤ 1099511627776 by have h3:=ht.rl; unfold filesN; rw [List.length_map]; omega)
 have hnF:w.heap.size ∉ F:=fun h=>by have:=hFlt _ h; omega
 have HT0:=hid ((Tc.refl [] w).alloc (.cells #[.int .i64 t.vars,.slice so t.order.length co,.slice sr t.rows.length cr,.int .i64 t.next,.int .u64 (t.nf:Int)] 26))
 have HR0:=hid (heap_alloc_new w (.cells #[.int .i64 t.vars,.slice so t.order.length co,.slice sr t.rows.length cr,.int .i64 t.next,.int .u64 (t.nf:Int)] 26))
 clear S C hk hT ht ho hr hov hrd hfree hfb
 generalize (tidyB b (filesN t.rows ++ [catN (gen + 1)]) (putA A K t (gen + 1))).1 = r51 at *
 generalize (tidyB b (filesN t.rows ++ [catN (gen + 1)]) (putA A K t (gen + 1))).2 = A51 at *
 generalize n + (recsN t (gen + 1)).length + 3 + (namesA (putA A K t (gen + 1))).length = n51 at *
 generalize n + (recsN t (gen + 1)).length + 3 = n49 at *
 generalize putA A K t (gen + 1) = A49 at *
 simp only [tblV] at *
 go_enter Tryz.func19,Tryz.ntmps19
 go_wp2_with (go_at_call 45; refine (HRF.out _ HT0.out).mono ?_; rintro e w1 ⟨rfl,ht1⟩; have HT1:=hid (HT0.out.trans ht1 (by simp)); have HR1:=hid ((ht1.block _ (ltB HR0.out) (by simp)).trans HR0.out); clear ht1)
 rw [run_makeMap_n w1]
 obtain ⟨W2,hW2⟩:∃ W2,W2 = w1.alloc (.map #[] 0):=⟨_,rfl⟩
 have t2:Tc [] w1 W2:=by rw [hW2]; exact (Tc.refl [] w1).alloc _
 rw [← hW2]
 clear hW2
 have HT2:=hid (HT1.out.trans t2 (by simp))
 have HR2:=hid ((t2.block _ (ltB HR1.out) (by simp)).trans HR1.out)
 clear t2
 have c2:=fun i=>cRw HR2.out i
 go_wp2_with (first
  |(go_at_call 51; refine (HTD.out _ _ _ HI8.out HM8.out HNF6.out hmw).mono ?_; rintro e w9 ⟨rfl,hw9⟩; have HW9:=hid (HI8.out.last hw9 (by simp; exact hmw)); clear hw9)
  |(go_at_call 50; refine (add_any (HM6.out.touch HT7.out (by simp)) HFL.out (x:=bs (catN (gen + 1))) (catN_sz _)).mono ?_; rintro e w8 ⟨rfl,hs8,ht8⟩; have HM8:=hid hs8; have HI8:=hid ((HI6.out.quiet HT7.out).own ht8 hroom (by simp; exact ⟨HNF6.out,hmw⟩)); clear hs8 ht8)
  |(go_at_call 22; refine (HNM.out _ (HTB.out _ _ HI6.out.t rfl)).mono ?_; rintro e w7 ⟨rfl,hb7⟩; have HT7:=hid (Tc.of_below (F:=[]) hb7 (Nat.le_refl _)); clear hb7)
  |(go_at_call 49; refine (HWT.out _ _ HI5.out).mono ?_; rintro e w6 ⟨rfl,hw6⟩; obtain ⟨F6,hI6,tt6,n6⟩:=HI5.out.went hw6; have HI6:=hid hI6; have HM6:=hid (HM5.out.touch tt6 HNF5.out); have HNF6:=hid (n6 _ HNF5.out HM5.out.lt); clear hI6 tt6 n6 hw6)
  |(go_at_call 47; refine (HWH.out _ F ((Here.start HS.out).quiet HT4.out) _ _ HSR.out).mono ?_; rintro e w5 ⟨rfl,hw5⟩; obtain ⟨F5,hI5,tt5,n5⟩:=((Here.start HS.out).quiet HT4.out).went hw5; have HI5:=hid hI5; have HM5:=hid (HM4.out.touch tt5 hmF); have HNF5:=hid (n5 _ hmF HM4.out.lt); have HR5:=hid ((tt5.block _ (ltB HR4.out) hnF).trans HR4.out); have c5:=(fun i=>cRw HR5.out i); clear hI5 tt5 n5 hw5)
  |(go_at_call 48; refine (sorted_any HMB.out HFL.out).mono ?_; rintro e w4 ⟨sa,c,rfl,hsa,ht4⟩; have HSR:=hid hsa; have HT4:=hid (HT3.out.trans ht4 (by simp)); have HM4:=hid (HMB.out.touch ht4 (by simp)); have HR4:=hid ((ht4.block _ (ltB HR3.out) (by simp)).trans HR3.out); clear hsa ht4)
  |(go_at_call 46; refine (HFO.out _ HT2.out).mono ?_; rintro e w3 ⟨mb,rfl,hmb,hsm,ht3⟩; have HMB:=hid hsm; have HT3:=hid (HT2.out.trans ht3 (by simp)); have HR3:=hid ((ht3.block _ (ltB HR2.out) (by simp)).trans HR2.out); have hmw:w.heap.size ≤ mb:=Nat.le_trans HT2.out.size hmb; have hmF:mb ∉ F:=(fun h=>by have:=hFlt _ h; omega); clear hsm ht3))
 go_ret
 exact ⟨rfl,HW9.out⟩
end
section
variable {w w':World} {E:Nat → Addr} {lo p mf mt:Nat} {D:DkC}
theorem fileOf_fin {B:Nat} {o:Obj} {w1:World} {sv:Value} {bs:List Nat} {blocks:List (List UInt8)} (x:Bool) (hb:BkA w1 B sv bs blocks) (hf:FreshB (w.alloc o).heap.size sv bs) (ht:Below (w.alloc o).heap.size (w.alloc o) w1) :
  FileAt (w1.alloc (.cells #[.int .i64 (if x then 1 else 0),sv] 160)) B ⟨w1.heap.size,sv,bs⟩ ⟨x,blocks⟩ ∧ (∀ b ∈ (⟨w1.heap.size,sv,bs⟩:Lay).foot,w.heap.size ≤ b) ∧ (⟨w1.heap.size,sv,bs⟩:Lay).foot.Nodup ∧ ∀ o':Obj,Below w.heap.size w (w1.alloc o'):=by
 have hs:(w.alloc o).heap.size = w.heap.size + 1:=by simp
 have hs1:=ht.size
 have hk:=hb.kept (w':=w1.alloc (.cells #[.int .i64 (if x then 1 else 0),sv] 160)) fun b hb'=>Below.heap_alloc w1 _ b (by rcases hb' with h' | h'; exact hb.lt.1 b h'; exact hb.lt.2 b h')
 refine ⟨⟨heap_alloc_new w1 _,hk.own,hk.bytes⟩,fun b hb'=>?_,?_,fun o'=>?_⟩
 ·simp only [Lay.foot,List.mem_cons,List.mem_append,Option.mem_toList] at hb'
  rcases hb' with rfl | h | h
  ·omega
  ·have:=hf.1 b h; omega
  ·have:=hf.2.1 b h; omega
 ·show (w1.heap.size :: (sv.ownBlock.toList ++ bs)).Nodup
  rw [List.nodup_cons]
  refine ⟨fun h=>?_,hf.2.2⟩
  rcases List.mem_append.1 h with h | h
  ·have:=hb.lt.1 _ (by simpa using h); omega
  ·have:=hb.lt.2 _ h; omega
 ·exact (((Below.refl _ w).alloc (Nat.le_refl _) o).trans (ht.mono (by omega))).alloc (by omega) _
theorem less_before:∀ a b:List UInt8,Op.bytesLess a b = bytesBefore a b
 | [],[]=>rfl
 | _ :: _,[]=>rfl
 | [],_ :: _=>rfl
 | a :: x,b :: y=>by simp only [Op.bytesLess,bytesBefore,less_before x y]
theorem behind {a b:List UInt8} (h:bytesBefore a b = true):(Op.bytesLess b a || b == a) = false:=by
 rw [less_before]
 have hne:b ≠ a:=fun e=>by subst e; rw [WideAt.bytes_irrefl] at h; cases h
 have h1:bytesBefore b a = false:=by
  cases hx:bytesBefore b a with
  | false=>rfl
  | true =>
   have:=WideShapes.bytes_trans _ _ _ h hx
   rw [WideAt.bytes_irrefl] at this
   cases this
 simp [h1,hne]
end
def lastN (l:List SFl) (k:Nat):List UInt8:=match k with | 0=>[] | j + 1=>(l[j]?.map SFl.name).getD []
def usedN (l:List SFl) (k:Nat):Nat:=((l.take k).map fun e=>e.file.blocks.length).sum
theorem usedN_succ {l:List SFl} {k:Nat} {e:SFl} (h:l[k]? = some e):usedN l (k + 1) = usedN l k + e.file.blocks.length:=by
 unfold usedN
 obtain ⟨hk,rfl⟩:=List.getElem?_eq_some_iff.1 h
 rw [List.take_succ_eq_append_getElem hk,List.map_append,List.sum_append]
 simp only [List.map_cons,List.map_nil,List.sum_cons,List.sum_nil,Nat.add_zero]
theorem usedN_le (l:List SFl) (k:Nat):usedN l k ≤ usedN l l.length:=by
 unfold usedN
 rw [List.take_length]
 have h:=congrArg (fun x=>(x.map fun e:SFl=>e.file.blocks.length).sum) (List.take_append_drop k l)
 simp only [List.map_append,List.sum_append] at h
 omega
structure GoodL (l:List SFl):Prop where
 names:∀ e ∈ l,nameB ⟨e.name.toArray⟩ = true
 rising:l.Pairwise fun a b=>bytesBefore a.name b.name = true
 few:l.length ≤ 1099511627776
 blocks:usedN l l.length ≤ 1099511627776
theorem GoodL.one {l:List SFl} (h:GoodL l) {k:Nat} {e:SFl} (he:l[k]? = some e):e.file.blocks.length ≤ 1099511627776:=by
 have h1:=usedN_succ he
 have h2:=usedN_le l (k + 1)
 have h3:=h.blocks
 omega
theorem GoodL.behind {l:List SFl} (h:GoodL l) {k:Nat} {e:SFl} (he:l[k]? = some e):(Op.bytesLess e.name (lastN l k) || e.name == lastN l k) = false:=by
 cases k with
 | zero =>
  have hn:=h.names e (List.mem_of_getElem? he)
  have hne:e.name ≠ []:=by
   intro e1
   unfold nameB at hn
   simp at hn
   have:=hn.1.1
   rw [show (⟨e.name.toArray⟩:ByteArray).size = e.name.length from by show e.name.toArray.size = _; simp,e1] at this
   simp at this
  simp only [lastN]
  cases hx:e.name with
  | nil=>exact absurd hx hne
  | cons a r=>simp [Op.bytesLess]
 | succ j =>
  obtain ⟨hk,rfl⟩:=List.getElem?_eq_some_iff.1 he
  have hj:l[j]? = some (l[j]'(by omega)):=List.getElem?_eq_getElem (by omega)
  have hb:=List.pairwise_iff_getElem.1 h.rising j (j + 1) (by omega) hk (by omega)
  have:lastN l (j + 1) = (l[j]'(by omega)).name:=by simp [lastN,hj]
  rw [this]
  exact Go.Proofs.YthehcjjckabljaaGreatDoor.behind hb
section
variable {w w':World} {E:Nat → Addr} {lo p mf mt:Nat} {D:DkC}
end
theorem insE_end {e:Ent}:∀ {l:List Ent},(∀ y ∈ l,bytesBefore y.name e.name = true) → insE e l = l ++ [e]
 | [],_=>rfl
 | y :: r,h=>by
  have hy:=h y (by simp)
  have hn:(Lit.string e.name).before (.string y.name) = false:=by
   show bytesBefore e.name y.name = false
   cases hx:bytesBefore e.name y.name with
   | false=>rfl
   | true =>
    have:=WideShapes.bytes_trans _ _ _ hy hx
    rw [WideAt.bytes_irrefl] at this
    cases this
  unfold insE
  rw [hn]
  simp [insE_end (l:=r) fun z hz=>h z (by simp [hz])]
section
variable {w w':World} {E:Nat → Addr} {lo p mf mt:Nat} {D:DkC}
theorem Rep.insertFile (R:Rep w lo p mf mt D) {e:Ent} (hs:e.name.length ≤ 32) (hfind:findE D.ents e.name = none) (ht:Tc [mf] w w') (hfresh:∀ b ∈ e.lay.foot,w.heap.size ≤ b) (hlo:lo ≤ w.heap.size) (hnd:e.lay.foot.Nodup) (hat:FileAt w' D.B e.lay e.file)
  (hmap:w'.ownsMap Tryz.prog 9 ptrElem mf (D.ents.length + 1) ((mapOf D.ents).put (.string e.name) (.lit (.int .i64 e.lay.fb)))):Rep w' lo p mf mt { D with ents:=insE e D.ents }:=by
 obtain ⟨n,hT⟩:=R.troubles
 have hne:=R.p_ne
 have hperm:=insE_perm e D.ents
 have hfoot:(DkC.foot { D with ents:=insE e D.ents } p mf mt).Perm (e.lay.foot ++ D.foot p mf mt):=by
  simp only [DkC.foot]
  have h1:=hperm.flatMap_right fun e:Ent=>e.lay.foot
  rw [List.flatMap_cons] at h1
  refine (((h1.cons mt).cons mf).cons p).trans ?_
  refine .trans (((List.perm_middle (a:=mt)).symm.cons mf).cons p) ?_
  refine .trans ((List.perm_middle (a:=mf)).symm.cons p) ?_
  exact (List.perm_middle (a:=p)).symm
 have hold:∀ b ∈ D.foot p mf mt,b ≠ mf → w'.heap[b]? = w.heap[b]?:=fun b hb h=>ht.block b (R.lt b hb) (by simp [h])
 refine ⟨(hold p (by simp [DkC.foot]) hne.2.1).trans R.row,?_,⟨n,ownsMap_kept hT (hold mt (by simp [DkC.foot]) hne.2.2.symm)⟩,?_,?_,?_,?_⟩
 ·rw [put_map hfind] at hmap
  show w'.ownsMap Tryz.prog 9 ptrElem mf (insE e D.ents).length _
  rw [hperm.length_eq]
  exact hmap
 ·intro x hx
  rcases List.mem_cons.1 (hperm.mem_iff.1 hx) with rfl | hx
  ·exact hat
  ·exact (R.each x hx).kept fun b hb=>by
    have:=R.ent_ne hx hb
    exact ht.block b this.2.2.2.1 (by simp [this.2.1])
 ·rw [hfoot.nodup_iff,List.nodup_append]
  exact ⟨hnd,R.apart,fun x hx y hy h=>by have:=hfresh x hx; have:=R.lt y hy; omega⟩
 ·intro b hb
  rcases List.mem_append.1 (hfoot.mem_iff.1 hb) with hb | hb
  ·exact Nat.le_trans hlo (hfresh b hb)
  ·exact R.base b hb
 ·intro x hx
  rcases List.mem_cons.1 (hperm.mem_iff.1 hx) with rfl | hx
  ·exact hs
  ·exact R.names x hx
def mountA (B:Nat) (Bs:Int) (l:List SFl) (k:Nat):PubA:=⟨B,Bs,true,(l.take k).map SFl.pub,⟨0,0,0,0,0,usedN l k,usedN l k⟩⟩
theorem mount_arm {wr X wx:World} {a b c:Value} {t:TypeId} (R:Rep wr lo p mf mt D) (T:Tc [] wr X) (row:X.heap[wr.heap.size]? = some (.cells #[a,b,c] t (0,0))) (hb:Below X.heap.size X wx) :
  Tc [] wr wx ∧ wx.heap[wr.heap.size]? = some (.cells #[a,b,c] t (0,0)) ∧ wx.cell? ⟨p,3,none⟩ = some (.map (some mf)) ∧ wx.cell? ⟨wr.heap.size,0,none⟩ = some a ∧ wx.cell? ⟨wr.heap.size,1,none⟩ = some b ∧ wx.cell? ⟨wr.heap.size,2,none⟩ = some c:=by
 have hr:=(hb.block _ (ltB row)).trans row
 have hT:Tc [] wr wx:=T.trans (Tc.of_below (F:=[]) hb (Nat.le_refl _)) (by simp)
 exact ⟨hT,hr,(hT.cell (p:=⟨p,3,none⟩) (ltB R.row) (by simp)).trans (R.cell 3),cRw hr 0,cRw hr 1,cRw hr 2⟩
theorem mount_upd {wr wx:World} {a b c:Value} {t:TypeId} {s:List UInt8} (R:Rep wr lo p mf mt D) (T:Tc [] wr wx) (row:wx.heap[wr.heap.size]? = some (.cells #[a,b,c] t (0,0))) (hn:D.ents.length ≤ 1099511627776) (hs:s.length ≤ 32) (fb:Nat) :
  ∃ wA,(Instr.mapUpdate 97 (.map (some mf)) (encStr s) (ptr fb)).run Tryz.prog wx = .ok () wA ∧ wA.ownsMap Tryz.prog 9 ptrElem mf (D.ents.length + 1) ((mapOf D.ents).put (.string s) (.lit (.int .i64 fb))) ∧ wx.grownBy wA (some mf) ∧
   wA.cell? ⟨p,3,none⟩ = some (.map (some mf)) ∧ wA.cell? ⟨wr.heap.size,0,none⟩ = some a ∧ wA.cell? ⟨wr.heap.size,1,none⟩ = some b ∧ wA.cell? ⟨wr.heap.size,2,none⟩ = some c:=by
 have h1:=ownsMap_kept R.files (T.block mf R.files.lt (by simp))
 obtain ⟨wA,a1,a2,a3⟩:=file_store h1 hn (s:=⟨s.toArray⟩) (show s.toArray.size ≤ 32 by simpa using hs) fb
 have hl:=R.files.lt
 have hr:=(a3.block _ (ltB row) (by simp; omega)).trans row
 have hp:wx.cell? ⟨p,3,none⟩ = some (.map (some mf)):=(T.cell (p:=⟨p,3,none⟩) (ltB R.row) (by simp)).trans (R.cell 3)
 exact ⟨wA,a1,a2,a3,a3.cell hp (by simp [R.p_ne.2.1]),cRw hr 0,cRw hr 1,cRw hr 2⟩
end
section
variable {w w':World} {E:Nat → Addr} {lo p mf mt:Nat} {D:DkC} {fv:Value} {l:List SFl}
theorem BkA.sliceL {B:Nat} {sv:Value} {bs:List Nat} {blocks:List (List UInt8)} (h:BkA w B sv bs blocks):∃ a c,sv = .slice a blocks.length c:=by
 by_cases h0:blocks.length = 0
 ·rw [h0]; exact h.slice0 h0
 ·obtain ⟨g,c,e⟩:=h.slice1 h0
  exact ⟨_,c,e⟩
theorem StateAt.sliceL {n B:Nat} {fv:Value} {l:List SFl} (h:StateAt w n B fv l):∃ a c,fv = .slice a l.length c:=by
 by_cases h0:l.length = 0
 ·rw [h0]; exact h.slice0 h0
 ·obtain ⟨g,c,e⟩:=h.slice1 h0
  exact ⟨_,c,e⟩
end
section
variable {w w':World} {E:Nat → Addr} {lo p mf mt:Nat} {D:DkC}
structure Shows (w:World) (sa:Option Addr) (n c:Nat) (d:List UInt8):Prop where
 len:d.length = n
 cap:n ≤ c
 at_:0 < n → ∃ a,sa = some a ∧ a.block < w.heap.size ∧ ∀ j v,(Lib.byteCells d)[j]? = some v → w.cell? (a.add j) = some v
 nil:sa = none → n = 0 ∧ c = 0
theorem shows_own {base n:Nat} {v:Value} {d:List UInt8} (h:w.ownsRow base 5 1 v n (Lib.byteCells d)):∃ sa c,v = .slice sa n c ∧ Shows w sa n c d ∧ ∀ a,sa = some a → base ≤ a.block:=by
 have hl:d.length = n:=by simpa [Lib.byteCells_length] using h.1
 rcases h.2 with ⟨rfl,rfl⟩ | ⟨g,cap,cur,rfl,hb,hg,hn,_⟩
 ·exact ⟨none,0,rfl,⟨hl,Nat.le_refl _,fun h=>by omega,fun _=>⟨rfl,rfl⟩⟩,by simp⟩
 ·refine ⟨some ⟨g,0,none⟩,cap,rfl,⟨hl,hn,fun _=>⟨_,rfl,ltB hg,fun j v hv=>h.cells (g:=g) rfl j v hv⟩,by simp⟩,?_⟩
  intro a ha
  simp at ha
  subst ha
  exact hb
end
section
variable {w w':World}
theorem Shows.touch {sa:Option Addr} {n c:Nat} {d:List UInt8} {F:List Nat} (h:Shows w sa n c d) (ht:Tc F w w') (hF:∀ a,sa = some a → a.block ∉ F):Shows w' sa n c d:=
 ⟨h.len,h.cap,fun h0=>by
  obtain ⟨a,e,hl,hc⟩:=h.at_ h0
  exact ⟨a,e,by have:=ht.size; omega,fun j v hv=>by
   have h1:=hc j v hv
   have hb:(a.add j).block = a.block:=by unfold Addr.add; split <;> rfl
   rw [ht.cell (by rw [hb]; exact hl) (by rw [hb]; exact hF a e)]
   exact h1⟩,h.nil⟩
theorem conv_shows {sa:Option Addr} {n c:Nat} {d:List UInt8} (h:Shows w sa n c d):(convert 118 9 (.slice sa n c)).run Tryz.prog w = .ok (encStr d) w:=by
 have hl:=h.len
 subst hl
 cases sa with
 | none =>
  obtain ⟨e1,e2⟩:=h.nil rfl
  have:d = []:=List.eq_nil_of_length_eq_zero e1
  subst this
  subst e2
  rw [show ([]:List UInt8).length = 0 from rfl,run_convert_bytes_string w 118 9 5 none 0 0 Tryz.underlying118 Tryz.underlying5 Tryz.underlying9]
  simp [Conv.bytesToString,encStr]
  try rfl
 | some a =>
  refine run_convert_bytes_back (P:=Tryz.prog) w 118 9 5 a c d Tryz.underlying118 Tryz.underlying5 Tryz.underlying9 (fun j hj=>?_)
  obtain ⟨a',e,_,hc⟩:=h.at_ (by omega)
  simp only [Option.some.injEq] at e
  subst e
  exact hc j _ (by simp [Lib.byteCells,List.getElem?_eq_getElem hj])
end
section
variable {w w':World} {E:Nat → Addr} {lo p mf mt:Nat} {D:DkC}
structure BlocksSh (w:World) (sv:Value) (blocks:List (List UInt8)):Prop where
 sl:∃ a c,sv = .slice a blocks.length c
 at_:∀ i (hi:i < blocks.length),∃ G gc xa xn xc,sv = .slice (some ⟨G,0,none⟩) blocks.length gc ∧ w.cell? ⟨G,i,none⟩ = some (.slice xa xn xc) ∧ Shows w xa xn xc blocks[i]
theorem bytes_shows {b B:Nat} {bl:List UInt8} (h:BytesAt w b bl) (hl:bl.length = B):Shows w (some ⟨b,0,none⟩) B B bl:=by
 subst hl
 refine ⟨rfl,Nat.le_refl _,fun _=>⟨_,rfl,ltB h,fun j v hv=>?_⟩,fun e=>by simp at e⟩
 exact bytes_src h j v hv
theorem BkA.sh {B:Nat} {sv:Value} {bs:List Nat} {blocks:List (List UInt8)} (h:BkA w B sv bs blocks):BlocksSh w sv blocks:=by
 refine ⟨h.sliceL,fun i hi=>?_⟩
 obtain ⟨g,cap,b,e,c,hl,hby,_⟩:=h.at hi
 exact ⟨g,cap,_,_,_,e,c,bytes_shows hby hl⟩
end
section
variable {w w':World}
theorem azA (b j:Nat):(⟨b,0,none⟩:Addr).add j = ⟨b,j,none⟩:=by unfold Addr.add; split <;> simp_all
end
structure BlIn (w:World) (sv:Value) (blocks:List (List UInt8)):Prop where
 sl:∃ a c,sv = .slice a blocks.length c
 at_:∀ i (hi:i < blocks.length),∃ a c xa xn xc,sv = .slice (some a) blocks.length c ∧ a.block < w.heap.size ∧ w.cell? (a.add i) = some (.slice xa xn xc) ∧ Shows w xa xn xc blocks[i]
structure StIn (w:World) (fv:Value) (l:List SFl):Prop where
 sl:∃ a c,fv = .slice a l.length c
 at_:∀ (k:Nat) (e:SFl),l[k]? = some e → ∃ a c,fv = .slice (some a) l.length c ∧ a.block < w.heap.size ∧ w.cell? (a.add (k * 3)) = some (encStr e.name) ∧ w.cell? ⟨(a.add (k * 3)).block,(a.add (k * 3)).off + 1,none⟩ = some (.bool e.file.shut) ∧ w.cell? ⟨(a.add (k * 3)).block,(a.add (k * 3)).off + 2,none⟩ = some e.sv ∧ BlIn w e.sv e.file.blocks
section
variable {w w':World} {sv fv:Value} {blocks:List (List UInt8)} {l:List SFl}
theorem BlIn.below (h:BlIn w sv blocks) (hb:Below w.heap.size w w'):BlIn w' sv blocks:=
 ⟨h.sl,fun i hi=>by
  obtain ⟨a,c,xa,xn,xc,e,hl,hc,hs⟩:=h.at_ i hi
  exact ⟨a,c,xa,xn,xc,e,Nat.lt_of_lt_of_le hl hb.size,(hb.cell (by rw [add_block]; exact hl)).trans hc,hs.touch (Tc.of_below (F:=[]) hb (Nat.le_refl _)) (by simp)⟩⟩
theorem StIn.below (h:StIn w fv l) (hb:Below w.heap.size w w'):StIn w' fv l:=
 ⟨h.sl,fun k e he=>by
  obtain ⟨a,c,e1,hl,c0,c1,c2,hbl⟩:=h.at_ k e he
  have hc:∀ q:Addr,q.block = (a.add (k * 3)).block → w'.cell? q = w.cell? q:=fun q hq=>hb.cell (by rw [hq,add_block]; exact hl)
  exact ⟨a,c,e1,Nat.lt_of_lt_of_le hl hb.size,(hc _ rfl).trans c0,(hc ⟨(a.add (k * 3)).block,(a.add (k * 3)).off + 1,none⟩ rfl).trans c1,(hc ⟨(a.add (k * 3)).block,(a.add (k * 3)).off + 2,none⟩ rfl).trans c2,hbl.below hb⟩⟩
end
section
variable {w w':World}
theorem below_upA {n:Nat} {w2:World} (h:Below (w.drewN n).heap.size (w.drewN n) w2):∀ (q:Addr) v,w.cell? q = some v → w2.cell? q = some v:=fun q _ hv=>(h.cell (p:=q) (World.block_lt_of_cell? w _ hv)).trans hv
theorem BlIn.slice1 {sv:Value} {blocks:List (List UInt8)} (h:BlIn w sv blocks) (h0:¬ blocks.length = 0):∃ a c,sv = .slice (some a) blocks.length c:=by
 obtain ⟨a,c,_,_,_,e,_⟩:=h.at_ 0 (by omega)
 exact ⟨a,c,e⟩
theorem StIn.one {fv:Value} {l:List SFl} (h:StIn w fv l) (h0:¬ l.length = 0):∃ a c,fv = .slice (some a) l.length c:=by
 obtain ⟨a,c,e,_⟩:=h.at_ 0 _ (List.getElem?_eq_getElem (by omega))
 exact ⟨a,c,e⟩
theorem BlIn.round {sv:Value} {blocks:List (List UInt8)} {W wr:World} {k gc:Nat} {A:Addr} (h:BlIn w sv blocks) (hk:k < blocks.length) (hb:Below w.heap.size w W) (hq:Quiet W wr) (e:sv = .slice (some A) blocks.length gc) :
  ∃ xa xn xc,wr.cell? (A.add k) = some (.slice xa xn xc) ∧ ∀ n,(convert 118 9 (.slice xa xn xc)).run Tryz.prog (wr.drewN n) = .ok (encStr blocks[k]) (wr.drewN n):=by
 have hbr:Below w.heap.size w wr:=hb.trans ((Quiet.touch hq []).below hb.size (by simp))
 obtain ⟨a,cap,xa,xn,xc,e1,_,c,hs⟩:=(h.below hbr).at_ k hk
 rw [e] at e1
 simp only [Value.slice.injEq,Option.some.injEq] at e1
 obtain ⟨rfl,_⟩:=e1
 exact ⟨xa,xn,xc,c,fun n=>conv_shows (hs.touch (F:=[]) ((Tc.refl _ _).drewN n) (by simp))⟩
theorem StIn.read {fv:Value} {l:List SFl} {k gc:Nat} {A:Addr} {e:SFl} (h:StIn w fv l) (he:l[k]? = some e) (hv:fv = .slice (some A) l.length gc):w.cell? (A.add (k * 3)) = some (encStr e.name) ∧ w.cell? ⟨(A.add (k * 3)).block,(A.add (k * 3)).off + 1,none⟩ = some (.bool e.file.shut) ∧ w.cell? ⟨(A.add (k * 3)).block,(A.add (k * 3)).off + 2,none⟩ = some e.sv ∧ BlIn w e.sv e.file.blocks:=by
 obtain ⟨a,c,e1,_,c0,c1,c2,hb⟩:=h.at_ k e he
 rw [hv] at e1
 simp only [Value.slice.injEq,Option.some.injEq] at e1
 obtain ⟨rfl,_⟩:=e1
 exact ⟨c0,c1,c2,hb⟩
set_option maxRecDepth 100000 in
set_option maxHeartbeats 400000 in
theorem SameFile_in {s:ByteArray} {x:Bool} {sv1 sv2:Value} {blocks:List (List UInt8)} (h1:BlIn w sv1 blocks) (h2:BlIn w sv2 blocks) (hn:blocks.length ≤ 1099511627776) :
  Calls Tryz.prog 66 #[.agg #[.string s,.bool x,sv1],.agg #[.string s,.bool x,sv2]] w fun e w'=>e = .returned (.bool true) ∧ Below w.heap.size w w':=by
 by_cases h0:blocks.length = 0
 ·obtain ⟨a1,c1,e1⟩:=h1.sl
  obtain ⟨a2,c2,e2⟩:=h2.sl
  rw [e1,e2,h0]
  clear h1 h2 e1 e2 h0
  cases x
  all_goals
   go_enter Tryz.func66,Tryz.ntmps66
   go_wp2
   refine wp_loop_rounds 1 ?_
   rw [rounds_succ]
   go_wp2
   go_ret
   exact ⟨rfl,((Below.refl _ w).alloc (Nat.le_refl _) _).alloc (by simp) _⟩
 ·obtain ⟨A1,gc1,e1⟩:=h1.slice1 h0
  obtain ⟨A2,gc2,e2⟩:=h2.slice1 h0
  have H1:=hid h1
  have H2:=hid h2
  have E1:=hid e1
  have E2:=hid e2
  rw [e1,e2]
  clear h1 h2 e1 e2
  obtain ⟨W,hW⟩:∃ W,W = (w.alloc (.cells #[.string s,.bool x,.slice (some A1) blocks.length gc1] 113)).alloc (.cells #[.string s,.bool x,.slice (some A2) blocks.length gc2] 113):=⟨_,rfl⟩
  have hW1:=heap_two w (.cells #[.string s,.bool x,.slice (some A1) blocks.length gc1] 113) (.cells #[.string s,.bool x,.slice (some A2) blocks.length gc2] 113)
  rw [← hW] at hW1
  have hTW:Below w.heap.size w W:=by rw [hW]; exact ((Below.refl _ w).alloc (Nat.le_refl _) _).alloc (by simp) _
  have b1:=cRw hW1.1 2
  have b2:=cRw hW1.2 2
  simp at b1 b2
  have HE:=hid hW
  have HTW:=hid hTW
  clear hW hW1 hTW
  cases x
  all_goals
   go_enter Tryz.func66,Tryz.ntmps66
   go_wp2
   rw [← HE.out]
   go_loopw [5] (fun i wr=>∃ k:Nat,k ≤ blocks.length ∧ i = .int .i64 k ∧ Quiet W wr) (fun i _=>blocks.length - (intOf i).toNat)
   case atStart=>exact ⟨0,Nat.zero_le _,rfl,0,rfl⟩
   case round =>
    obtain ⟨k,hk,rfl,hq⟩:=hrel
    have d1:=(Quiet.cell hq _).trans b1
    have d2:=(Quiet.cell hq _).trans b2
    by_cases hlt:k < blocks.length
    ·obtain ⟨xa,xn,xc,g1,cv1⟩:=H1.out.round hlt HTW.out hq E1.out
     obtain ⟨ya,yn,yc,g2,cv2⟩:=H2.out.round hlt HTW.out hq E2.out
     have HQ:=hid hq
     clear hq b1 b2
     go_wp2
     go_quiet (fail)
     go_wp2
     go_roundw
     case rel=>exact ⟨k + 1,by omega,by go_num,quiet_more HQ.out _⟩
     case measure=>simp [intOf]; omega
    ·have HQ:=hid hq
     clear hq b1 b2
     go_wp2
     go_ret
     exact ⟨rfl,HTW.out.trans ((Quiet.touch HQ.out []).below HTW.out.size (by simp))⟩
set_option maxRecDepth 100000 in
set_option maxHeartbeats 400000 in
theorem SameState_in {x:Int} {fv1 fv2:Value} {l1 l2:List SFl} (h1:StIn w fv1 l1) (h2:StIn w fv2 l2) (hp:l1.map SFl.pub = l2.map SFl.pub) (hn:l1.length ≤ 1099511627776) (hnb:∀ e ∈ l1,e.file.blocks.length ≤ 1099511627776) :
  Calls Tryz.prog 31 #[.agg #[.int .i64 x,fv1],.agg #[.int .i64 x,fv2]] w fun e w'=>e = .returned (.bool true) ∧ Below w.heap.size w w':=by
 have hll:l1.length = l2.length:=by simpa using congrArg List.length hp
 obtain ⟨a1,c1,e1⟩:=h1.sl
 obtain ⟨a2,c2,e2⟩:=h2.sl
 by_cases h0:l1.length = 0
 ·rw [e1,e2,← hll,h0]
  clear h1 h2 e1 e2 h0 hll hp
  go_enter Tryz.func31,Tryz.ntmps31
  go_wp2
  refine wp_loop_rounds 1 ?_
  rw [rounds_succ]
  go_wp2
  go_ret
  exact ⟨rfl,((Below.refl _ w).alloc (Nat.le_refl _) _).alloc (by simp) _⟩
 ·clear e1 e2
  obtain ⟨A1,gc1,e1⟩:=h1.one h0
  obtain ⟨A2,gc2,e2⟩:=h2.one (by omega)
  have H1:=hid h1
  have H2:=hid h2
  have E1:=hid e1
  have E2:=hid e2
  have HP:=hid hp
  have HNB:=hid hnb
  have HL:=hid hll
  rw [e1,e2,← hll]
  clear h1 h2 e1 e2 hll hp hnb
  obtain ⟨W,hW⟩:∃ W,W = (w.alloc (.cells #[.int .i64 x,.slice (some A1) l1.length gc1] 42)).alloc (.cells #[.int .i64 x,.slice (some A2) l1.length gc2] 42):=⟨_,rfl⟩
  have hW1:=heap_two w (.cells #[.int .i64 x,.slice (some A1) l1.length gc1] 42) (.cells #[.int .i64 x,.slice (some A2) l1.length gc2] 42)
  rw [← hW] at hW1
  have hTW:Below w.heap.size w W:=by rw [hW]; exact ((Below.refl _ w).alloc (Nat.le_refl _) _).alloc (by simp) _
  have HW:=hid hW1
  have HE:=hid hW
  have HTW:=hid hTW
  clear hW hW1 hTW
  go_enter Tryz.func31,Tryz.ntmps31
  go_wp2
  rw [← HE.out]
  go_loopw [5] (fun i wr=>∃ k:Nat,k ≤ l1.length ∧ i = .int .i64 k ∧ Below W.heap.size W wr) (fun i _=>l1.length - (intOf i).toNat)
  case atStart=>exact ⟨0,Nat.zero_le _,rfl,Below.refl _ _⟩
  case round =>
   obtain ⟨k,hk,rfl,hq⟩:=hrel
   have r1:wr.heap[w.heap.size]? = some (.cells #[.int .i64 x,.slice (some A1) l1.length gc1] 42):=(hq.block _ (ltB HW.out.1)).trans HW.out.1
   have r2:wr.heap[w.heap.size + 1]? = some (.cells #[.int .i64 x,.slice (some A2) l1.length gc2] 42):=(hq.block _ (ltB HW.out.2)).trans HW.out.2
   have d1:=cRw r1 1
   have d2:=cRw r2 1
   simp at d1 d2
   have hbw:Below w.heap.size w wr:=HTW.out.trans (hq.mono HTW.out.size)
   by_cases hlt:k < l1.length
   ·have hlt2:k < l2.length:=by have:=HL.out; omega
    have hpk:l1[k].pub = l2[k].pub:=by
     have:=congrArg (fun l=>l[k]?) HP.out
     simpa [List.getElem?_eq_getElem hlt,List.getElem?_eq_getElem hlt2] using this
    have hnm:l1[k].name = l2[k].name:=congrArg Prod.fst hpk
    have hfl:l1[k].file = l2[k].file:=congrArg Prod.snd hpk
    have S1:=H1.out.below hbw
    have S2:=H2.out.below hbw
    obtain ⟨c10,c11,c12,hb1⟩:=S1.read (List.getElem?_eq_getElem hlt) E1.out
    obtain ⟨c20,c21,c22,hb2⟩:=S2.read (List.getElem?_eq_getElem hlt2) E2.out
    rw [← hnm] at c20
    rw [← hfl] at c21 hb2
    have hnk:=HNB.out _ (List.getElem_mem hlt)
    obtain ⟨s,hs⟩:∃ s,Value.string s = encStr l1[k].name:=⟨_,rfl⟩
    obtain ⟨y,hy⟩:∃ y,y = l1[k].file.shut:=⟨_,rfl⟩
    have HC:=hid (fun n:Nat=>SameFile_in (w:=wr.drewN n) (s:=s) (x:=y) (hb1.below (w:=wr) ⟨rfl,rfl,rfl,Nat.le_refl _,fun _ _=>rfl⟩) (hb2.below (w:=wr) ⟨rfl,rfl,rfl,Nat.le_refl _,fun _ _=>rfl⟩) hnk)
    obtain ⟨ga1,gk1,hs1⟩:=hb1.sl
    obtain ⟨ga2,gk2,hs2⟩:=hb2.sl
    have HQ:=hid hq
    have l1':=ltB r1
    have l2':=ltB r2
    obtain ⟨m,hm⟩:∃ m,m = l1[k].file.blocks.length:=⟨_,rfl⟩
    rw [← hm] at hs1 hs2
    rw [hs1] at HC c12
    rw [hs2] at HC c22
    rw [← hs] at c10 c20
    rw [← hy] at c11 c21
    clear hq r1 r2 hb1 hb2 hbw hs1 hs2 hs hy hnk hpk hnm hfl S1 S2 hm
    go_wp2
    go_region_held3 (fun V=>(V.cell? ⟨w.heap.size,1,none⟩ = some (.slice (some A1) l1.length gc1) ∧ V.cell? ⟨w.heap.size + 1,1,none⟩ = some (.slice (some A2) l1.length gc2)) ∧ (V.cell? (A1.add (k * 3)) = some (.string s) ∧ V.cell? ⟨(A1.add (k * 3)).block,(A1.add (k * 3)).off + 1,none⟩ = some (.bool y) ∧ V.cell? ⟨(A1.add (k * 3)).block,(A1.add (k * 3)).off + 2,none⟩ = some (.slice ga1 m gk1)) ∧ V.cell? (A2.add (k * 3)) = some (.string s) ∧ V.cell? ⟨(A2.add (k * 3)).block,(A2.add (k * 3)).off + 1,none⟩ = some (.bool y) ∧ V.cell? ⟨(A2.add (k * 3)).block,(A2.add (k * 3)).off + 2,none⟩ = some (.slice ga2 m gk2)) (go_keep)
     (first | (go_at_call 66; refine (HC.out 1).mono ?_; rintro e w2 ⟨rfl,ht2⟩; have up:=below_upA ht2; have z1:=up _ _ d1; have z2:=up _ _ d2; have z3:=up _ _ c10; have z4:=up _ _ c11; have z5:=up _ _ c12; have z6:=up _ _ c20; have z7:=up _ _ c21; have z8:=up _ _ c22; have HT2:=hid ht2; clear up ht2))
    go_wp2
    go_roundw
    case rel=>exact ⟨k + 1,by omega,by go_num,HQ.out.trans (below_quiet HT2.out HQ.out.size)⟩
    case measure=>simp [intOf]; omega
   ·have HQ:=hid hbw
    clear hq r1 r2 hbw
    go_wp2
    go_ret
    exact ⟨rfl,HQ.out⟩
end
section
variable {w w':World}
theorem copyIn_at {a:Addr} {B c:Nat} {bl:List UInt8} (h:∀ j v,(Lib.byteCells bl)[j]? = some v → w.cell? (a.add j) = some v) (ha:a.block < w.heap.size) (hl:bl.length = B) (hc:B ≤ c) (h1:64 ≤ B) (h2:B ≤ 65536) :
  Calls Tryz.prog 173 #[.slice (some a) B c,.int .i64 B] w fun e w'=>e = .returned (sliceV w.heap.size B) ∧ BytesAt w' w.heap.size bl ∧ Tc [] w w' ∧ w'.heap.size = w.heap.size + 1:=by
 have h3:=copyBlock_any bl a c (B:Int) w (by omega) (by omega) (by omega) (by omega) h ha
 rw [cutB_whole (by omega),hl] at h3
 exact h3
set_option maxRecDepth 100000 in
set_option maxHeartbeats 400000 in
theorem copyBlocksIn_any {B:Nat} {sv:Value} {blocks:List (List UInt8)} (h:BlIn w sv blocks) (hlb:∀ b ∈ blocks,b.length = B) (hB1:64 ≤ B) (hB2:B ≤ 65536) (hn:blocks.length ≤ 1099511627776) :
  Calls Tryz.prog 121 #[sv] w fun e w'=>∃ sv' bs',e = .returned sv' ∧ BkA w' B sv' bs' blocks ∧ FreshB w.heap.size sv' bs' ∧ Below w.heap.size w w':=by
 by_cases h0:blocks.length = 0
 ·obtain ⟨a1,c1,hsv⟩:=h.sl
  have hbl:blocks = []:=List.eq_nil_of_length_eq_zero h0
  subst hbl
  rw [hsv]
  clear h hsv
  simp only [List.length_nil]
  go_enter Tryz.func121,Tryz.ntmps121
  go_wp2
  refine wp_loop_rounds 1 ?_
  rw [rounds_succ]
  go_wp2
  go_ret
  exact ⟨.slice none 0 0,[],rfl,⟨World.ownsRow_nil _ _ _ _,fun i b bl hb=>by simp at hb⟩,⟨by simp [Value.ownBlock],by simp,by simp [Value.ownBlock]⟩,Below.refl _ _⟩
 ·obtain ⟨A,gc,hsv⟩:=h.slice1 h0
  have H:=hid h
  have HSV:=hid hsv
  have HLB:=hid hlb
  rw [hsv]
  clear h hsv hlb
  go_enter Tryz.func121,Tryz.ntmps121
  go_wp2
  go_loopw [3,8] (fun v i wr=>∃ (k:Nat) (bs':List Nat),k ≤ blocks.length ∧ i = .int .i64 k ∧ BkA wr B v bs' (blocks.take k) ∧ FreshB w.heap.size v bs' ∧ Below w.heap.size w wr) (fun _ i _=>blocks.length - (intOf i).toNat)
  case atStart=>exact ⟨0,[],Nat.zero_le _,rfl,⟨World.ownsRow_nil _ _ _ _,fun i b bl hb=>by simp at hb⟩,⟨by simp [Value.ownBlock],by simp,by simp [Value.ownBlock]⟩,Below.refl _ _⟩
  case round =>
   obtain ⟨k,bs',hk,rfl,hB,hF,hb⟩:=hrel
   by_cases hlt:k < blocks.length
   ·obtain ⟨A',cap,xa,xn,xc,e1,_,cG,hs⟩:=(H.out.below hb).at_ k hlt
    rw [HSV.out] at e1
    simp only [Value.slice.injEq,Option.some.injEq] at e1
    obtain ⟨rfl,-,-⟩:=e1
    have hlen:(blocks[k]'hlt).length = B:=HLB.out _ (List.getElem_mem hlt)
    have hxn:xn = B:=by rw [← hs.len,hlen]
    rw [hxn] at cG hs
    clear hxn
    obtain ⟨ad,rfl,lad,hcells⟩:=hs.at_ (by omega)
    have HC:=hid (copyIn_at hcells lad hlen hs.cap hB1 hB2)
    have hl:(blocks.take k).length = k:=by simp; omega
    have HB:=hid hB
    have HF:=hid hF
    have HBW:=hid hb
    have HL:=hid hl
    have HLEN:=hid hlen
    clear hs hcells lad hB hF hb hl hlen
    go_wp2_with (first
     |(go_at_call 173; refine HC.out.mono ?_; rintro e w2 ⟨rfl,hb2,ht2,hz2⟩; have HB2:=hid hb2; have HT2:=hid ht2; have HZ2:=hid hz2; clear hb2 ht2 hz2)
     |(at_builtin; refine wpList_append_fresh _ rfl _ _ rfl u3 k (bs'.map fun b=>sliceV b B) ⟨w2.heap.size,0,none⟩ (sliceV wr.heap.size B) rfl rfl ?h1 ?h2 rfl ?h3 ?_; rotate_left 3; intro v' w3 r1 r2 r3; have H1:=hid r1; have H2:=hid r2; have H3:=hid r3; clear r1 r2 r3))
    case h1 =>
     have h:=ownsRow_touch HB.out.own HT2.out (by simp)
     rw [HL.out] at h
     exact h.alloc _
    case h2=>exact cRw (heap_alloc_new w2 _) 0
    case h3=>omega
    have hz:=HZ2.out
    have hbw:=HBW.out.size
    have hl:=HL.out
    have hr:=HB.out.snoc (nb:=blocks[k]) HF.out hbw (Nat.le_refl _) (by omega) HT2.out HLEN.out HB2.out (by rw [hl]; exact H1.out) H2.out H3.out
    have htk:blocks.take (k + 1) = blocks.take k ++ [blocks[k]]:=List.take_succ_eq_append_getElem hlt
    have hbel:Below w.heap.size w w3:=HBW.out.trans (hr.2.2.below hbw (fun b hb=>HF.out.1 b (by simpa using hb)))
    rw [← htk] at hr
    have HR:=hid hr
    have HBE:=hid hbel
    clear hr hbel htk hz hl hbw
    go_roundw
    case rel=>first | exact ⟨k + 1,bs' ++ [wr.heap.size],by omega,by go_num,HR.out.1,HR.out.2.1,HBE.out⟩ | ((repeat apply Exists.intro); exact ⟨⟨k + 1,bs' ++ [wr.heap.size],by omega,by go_num,HR.out.1,HR.out.2.1,HBE.out⟩,rfl⟩)
    case measure=>simp [intOf]; omega
   ·go_wp2
    go_ret
    have hk':k = blocks.length:=by omega
    subst hk'
    rw [List.take_length] at hB
    exact ⟨u3,bs',rfl,hB,hF,hb⟩
set_option maxRecDepth 100000 in
set_option maxHeartbeats 400000 in
theorem fileOfIn_any {B:Nat} {s:ByteArray} {x:Bool} {sv:Value} {blocks:List (List UInt8)} (h:BlIn w sv blocks) (hlb:∀ b ∈ blocks,b.length = B) (hB1:64 ≤ B) (hB2:B ≤ 65536) (hn:blocks.length ≤ 1099511627776) :
  Calls Tryz.prog 78 #[.agg #[.string s,.bool x,sv]] w fun e w'=>∃ L:Lay,e = .returned (ptr L.fb) ∧ FileAt w' B L ⟨x,blocks⟩ ∧ (∀ b ∈ L.foot,w.heap.size ≤ b) ∧ L.foot.Nodup ∧ Below w.heap.size w w':=by
 have HC:=hid (fun o:Obj=>copyBlocksIn_any (w:=w.alloc o) (h.below ((Below.refl _ w).alloc (Nat.le_refl _) o)) hlb hB1 hB2 hn)
 obtain ⟨ga,gc,hsv⟩:=h.sl
 rw [hsv] at HC
 rw [hsv]
 clear h hsv
 cases x
 all_goals
  go_enter Tryz.func78,Tryz.ntmps78
  go_wp2_with (go_at_call 121; refine (HC.out _).mono ?_; rintro e w1 ⟨sv',bs',rfl,hb1,hf1,ht1⟩; have HB1:=hid hb1; have HF1:=hid hf1; have HT1:=hid ht1; obtain ⟨ka,kn,kc,hk⟩:=hb1.own_slice; clear hb1 hf1 ht1)
  go_ret
  first
   |(obtain ⟨h1,h2,h3,h4⟩:=fileOf_fin false HB1.out HF1.out HT1.out
     rw [hk] at h1 h2 h3
     exact ⟨_,rfl,h1,h2,h3,h4 _⟩)
   |(obtain ⟨h1,h2,h3,h4⟩:=fileOf_fin true HB1.out HF1.out HT1.out
     rw [hk] at h1 h2 h3
     exact ⟨_,rfl,h1,h2,h3,h4 _⟩)
end
def FOk (B:Int) (last s:ByteArray) (blocks:List (List UInt8)):Prop:=nameB s = true ∧ (Op.bytesLess s.toList last.toList || s.toList == last.toList) = false ∧ ∀ b ∈ blocks,(b.length:Int) = B
section
variable {w w':World} {E:Nat → Addr} {lo:Nat}
set_option maxRecDepth 100000 in
set_option maxHeartbeats 1000000 in
theorem checkFile_first (V:Env w lo E) {B:Int} {s last:ByteArray} {x:Bool} {sa:Option Addr} {n c:Nat} (hs:¬ (nameB s = true ∧ (Op.bytesLess s.toList last.toList || s.toList == last.toList) = false)) :
  Calls Tryz.prog 127 #[.agg #[.string s,.bool x,.slice sa n c],.string last,.int .i64 B] w fun e w'=>e = .returned (errV E 10) ∧ Below w.heap.size w w':=by
 have c10:∀ o:Obj,(w.alloc o).cell? ⟨5,0,none⟩ = some (errV E 10):=fun o=>(V.alloc o).sents.var10
 by_cases h1:nameB s = true
 ·have h2:(Op.bytesLess s.toList last.toList || s.toList == last.toList) = true:=by
   cases hq:(Op.bytesLess s.toList last.toList || s.toList == last.toList) with
   | true=>rfl
   | false=>exact absurd ⟨h1,hq⟩ hs
  clear hs V
  go_enter Tryz.func127,Tryz.ntmps127
  go_wp2_with (go_at_call 176; refine (isName_any _ _).mono ?_; rintro e w2 ⟨rfl,hw2⟩; rw [hw2]; clear hw2 w2)
  go_ret
  exact ⟨rfl,(Below.refl _ w).alloc (Nat.le_refl _) _⟩
 ·have h2:nameB s = false:=by simpa using h1
  clear hs V h1
  go_enter Tryz.func127,Tryz.ntmps127
  go_wp2_with (go_at_call 176; refine (isName_any _ _).mono ?_; rintro e w2 ⟨rfl,hw2⟩; rw [hw2]; clear hw2 w2)
  go_ret
  exact ⟨rfl,(Below.refl _ w).alloc (Nat.le_refl _) _⟩
set_option maxRecDepth 100000 in
set_option maxHeartbeats 1000000 in
theorem checkFile_in (V:Env w lo E) {B:Int} {s last:ByteArray} {x:Bool} {sv:Value} {blocks:List (List UInt8)} (h:BlIn w sv blocks) (hn:blocks.length ≤ 1099511627776) :
  Calls Tryz.prog 127 #[.agg #[.string s,.bool x,sv],.string last,.int .i64 B] w fun e w'=>((FOk B last s blocks ∧ e = .returned .nilIface) ∨ (¬ FOk B last s blocks ∧ e = .returned (errV E 10))) ∧ Below w.heap.size w w':=by
 obtain ⟨sa,sc,hsv⟩:=h.sl
 by_cases hs:nameB s = true ∧ (Op.bytesLess s.toList last.toList || s.toList == last.toList) = false
 ·obtain ⟨h1,h2⟩:=hs
  have c10:∀ o:Obj,(w.alloc o).cell? ⟨5,0,none⟩ = some (errV E 10):=fun o=>(V.alloc o).sents.var10
  obtain ⟨m,hm⟩:∃ m,m = blocks.length:=⟨_,rfl⟩
  have HH:=hid h
  have HM:=hid hm
  have HSV:=hid hsv
  have YES:Hid ((∀ b ∈ blocks,(b.length:Int) = B) → FOk B last s blocks):=fun h3=>⟨h1,h2,h3⟩
  have NO:Hid (∀ (k:Nat) b,blocks[k]? = some b → (b.length:Int) ≠ B → ¬ FOk B last s blocks):=fun k b hb hne hf=>hne (hf.2.2 b (List.mem_of_getElem? hb))
  rw [hsv,← hm]
  rw [← hm] at hn
  clear h V hsv hm
  go_enter Tryz.func127,Tryz.ntmps127
  go_wp2_with (go_at_call 176; refine (isName_any _ _).mono ?_; rintro e w2 ⟨rfl,hw2⟩; rw [hw2]; clear hw2 w2)
  go_loopw [23,8] (fun i _ wr=>Hid (∃ k:Nat,k ≤ m ∧ i = .int .i64 (k:Int) ∧ wr = w.alloc (.cells #[.string s,.bool x,.slice sa m sc] 113) ∧ ∀ (j:Nat) b,j < k → blocks[j]? = some b → (b.length:Int) = B)) (fun i _ _=>m - (intOf i).toNat)
  case atStart=>exact ⟨0,Nat.zero_le _,rfl,rfl,fun j b hj=>by omega⟩
  case round =>
   obtain ⟨k,hk,rfl,hwr,hall⟩:=hrel.out
   subst hwr
   clear hrel
   by_cases hlt:k < m
   ·obtain ⟨b,hb⟩:∃ b,blocks[k]? = some b:=⟨_,List.getElem?_eq_getElem (by have:=HM.out; omega)⟩
    have hbe:=(List.getElem?_eq_some_iff.1 hb).2
    obtain ⟨A,gc,xa,xn,xc,e1,lA,cA,sh⟩:=(HH.out.below ((Below.refl _ w).alloc (Nat.le_refl _) (.cells #[.string s,.bool x,.slice sa m sc] 113))).at_ k (by have:=HM.out; omega)
    have e2:=HSV.out
    have e3:=HM.out
    rw [e2,← e3] at e1
    simp only [Value.slice.injEq] at e1
    obtain ⟨rfl,-,-⟩:=e1
    have hxn:b.length = xn:=by rw [hbe] at sh; exact sh.len
    have hk1:(k:Int) < (m:Int):=by omega
    have k0:(0:Int) ≤ (k:Int):=by omega
    have V2:IntKind.i64.wrap ((k:Int) + 1) = (k:Int) + 1:=by rw [IntKind.wrap_i64]; omega
    have HB:=hid hb
    have HX:=hid hxn
    have HA:=hid hall
    clear sh e2 e3 hbe hb hxn hall
    by_cases hxB:(xn:Int) = B
    ·have hne:((xn:Int) != B) = false:=by simpa using hxB
     have NX:Hid (∀ (j:Nat) b,j < k + 1 → blocks[j]? = some b → (b.length:Int) = B):=fun j b' hj hb'=>by
      by_cases hjk:j < k
      ·exact HA.out j b' hjk hb'
      ·have:j = k:=by omega
       subst this
       have h9:=HB.out
       rw [h9] at hb'
       cases hb'
       have h8:=HX.out
       rw [h8]
       exact hxB
     go_wp2
     exact ⟨⟨k + 1,by omega,by simp,by first | rfl | trivial,NX.out⟩,by simp [intOf]; omega⟩
    ·have hne:((xn:Int) != B) = true:=by simpa using hxB
     go_wp2
     go_ret
     refine ⟨.inr ⟨NO.out k b HB.out (by have h8:=HX.out; rw [h8]; exact hxB),rfl⟩,(Below.refl _ w).alloc (Nat.le_refl _) _⟩
   ·have hk1:¬ (k:Int) < (m:Int):=by omega
    have OK:Hid (∀ b ∈ blocks,(b.length:Int) = B):=fun b hb=>by
     obtain ⟨j,hj⟩:=List.getElem?_of_mem hb
     exact hall j b (by have:=(List.getElem?_eq_some_iff.1 hj).1; have:=HM.out; omega) hj
    clear hall
    go_wp2
    go_ret
    exact ⟨.inl ⟨YES.out OK.out,rfl⟩,(Below.refl _ w).alloc (Nat.le_refl _) _⟩
 ·rw [hsv]
  exact (checkFile_first V hs).mono fun e w' ⟨h1,h2⟩=>⟨.inr ⟨fun hf=>hs ⟨hf.1,hf.2.1⟩,h1⟩,h2⟩
end
def AllT (T:DataW Unit):Prop:=∃ l,T = .map l ∧ ∀ x ∈ l,∃ a k b:Int,x.2 = .agg [.lit (.int .i64 a),.lit (.int .i64 k),.lit (.int .i64 b)]
theorem AllT.trouble {T:DataW Unit} (h:AllT T) (n:Int):∃ a k b,TrI T n a k b:=by
 obtain ⟨l,rfl,hl⟩:=h
 unfold TrI DataW.atKey
 simp only
 split
 ·next p hp=>obtain ⟨a,k,b,e⟩:=hl p (List.mem_of_find?_eq_some hp); exact ⟨a,k,b,e⟩
 ·exact ⟨0,0,0,rfl⟩
theorem AllT.nil:AllT (.map []):=⟨[],rfl,by simp⟩
theorem insert_mem {x y:Lit × DataW Unit}:∀ {l:List (Lit × DataW Unit)},y ∈ DataW.insert x l → y = x ∨ y ∈ l
 | [],h=>by simp [DataW.insert] at h; exact .inl h
 | z :: r,h=>by
  unfold DataW.insert at h
  split at h
  ·rcases List.mem_cons.1 h with h | h
   ·exact .inl h
   ·exact .inr h
  ·rcases List.mem_cons.1 h with h | h
   ·exact .inr (by simp [h])
   ·rcases insert_mem h with h | h
    ·exact .inl h
    ·exact .inr (List.mem_cons_of_mem _ h)
theorem AllT.put {T:DataW Unit} (h:AllT T) (n:Lit) (a k b:Int):AllT (T.put n (.agg [.lit (.int .i64 a),.lit (.int .i64 k),.lit (.int .i64 b)])):=by
 obtain ⟨l,rfl,hl⟩:=h
 refine ⟨_,rfl,fun x hx=>?_⟩
 rcases insert_mem hx with rfl | hx
 ·exact ⟨a,k,b,rfl⟩
 ·exact hl x (List.mem_filter.1 hx).1
structure TrsAt (w:World) (sa:Option Addr) (l:List TrA):Prop where
 at_:∀ k (hk:k < l.length),∃ a,sa = some a ∧ a.block < w.heap.size ∧ w.cell? (a.add (k * 3)) = some (.int .i64 l[k].at_) ∧ w.cell? ⟨(a.add (k * 3)).block,(a.add (k * 3)).off + 1,none⟩ = some (.int .i64 l[k].kind) ∧ w.cell? ⟨(a.add (k * 3)).block,(a.add (k * 3)).off + 2,none⟩ = some (.int .i64 l[k].bytes)
 wf:∀ k (hk:k < l.length),(Lit.int .i64 l[k].at_).wf = true
theorem tr_add_block (a:Addr) (i:Nat):(a.add i).block = a.block:=by unfold Addr.add; split <;> rfl
theorem TrsAt.read {w w':World} {sa:Option Addr} {l:List TrA} (h:TrsAt w sa l) {k:Nat} (hk:k < l.length) (hb:Below w.heap.size w w') :
  ∃ a,sa = some a ∧ a.block < w.heap.size ∧ w'.cell? (a.add (k * 3)) = some (.int .i64 l[k].at_) ∧ w'.cell? ⟨(a.add (k * 3)).block,(a.add (k * 3)).off + 1,none⟩ = some (.int .i64 l[k].kind) ∧ w'.cell? ⟨(a.add (k * 3)).block,(a.add (k * 3)).off + 2,none⟩ = some (.int .i64 l[k].bytes):=by
 obtain ⟨a,e,hl,c0,c1,c2⟩:=h.at_ k hk
 have hc:∀ q:Addr,q.block = (a.add (k * 3)).block → w'.cell? q = w.cell? q:=fun q hq=>hb.cell (by rw [hq,tr_add_block]; exact hl)
 exact ⟨a,e,hl,(hc _ rfl).trans c0,(hc ⟨(a.add (k * 3)).block,(a.add (k * 3)).off + 1,none⟩ rfl).trans c1,(hc ⟨(a.add (k * 3)).block,(a.add (k * 3)).off + 2,none⟩ rfl).trans c2⟩
theorem wrap_step {j m:Nat} (h:j < m) (h2:m ≤ 1099511627776):wrap64 ((j:Int) + 1) = (j:Int) + 1:=IntWalk.wrap64_in _ ⟨by omega,by omega⟩
theorem next_num (j:Nat):Value.int .i64 ((j:Int) + 1) = Value.int .i64 ((j + 1:Nat):Int):=by simp
theorem less_step {j m:Nat} (h:j < m):m - (intOf (.int .i64 ((j:Int) + 1))).toNat < m - (intOf (.int .i64 (j:Int))).toNat:=by
 simp [intOf]
 omega
theorem tr_look {W:World} {mt n:Nat} {T:DataW Unit} {at_ a k b:Int} (hT:W.ownsMap Tryz.prog 3 trElem mt n T) (h:TrI T at_ a k b) (hw:(Lit.int .i64 at_).wf = true) :
  (Instr.lookup 98 (.map (some mt)) (.int .i64 at_) true).run Tryz.prog W = .ok (.tuple #[.agg #[.int .i64 a,.int .i64 k,.int .i64 b],.bool (Maps.has T (.int .i64 at_))]) W:=by
 obtain ⟨v,ps,hrun,hv⟩:=hT.look_ok (t:=98) (e:=67) (Maps.int_keyed Tryz.underlying3) Tryz.underlying98 (Tryz.zero67 W) (zd:=.agg [.lit (.int .i64 0),.lit (.int .i64 0),.lit (.int .i64 0)]) (zp:=[]) rfl (Maps.keyOf_int_mk Tryz.underlying3 hw)
 unfold TrI at h
 rw [h] at hv
 rw [hrun,trElem_inv hv]
theorem tr_store {W:World} {mt n:Nat} {T:DataW Unit} (hT:W.ownsMap Tryz.prog 3 trElem mt n T) (hn:n < 1099511627776) {at_:Int} (hw:(Lit.int .i64 at_).wf = true) (k b:Int) :
  ∃ w2,(Instr.mapUpdate 98 (.map (some mt)) (.int .i64 at_) (.agg #[.int .i64 at_,.int .i64 k,.int .i64 b])).run Tryz.prog W = .ok () w2 ∧ w2.ownsMap Tryz.prog 3 trElem mt (n + 1) (T.put (.int .i64 at_) (.agg [.lit (.int .i64 at_),.lit (.int .i64 k),.lit (.int .i64 b)])) ∧ W.grownBy w2 (some mt):=by
 obtain ⟨w2,h1,h2,h3⟩:=hT.store (t:=98) (e:=67) (Maps.int_keyed Tryz.underlying3) Tryz.underlying98 (by unfold maxLen; omega) (Maps.keyOf_int_mk Tryz.underlying3 hw) (val:=.agg #[.int .i64 at_,.int .i64 k,.int .i64 b]) (d:=.agg [.lit (.int .i64 at_),.lit (.int .i64 k),.lit (.int .i64 b)]) (ps:=[]) rfl
 exact ⟨w2,h1,h2,h3.grown⟩
section
variable {w w':World}
end
def DkC.newT (B:Nat) (Bs:Int) (T:DataW Unit):DkC:=⟨B,Bs,true,[],T,⟨0,0,0,0,0,0,0⟩⟩
theorem TrsAt.below {w w':World} {sa:Option Addr} {l:List TrA} (h:TrsAt w sa l) (hb:Below w.heap.size w w'):TrsAt w' sa l:=
 ⟨fun k hk=>by
  obtain ⟨a,e,h1,c0,c1,c2⟩:=h.read hk hb
  exact ⟨a,e,Nat.lt_of_lt_of_le h1 hb.size,c0,c1,c2⟩,h.wf⟩
section
variable {w:World}
theorem new_repT {w3:World} {lo p mf mt:Nat} {B:Nat} {Bs:Int} {T:DataW Unit} (hrow:w3.heap[p]? = some (.cells (dRow (.newT B Bs T) mf mt) 102 (0,0))) (hf:w3.ownsMap Tryz.prog 9 ptrElem mf 0 (.map [])) (ht:∃ n,w3.ownsMap Tryz.prog 3 trElem mt n T) (h1:p ≠ mf) (h2:p ≠ mt) (h3:mf ≠ mt) (hb:lo ≤ p ∧ lo ≤ mf ∧ lo ≤ mt):Rep w3 lo p mf mt (.newT B Bs T):=
 ⟨hrow,hf,ht,by simp [DkC.newT],by simp [DkC.foot,DkC.newT,h1,h2,h3],by simp [DkC.foot,DkC.newT]; exact hb,by simp [DkC.newT]⟩
end
end Go.Proofs.YthehcjjckabljaaGreatDoor
