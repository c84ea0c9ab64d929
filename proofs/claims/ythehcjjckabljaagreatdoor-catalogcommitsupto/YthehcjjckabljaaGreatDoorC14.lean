import Derived.RangeFuncNested
import Derived.RangeFuncBound
import Derived.RangeFuncCalls
import Derived.RangeFuncLeaves
import Derived.TacticsInMore
import Derived.OwnWalkIn
import Derived.Test.YthehcjjckabljaaGreatDoorC13
namespace Go.Proofs.YthehcjjckabljaaGreatDoor
open Go.RowKit Go.Deep
set_option linter.unusedSimpArgs false
set_option linter.unusedVariables false
section
variable {w w':World} {b:Bn} {n:Nat} {A:PubA} {s:Pu.St} {F:List Nat} {kb rb:Nat} {K:Nat} {T:Int} {x:ByteArray}
theorem WentN.own2 {W w2 W2:World} {n0 m:Nat} {A0 A':PubA} {s0 s':Pu.St} {G B N:List Nat} (S:Std w b n0 A0 s0 F) (t1:Tc [] w W) (h:WentN W w2 b m A' s' F G N) (t2:Tc B w2 W2) (hB:∀ y ∈ B,(y ∈ G ∧ y ∉ F ∧ y < w.heap.size ∧ b.lo ≤ y) ∨ (w.heap.size ≤ y ∧ y < W.heap.size)):WentN w W2 b m A' s' F G N:=by
 obtain ⟨F',S',t',f',hN⟩:=h
 have hs:=t1.size
 refine ⟨F',S'.touch t2 (fun y hy=>⟨fun hx=>?_,?_⟩),((t1.mono (by simp)).trans t' (fun y hy=>.inl hy)).trans t2 (fun y hy=>?_),fun y hy=>?_,fun y hy=>?_⟩
 ·rcases hB y hy with ⟨_,h2,h3,_⟩ | h1
  ·rcases f' y hx with h | h
   ·exact h2 h
   ·omega
  ·rcases f' y hx with h | h
   ·have:=S.lt y h; omega
   ·omega
 ·rcases hB y hy with h1 | h1
  ·exact h1.2.2.2
  ·exact Nat.le_trans S.room h1.1
 ·rcases hB y hy with h1 | h1
  ·exact .inl (List.mem_append.2 (.inl h1.1))
  ·exact .inr h1.1
 ·rcases f' y hy with h | h
  ·exact .inl h
  ·exact .inr (Nat.le_trans t1.size h)
 ·obtain ⟨h1,h2,h3⟩:=hN y hy
  exact ⟨h1,Nat.le_trans t1.size h2,Nat.lt_of_lt_of_le h3 t2.size⟩
theorem RdR.tail {w:World} {g off:Nat} {r:Rc} {t:List Rc} (h:RdR w g off (r :: t)):RdR w g (off + 4) t:=fun i hi c hc=>by
 have:=h (i + 1) (by simpa using hi) c hc
 have e:off + ((i + 1) * 4 + c) = off + 4 + (i * 4 + c):=by omega
 rw [e] at this
 simpa using this
set_option maxRecDepth 100000 in
set_option maxHeartbeats 4000000 in
theorem Next_no {er:Int} (H:∀ W,Tc [] w W → Calls Tryz.prog 198 #[ptr rb] W fun e w'=>e = .returned (.tuple #[zeroR,.bool false,.int .i64 er]) ∧ Tc [] W w') :
  Calls Tryz.prog 157 #[ptr rb] w fun e w'=>e = .returned (.tuple #[zeroR,.bool false,.int .i64 er]) ∧ Tc [] w w':=by
 obtain ⟨W,hW⟩:∃ W,W = w.alloc (.cells #[.int .u64 0,.int .u64 0,.int .u64 0,.int .u64 0] 176):=⟨_,rfl⟩
 have t0:Tc [] w W:=by rw [hW]; exact (Tc.refl [] w).alloc _
 have hb:W.heap[w.heap.size]? = some (.cells #[.int .u64 0,.int .u64 0,.int .u64 0,.int .u64 0] 176):=by rw [hW]; exact heap_alloc_new w _
 have HH:=hid (H W t0)
 have HT0:=hid t0
 have HE:=hid hW
 have HB:=hid hb
 have hlb:=ltB hb
 clear H t0 hb hW
 go_enter Tryz.func157,Tryz.ntmps157
 go_wp2_with fail
 rw [← HE.out]
 refine HH.out.mono ?_
 rintro e w1 ⟨rfl,ht1⟩
 have hbb:=(ht1.block w.heap.size hlb (by simp)).trans HB.out
 have HBB:=hid hbb
 have qb:=fun i=>cRw hbb i
 have ub:=fun i=>uRw hbb i
 have lb1:=ltB hbb
 have HT1:=hid ht1
 clear hbb ht1
 go_wp2_with fail
 obtain ⟨W2,hW2,q2,t2⟩:=box4 HBB.out (.int .u64 0) (.int .u64 0) (.int .u64 0) (.int .u64 0)
 rw [← hW2]
 clear qb ub hW2
 have q3:=(Below.heap_alloc W2 (.cells #[.int .u64 0,.int .u64 0,.int .u64 0,.int .u64 0] 176) _ (ltB q2)).trans q2
 have q:=fun i=>cRw q3 i
 refine bodyPost_ret (v:=.tuple #[zeroR,.bool false,.int .i64 er]) (by simp [results,Tryz.results157,go_sem,q]) rfl ⟨rfl,?_⟩
 exact ((HT0.out.trans HT1.out (by simp)).trans t2 (by simp)).alloc _
set_option maxRecDepth 100000 in
set_option maxHeartbeats 4000000 in
theorem Next_have {kind blocks taken g:Nat} {lv:Value} {back:Bool} {r:Rc} {t:List Rc} (hrow:w.heap[rb]? = some (.cells (rrow kb x kind lv 0 back blocks taken) 289 (0,0))) (hl:LsAt w g lv (r :: t)) (hlen:(r :: t).length ≤ 65536) (hgr:g ≠ rb) (hgw:g < w.heap.size) :
  Calls Tryz.prog 157 #[ptr rb] w fun e w'=>e = .returned (.tuple #[r.val,.bool true,.int .i64 0]) ∧ Tc [rb] w w' ∧ ∃ lv',w'.heap[rb]? = some (.cells (rrow kb x kind lv' 0 back blocks taken) 289 (0,0)) ∧ LsAt w' g lv' t:=by
 obtain ⟨W,hW⟩:∃ W,W = w.alloc (.cells #[.int .u64 0,.int .u64 0,.int .u64 0,.int .u64 0] 176):=⟨_,rfl⟩
 have t0:Tc [] w W:=by rw [hW]; exact (Tc.refl [] w).alloc _
 have hb:W.heap[w.heap.size]? = some (.cells #[.int .u64 0,.int .u64 0,.int .u64 0,.int .u64 0] 176):=by rw [hW]; exact heap_alloc_new w _
 have HT0:=hid t0
 have HE:=hid hW
 have HB:=hid hb
 have hlb:=ltB hb
 have hrowW:=(t0.block rb (ltB hrow) (by simp)).trans hrow
 have hlW:=hl.touch t0 (by simp)
 have HH:=hid (Peek_have hrowW hlW hlen)
 obtain ⟨o,c,rfl,hcc,hoff⟩:=hlW.val
 obtain ⟨off,rfl,hrd,hgl⟩:=hoff (by simp)
 obtain ⟨L,hL⟩:∃ L,L = (r :: t).length:=⟨_,rfl⟩
 have hlt:0 < L:=by rw [hL]; simp
 have hLt:L - 1 = t.length:=by rw [hL]; simp
 rw [← hL] at hcc hrowW hlen
 have HRW:=hid hrowW
 have HRD:=hid hrd
 have HL:=hid hL
 have HLT:=hid hLt
 have lrb:=ltB hrow
 have HGB:=hid hgw
 clear hrow hl hlW t0 hb hW hrowW hoff hrd hL hLt
 go_enter Tryz.func157,Tryz.ntmps157
 go_wp2_with fail
 rw [← HE.out]
 refine HH.out.mono ?_
 rintro e w1 ⟨rfl,ht1⟩
 have hbb:=(ht1.block w.heap.size hlb (by simp)).trans HB.out
 have HBB:=hid hbb
 have qb:=fun i=>cRw hbb i
 have ub:=fun i=>uRw hbb i
 have lb1:=ltB hbb
 have HT1:=hid ht1
 have HR1:=hid ((ht1.block rb (Nat.lt_of_lt_of_le lrb HT0.out.size) (by simp)).trans HRW.out)
 clear hbb ht1
 have c3:=cRw HR1.out 3
 have u3:=fun i=>uRw HR1.out i
 simp only [List.getElem?_toArray,List.getElem?_cons_zero,List.getElem?_cons_succ] at c3
 have lr1:=ltB HR1.out
 by_cases hc1:c = 1
 ·subst hc1
  have hL1:L = 1:=by omega
  have ht0:t = []:=by have:=HL.out; rw [hL1] at this; simpa using this.symm
  subst hL1
  go_wp2_with fail
  obtain ⟨W3,hW3⟩:∃ W3,W3 = w1.setCell ⟨rb,3,none⟩ (.slice (some ⟨g,off,none⟩) 0 0):=⟨_,rfl⟩
  have r3:W3.heap[rb]? = some (.cells (rrow kb x kind (.slice (some ⟨g,off,none⟩) 0 0) 0 back blocks taken) 289 (0,0)):=by rw [hW3]; exact (sRw HR1.out 3 _).trans (by simp)
  have b3:W3.heap[w.heap.size]? = some (.cells #[.int .u64 0,.int .u64 0,.int .u64 0,.int .u64 0] 176 (0,0)):=by rw [hW3]; exact (Below.heap_setCell _ _ _ _ (by simp; omega)).trans HBB.out
  have t3:Tc [rb] w1 W3:=by rw [hW3]; exact (Tc.refl [rb] w1).setCell (by simp) _
  obtain ⟨W2,hW2,q2,t2⟩:=box4 b3 (.int .u64 (r.1:Int)) (.int .u64 (r.2.1:Int)) (.int .u64 (r.2.2.1:Int)) (.int .u64 (r.2.2.2:Int))
  rw [hW3] at hW2
  rw [← hW2]
  clear qb ub hW2 hW3 c3 u3
  have q3:=(Below.heap_alloc W2 (.cells #[.int .u64 (r.1:Int),.int .u64 (r.2.1:Int),.int .u64 (r.2.2.1:Int),.int .u64 (r.2.2.2:Int)] 176) _ (ltB q2)).trans q2
  have q:=fun i=>cRw q3 i
  have tt:Tc [rb,w.heap.size] w1 (W2.alloc (.cells #[.int .u64 (r.1:Int),.int .u64 (r.2.1:Int),.int .u64 (r.2.2.1:Int),.int .u64 (r.2.2.2:Int)] 176)):=(((t3.mono (by simp)).trans t2 (by simp)).alloc _)
  have rf:(W2.alloc (.cells #[.int .u64 (r.1:Int),.int .u64 (r.2.1:Int),.int .u64 (r.2.2.1:Int),.int .u64 (r.2.2.2:Int)] 176)).heap[rb]? = some (.cells (rrow kb x kind (.slice (some ⟨g,off,none⟩) 0 0) 0 back blocks taken) 289 (0,0)):=(((t2.alloc _).block rb (ltB r3) (by simp; omega)).trans r3)
  refine bodyPost_ret (v:=.tuple #[r.val,.bool true,.int .i64 0]) (by simp [results,Tryz.results157,go_sem,q]) rfl ⟨rfl,?_,.slice (some ⟨g,off,none⟩) 0 0,rf,?_⟩
  ·exact ((HT0.out.mono (by simp)).trans (HT1.out.mono (F:=[]) (G:=[rb]) (by simp)) (fun y hy=>.inl hy)).trans tt (fun y hy=>by simp at hy; rcases hy with rfl | rfl; exact .inl (by simp); exact .inr (Nat.le_refl _))
  ·subst ht0
   exact ⟨_,_,rfl,Nat.le_refl _,fun h=>absurd rfl h⟩
 ·have hc2:1 < c:=by omega
  go_wp2_with fail
  obtain ⟨W3,hW3⟩:∃ W3,W3 = w1.setCell ⟨rb,3,none⟩ (.slice (some ⟨g,off + 4,none⟩) (L - 1) (c - 1)):=⟨_,rfl⟩
  have r3:W3.heap[rb]? = some (.cells (rrow kb x kind (.slice (some ⟨g,off + 4,none⟩) (L - 1) (c - 1)) 0 back blocks taken) 289 (0,0)):=by rw [hW3]; exact (sRw HR1.out 3 _).trans (by simp)
  have b3:W3.heap[w.heap.size]? = some (.cells #[.int .u64 0,.int .u64 0,.int .u64 0,.int .u64 0] 176 (0,0)):=by rw [hW3]; exact (Below.heap_setCell _ _ _ _ (by simp; omega)).trans HBB.out
  have t3:Tc [rb] w1 W3:=by rw [hW3]; exact (Tc.refl [rb] w1).setCell (by simp) _
  obtain ⟨W2,hW2,q2,t2⟩:=box4 b3 (.int .u64 (r.1:Int)) (.int .u64 (r.2.1:Int)) (.int .u64 (r.2.2.1:Int)) (.int .u64 (r.2.2.2:Int))
  rw [hW3] at hW2
  rw [← hW2]
  clear qb ub hW2 hW3 c3 u3
  have q3:=(Below.heap_alloc W2 (.cells #[.int .u64 (r.1:Int),.int .u64 (r.2.1:Int),.int .u64 (r.2.2.1:Int),.int .u64 (r.2.2.2:Int)] 176) _ (ltB q2)).trans q2
  have q:=fun i=>cRw q3 i
  have tt:Tc [rb,w.heap.size] w1 (W2.alloc (.cells #[.int .u64 (r.1:Int),.int .u64 (r.2.1:Int),.int .u64 (r.2.2.1:Int),.int .u64 (r.2.2.2:Int)] 176)):=(((t3.mono (by simp)).trans t2 (by simp)).alloc _)
  have rf:(W2.alloc (.cells #[.int .u64 (r.1:Int),.int .u64 (r.2.1:Int),.int .u64 (r.2.2.1:Int),.int .u64 (r.2.2.2:Int)] 176)).heap[rb]? = some (.cells (rrow kb x kind (.slice (some ⟨g,off + 4,none⟩) (L - 1) (c - 1)) 0 back blocks taken) 289 (0,0)):=(((t2.alloc _).block rb (ltB r3) (by simp; omega)).trans r3)
  refine bodyPost_ret (v:=.tuple #[r.val,.bool true,.int .i64 0]) (by simp [results,Tryz.results157,go_sem,q]) rfl ⟨rfl,?_,.slice (some ⟨g,off + 4,none⟩) (L - 1) (c - 1),rf,?_⟩
  ·exact ((HT0.out.mono (by simp)).trans (HT1.out.mono (F:=[]) (G:=[rb]) (by simp)) (fun y hy=>.inl hy)).trans tt (fun y hy=>by simp at hy; rcases hy with rfl | rfl; exact .inl (by simp); exact .inr (Nat.le_refl _))
  ·rw [HLT.out]
   have hg1:g < w1.heap.size:=Nat.lt_of_lt_of_le hgl HT1.out.size
   refine ⟨_,_,rfl,by have:=HLT.out; omega,fun _=>⟨off + 4,rfl,?_,Nat.lt_of_lt_of_le hg1 tt.size⟩⟩
   exact (HRD.out.tail.touch HT1.out hgl (by simp)).touch tt hg1 (by simp; exact ⟨hgr,by have:=HGB.out; omega⟩)
set_option maxRecDepth 100000 in
set_option maxHeartbeats 4000000 in
theorem Next_load (S:Std w b n A s F) (hrF:rb ∉ F) (hlo:b.lo ≤ rb) (lrb:rb < w.heap.size) {kind blocks taken:Nat} {back:Bool} {n1:Nat} {A1:PubA} {r:Rc} {t:List Rc} (hlen:(r :: t).length ≤ 65536)
  (H:∀ W,Tc [] w W → Calls Tryz.prog 198 #[ptr rb] W fun e w'=>e = .returned (.tuple #[r.val,.bool true,.int .i64 0]) ∧ ∃ g,WentN W w' b n1 A1 s F [rb] [g] ∧ w'.heap[rb]? = some (.cells (rrow kb x kind (.slice (some ⟨g,0,none⟩) (r :: t).length (r :: t).length) 0 back blocks (taken + 1)) 289 (0,0)) ∧ RdR w' g 0 (r :: t)) :
  Calls Tryz.prog 157 #[ptr rb] w fun e w'=>e = .returned (.tuple #[r.val,.bool true,.int .i64 0]) ∧ ∃ g lv',WentN w w' b n1 A1 s F [rb] [g] ∧ g ≠ rb ∧ w'.heap[rb]? = some (.cells (rrow kb x kind lv' 0 back blocks (taken + 1)) 289 (0,0)) ∧ LsAt w' g lv' t:=by
 obtain ⟨W,hW⟩:∃ W,W = w.alloc (.cells #[.int .u64 0,.int .u64 0,.int .u64 0,.int .u64 0] 176):=⟨_,rfl⟩
 have t0:Tc [] w W:=by rw [hW]; exact (Tc.refl [] w).alloc _
 have hb:W.heap[w.heap.size]? = some (.cells #[.int .u64 0,.int .u64 0,.int .u64 0,.int .u64 0] 176):=by rw [hW]; exact heap_alloc_new w _
 have HT0:=hid t0
 have HE:=hid hW
 have HB:=hid hb
 have hlb:=ltB hb
 have HH:=hid (H W t0)
 have HS:=hid S
 have HF:=hid (And.intro hrF hlo)
 obtain ⟨L,hL⟩:∃ L,L = (r :: t).length:=⟨_,rfl⟩
 have hlt:0 < L:=by rw [hL]; simp
 have hLt:L - 1 = t.length:=by rw [hL]; simp
 rw [← hL] at HH hlen
 obtain ⟨c,hc⟩:∃ c,c = L:=⟨_,rfl⟩
 have HL:=hid hL
 have HLT:=hid hLt
 have hcc:L ≤ c:=by omega
 have HC:=hid hc
 clear H t0 hb hW S hrF hlo hL hLt hc
 go_enter Tryz.func157,Tryz.ntmps157
 go_wp2_with fail
 rw [← HE.out]
 refine HH.out.mono ?_
 rintro e w1 ⟨rfl,g,hg,hr1,hrd⟩
 have hbb:=(hg.choose_spec.2.1.block w.heap.size hlb (by have h1:=HS.out.lt; simp; exact ⟨fun e=>by omega,fun h=>Nat.lt_irrefl _ (h1 _ h)⟩)).trans HB.out
 have hg0:W.heap.size ≤ g ∧ g < w1.heap.size:=⟨(hg.choose_spec.2.2.2 g (by simp)).2.1,(hg.choose_spec.2.2.2 g (by simp)).2.2⟩
 have HBB:=hid hbb
 have qb:=fun i=>cRw hbb i
 have ub:=fun i=>uRw hbb i
 have lb1:=ltB hbb
 have HG:=hid hg
 have HG0:=hid hg0
 have HR1:Hid (w1.heap[rb]? = some (.cells (rrow kb x kind (.slice (some ⟨g,0,none⟩) L c) 0 back blocks (taken + 1)) 289 (0,0))):=by rw [HC.out]; exact hr1
 have HRR:=hid hrd
 clear hbb hg hr1 hrd hg0
 have c3:=cRw HR1.out 3
 have u3:=fun i=>uRw HR1.out i
 simp only [List.getElem?_toArray,List.getElem?_cons_zero,List.getElem?_cons_succ] at c3
 have lr1:=ltB HR1.out
 by_cases hc1:c = 1
 ·subst hc1
  have hL1:L = 1:=by omega
  have ht0:t = []:=by have:=HL.out; rw [hL1] at this; simpa using this.symm
  subst hL1
  go_wp2_with fail
  obtain ⟨W3,hW3⟩:∃ W3,W3 = w1.setCell ⟨rb,3,none⟩ (.slice (some ⟨g,0,none⟩) 0 0):=⟨_,rfl⟩
  have r3:W3.heap[rb]? = some (.cells (rrow kb x kind (.slice (some ⟨g,0,none⟩) 0 0) 0 back blocks (taken + 1)) 289 (0,0)):=by rw [hW3]; exact (sRw HR1.out 3 _).trans (by simp)
  have b3:W3.heap[w.heap.size]? = some (.cells #[.int .u64 0,.int .u64 0,.int .u64 0,.int .u64 0] 176 (0,0)):=by rw [hW3]; exact (Below.heap_setCell _ _ _ _ (by simp; omega)).trans HBB.out
  have t3:Tc [rb] w1 W3:=by rw [hW3]; exact (Tc.refl [rb] w1).setCell (by simp) _
  obtain ⟨W2,hW2,q2,t2⟩:=box4 b3 (.int .u64 (r.1:Int)) (.int .u64 (r.2.1:Int)) (.int .u64 (r.2.2.1:Int)) (.int .u64 (r.2.2.2:Int))
  rw [hW3] at hW2
  rw [← hW2]
  clear qb ub hW2 hW3 c3 u3
  have q3:=(Below.heap_alloc W2 (.cells #[.int .u64 (r.1:Int),.int .u64 (r.2.1:Int),.int .u64 (r.2.2.1:Int),.int .u64 (r.2.2.2:Int)] 176) _ (ltB q2)).trans q2
  have q:=fun i=>cRw q3 i
  have tt:Tc [rb,w.heap.size] w1 (W2.alloc (.cells #[.int .u64 (r.1:Int),.int .u64 (r.2.1:Int),.int .u64 (r.2.2.1:Int),.int .u64 (r.2.2.2:Int)] 176)):=(((t3.mono (by simp)).trans t2 (by simp)).alloc _)
  have rf:(W2.alloc (.cells #[.int .u64 (r.1:Int),.int .u64 (r.2.1:Int),.int .u64 (r.2.2.1:Int),.int .u64 (r.2.2.2:Int)] 176)).heap[rb]? = some (.cells (rrow kb x kind (.slice (some ⟨g,0,none⟩) 0 0) 0 back blocks (taken + 1)) 289 (0,0)):=(((t2.alloc _).block rb (ltB r3) (by simp; omega)).trans r3)
  refine bodyPost_ret (v:=.tuple #[r.val,.bool true,.int .i64 0]) (by simp [results,Tryz.results157,go_sem,q]) rfl ⟨rfl,g,.slice (some ⟨g,0,none⟩) 0 0,?_,by have:=HG0.out; omega,rf,?_⟩
  ·refine WentN.own2 HS.out HT0.out HG.out tt (fun y hy=>?_)
   simp at hy
   rcases hy with rfl | rfl
   ·exact .inl ⟨by simp,HF.out.1,lrb,HF.out.2⟩
   ·exact .inr ⟨Nat.le_refl _,hlb⟩
  ·subst ht0
   exact ⟨_,_,rfl,Nat.le_refl _,fun h=>absurd rfl h⟩
 ·have hc2:1 < c:=by omega
  go_wp2_with fail
  obtain ⟨W3,hW3⟩:∃ W3,W3 = w1.setCell ⟨rb,3,none⟩ (.slice (some ⟨g,4,none⟩) (L - 1) (c - 1)):=⟨_,rfl⟩
  have r3:W3.heap[rb]? = some (.cells (rrow kb x kind (.slice (some ⟨g,4,none⟩) (L - 1) (c - 1)) 0 back blocks (taken + 1)) 289 (0,0)):=by rw [hW3]; exact (sRw HR1.out 3 _).trans (by simp)
  have b3:W3.heap[w.heap.size]? = some (.cells #[.int .u64 0,.int .u64 0,.int .u64 0,.int .u64 0] 176 (0,0)):=by rw [hW3]; exact (Below.heap_setCell _ _ _ _ (by simp; omega)).trans HBB.out
  have t3:Tc [rb] w1 W3:=by rw [hW3]; exact (Tc.refl [rb] w1).setCell (by simp) _
  obtain ⟨W2,hW2,q2,t2⟩:=box4 b3 (.int .u64 (r.1:Int)) (.int .u64 (r.2.1:Int)) (.int .u64 (r.2.2.1:Int)) (.int .u64 (r.2.2.2:Int))
  rw [hW3] at hW2
  rw [← hW2]
  clear qb ub hW2 hW3 c3 u3
  have q3:=(Below.heap_alloc W2 (.cells #[.int .u64 (r.1:Int),.int .u64 (r.2.1:Int),.int .u64 (r.2.2.1:Int),.int .u64 (r.2.2.2:Int)] 176) _ (ltB q2)).trans q2
  have q:=fun i=>cRw q3 i
  have tt:Tc [rb,w.heap.size] w1 (W2.alloc (.cells #[.int .u64 (r.1:Int),.int .u64 (r.2.1:Int),.int .u64 (r.2.2.1:Int),.int .u64 (r.2.2.2:Int)] 176)):=(((t3.mono (by simp)).trans t2 (by simp)).alloc _)
  have rf:(W2.alloc (.cells #[.int .u64 (r.1:Int),.int .u64 (r.2.1:Int),.int .u64 (r.2.2.1:Int),.int .u64 (r.2.2.2:Int)] 176)).heap[rb]? = some (.cells (rrow kb x kind (.slice (some ⟨g,4,none⟩) (L - 1) (c - 1)) 0 back blocks (taken + 1)) 289 (0,0)):=(((t2.alloc _).block rb (ltB r3) (by simp; omega)).trans r3)
  refine bodyPost_ret (v:=.tuple #[r.val,.bool true,.int .i64 0]) (by simp [results,Tryz.results157,go_sem,q]) rfl ⟨rfl,g,.slice (some ⟨g,4,none⟩) (L - 1) (c - 1),?_,by have:=HG0.out; omega,rf,?_⟩
  ·refine WentN.own2 HS.out HT0.out HG.out tt (fun y hy=>?_)
   simp at hy
   rcases hy with rfl | rfl
   ·exact .inl ⟨by simp,HF.out.1,lrb,HF.out.2⟩
   ·exact .inr ⟨Nat.le_refl _,hlb⟩
  ·rw [HLT.out]
   have hg1:g < w1.heap.size:=HG0.out.2
   refine ⟨_,_,rfl,by have:=HLT.out; omega,fun _=>⟨0 + 4,by simp,?_,Nat.lt_of_lt_of_le hg1 tt.size⟩⟩
   exact HRR.out.tail.touch tt hg1 (by simp; have:=HG0.out; omega)
end
abbrev noTr:TrA:=⟨0,0,0⟩
theorem tr_nil {b:Bn} (h:b.l = []) (A:PubA):b.tr A = noTr:=by unfold Bn.tr; rw [h]; rfl
theorem take_cons {l:List Rc} {i j:Nat} (hi:i < l.length) (hj:i < j):(l.drop i).take (j - i) = l[i] :: (l.drop (i + 1)).take (j - (i + 1)):=by
 obtain ⟨d,hd⟩:∃ d,j - i = d + 1:=⟨j - i - 1,by omega⟩
 rw [hd,List.drop_eq_getElem_cons hi,List.take_succ_cons]
 congr 2
 omega
def smallR (l:List Rc):Prop:=∀ y ∈ flatR l,y < 18446744073709551616
theorem flatR_mem {l m:List Rc} (h:∀ r ∈ m,r ∈ l) (hs:smallR l):smallR m:=fun y hy=>by
 unfold flatR at hy
 obtain ⟨r,hr,hy⟩:=List.mem_flatMap.1 hy
 exact hs y (List.mem_flatMap.2 ⟨r,h r hr,hy⟩)
structure Good (kind place:Nat) (bl:List UInt8) (l:List Rc):Prop where
 sum:PureCrc.sumFits (numsU bl)
 formed:PureCrc.Formed (numsU bl)
 kind:(numsU bl).getD 5 0 = kind
 place:PureCrc.num (PureCrc.cut (numsU bl) 8 8) = place
 count:PureCrc.count (numsU bl) = l.length
 words:PureCrc.words (4 * PureCrc.count (numsU bl)) ((numsU bl).drop 28) = flatR l
theorem encU_good {kind place B:Nat} {l:List Rc} (hk1:1 ≤ kind) (hk2:kind ≤ 5) (hl:1 ≤ l.length) (hK:l.length ≤ B / 32 - 1) (h64:64 ≤ B) (hmax:B ≤ 65536) (hs:smallR l) (hp:place < 9223372036854775808):Good kind place (encU kind place (flatR l) B) l:=by
 have hw:=flatR_length l
 have hd:(flatR l).length / 4 = l.length:=by omega
 have hB:32 + 8 * (flatR l).length ≤ B:=by omega
 have e:numsU (encU kind place (flatR l) B) = PureCrc.enc kind place l.length (flatR l) B:=by
  unfold encU
  rw [hd,nums_bytes (PureCrc.enc_lt (by omega))]
 have hc:PureCrc.count (PureCrc.enc kind place l.length (flatR l) B) = l.length:=PureCrc.enc_count (by omega)
 refine ⟨?_,?_,?_,?_,?_,?_⟩
 ·rw [e]; exact PureCrc.enc_fits (by omega) hB
 ·rw [e]; exact PureCrc.enc_formed (by omega) (by omega) hl (by omega) hK hB
 ·rw [e]; exact PureCrc.enc_kind
 ·rw [e]; exact PureCrc.enc_place (by omega)
 ·rw [e]; exact hc
 ·rw [e,hc,← hw]
  exact PureCrc.enc_words (fun y hy=>hs y hy)
theorem encU_length {kind place B:Nat} {l:List Rc} (hB:32 + 8 * (flatR l).length ≤ B):(encU kind place (flatR l) B).length = B:=by
 unfold encU
 rw [bytesU_length,PureCrc.enc_length hB]
def chunk (K j:Nat) (l:List Rc):List Rc:=(l.drop (j * K)).take K
def nBk (K len:Nat):Nat:=(len + K - 1) / K
def bkO (kind K B:Nat) (l:List Rc) (m:Nat):List (List UInt8):=(List.range m).map fun j=>encU kind j (flatR (chunk K j l)) B
theorem blocksOf_succ (kind K B:Nat) (l:List Rc) (m:Nat):bkO kind K B l (m + 1) = bkO kind K B l m ++ [encU kind m (flatR (chunk K m l)) B]:=by
 simp [bkO,List.range_succ]
theorem blocksOf_length (kind K B:Nat) (l:List Rc) (m:Nat):(bkO kind K B l m).length = m:=by simp [bkO]
theorem blocksOf_get {kind K B:Nat} {l:List Rc} {m j:Nat} (h:j < m):(bkO kind K B l m)[j]? = some (encU kind j (flatR (chunk K j l)) B):=by
 simp [bkO,h]
theorem nBlocks_lt {K len v:Nat} (hK:1 ≤ K) (h:v < nBk K len):v * K < len:=by
 have h1:(v + 1) * K ≤ len + K - 1:=(Nat.le_div_iff_mul_le (by omega)).1 h
 rw [Nat.succ_mul] at h1
 omega
theorem nBlocks_le {K len:Nat} (hK:1 ≤ K):len ≤ nBk K len * K:=by
 have h1:len + K - 1 < (nBk K len + 1) * K:=(Nat.div_lt_iff_lt_mul (by omega)).1 (Nat.lt_succ_self _)
 rw [Nat.succ_mul] at h1
 omega
structure Has (A:PubA) (x:ByteArray) (bs:List (List UInt8)):Prop where
 on:A.on = true
 name:nameB x = true
 file:findA A.files (nm x) = some ⟨true,bs⟩
def rdX (A:PubA) (c:Int):PubA:={ A with c:={ A.c with calls:=A.c.calls + c,reads:=A.c.reads + c } }
theorem rdX_zero (A:PubA):rdX A 0 = A:=by
 unfold rdX
 simp
theorem length_has {A:PubA} {x:ByteArray} {bs:List (List UInt8)} (h:Has A x bs):lnB x A = ((bs.length:Int),true,0):=by
 unfold lnB lengthA
 rw [if_pos h.on,if_pos h.name,h.file]
theorem read_x {A:PubA} {x:ByteArray} {bs:List (List UInt8)} (h:Has A x bs) {n:Int} {i:Nat} (hi:i < bs.length):readB x (i:Int) noTr (rdX A n) = (bs[i]?,0,rdX A (n + 1)):=by
 have h1:(rdX A n).on = true:=h.on
 have h2:findA (rdX A n).files (nm x) = some ⟨true,bs⟩:=h.file
 have h3:(0:Int) ≤ (i:Int) ∧ (i:Int) < (bs.length:Int):=by omega
 have h4:readA x (i:Int) (rdX A n) = (bs[i]?,0,rdX A (n + 1)):=by
  unfold readA
  rw [if_pos h.name,h2]
  simp only [if_true,h3,and_self,Int.toNat_natCast]
  unfold rdX
  simp [Int.add_assoc]
 unfold readB readX
 rw [if_pos h1,h4]
 simp
theorem hold_has {A:PubA} {x:ByteArray} {bs:List (List UInt8)} (h:Has A x bs) {s:Pu.St} {K kind:Int} (hk:1 ≤ kind ∧ kind ≤ 5) (hl:Pu.leaveE s K = 0):holdE A s K kind [x] [] = 0:=by
 unfold holdE
 rw [if_neg (by omega)]
 have:readyE A [x] [] = 0:=by
  unfold readyE
  rw [if_neg (by simp [h.on])]
  simp [readyOut,readyIn,readE,readOf,length_has h]
 rw [this]
 simp [hl]
structure TapX (b:Bn) (A:PubA) (x:ByteArray) (K kind:Nat) (bs:List (List UInt8)) (l:List Rc):Prop where
 nil:b.l = []
 has:Has A x bs
 fit:Fits A K
 hK:1 ≤ K ∧ K ≤ 2047
 k1:1 ≤ kind
 k2:kind ≤ 5
 small:smallR l
 len:l.length ≤ 1048576
 m:bs.length = nBk K l.length
 good:∀ j,j < bs.length → bs[j]? = some (encU kind j (flatR (chunk K j l)) A.B)
section
variable {w W W':World} {b:Bn} {n:Nat} {A:PubA} {x:ByteArray} {s:Pu.St} {F G Q:List Nat} {g kb rb kind K:Nat} {lv:Value} {T:Int} {bs:List (List UInt8)} {l:List Rc} {i t:Nat}
theorem TapX.few (C:TapX b A x K kind bs l):bs.length ≤ 1048576:=by
 rcases Nat.eq_zero_or_pos bs.length with h | h
 ·omega
 ·have h1:=nBlocks_lt C.hK.1 (show bs.length - 1 < nBk K l.length by have:=C.m; omega)
  have h2:(bs.length - 1) * 1 ≤ (bs.length - 1) * K:=Nat.mul_le_mul_left _ C.hK.1
  have:=C.len
  omega
theorem TapX.lt (C:TapX b A x K kind bs l) {j:Nat} (hj:j < bs.length):j * K < l.length:=nBlocks_lt C.hK.1 (by have:=C.m; omega)
theorem TapX.all (C:TapX b A x K kind bs l):l.length ≤ bs.length * K:=by have:=nBlocks_le (len:=l.length) C.hK.1; rw [C.m]; exact this
theorem TapX.chunk (C:TapX b A x K kind bs l) {j:Nat} (hj:j < bs.length):1 ≤ (chunk K j l).length ∧ (chunk K j l).length ≤ K ∧ (K ≤ (chunk K j l).length ∨ j + 1 = bs.length):=by
 have h1:=C.lt hj
 have h2:=C.hK.1
 have e:(Go.Proofs.YthehcjjckabljaaGreatDoor.chunk K j l).length = min K (l.length - j * K):=by
  unfold Go.Proofs.YthehcjjckabljaaGreatDoor.chunk
  rw [List.length_take,List.length_drop]
 rw [e]
 refine ⟨by omega,by omega,?_⟩
 rcases Nat.lt_or_ge (j + 1) bs.length with h | h
 ·have h3:=C.lt h
  rw [Nat.succ_mul] at h3
  exact .inl (by omega)
 ·exact .inr (by omega)
theorem TapX.B (C:TapX b A x K kind bs l):A.B = 32 + 32 * K:=by
 have h1:=C.fit.h64
 have h2:=C.fit.h32
 have h3:=C.fit.k
 omega
theorem TapX.read (C:TapX b A x K kind bs l) {j:Nat} (hj:j < bs.length):Good kind j (encU kind j (flatR (Go.Proofs.YthehcjjckabljaaGreatDoor.chunk K j l)) A.B) (Go.Proofs.YthehcjjckabljaaGreatDoor.chunk K j l):=by
 obtain ⟨h1,h2,_⟩:=C.chunk hj
 have hB:=C.B
 have hK:=C.hK
 have hf:=C.few
 have hmax:=C.fit.hmax
 exact encU_good C.k1 C.k2 h1 (by omega) (by omega) (by omega) (flatR_mem (fun y hy=>List.mem_of_mem_drop (List.mem_of_mem_take hy)) C.small) (by omega)
structure RgX (W:World) (b:Bn) (n:Nat) (A:PubA) (x:ByteArray) (s:Pu.St) (F:List Nat) (g:Nat) (lv:Value) (kb rb kind K:Nat) (bs:List (List UInt8)) (l:List Rc) (i t:Nat):Prop where
 S:Std W b (n + t) (rdX A (t:Int)) s F
 gF:g ∉ F
 gr:g ≠ rb
 gl:g < W.heap.size
 go:b.lo ≤ g
 row:W.heap[rb]? = some (.cells (rrow kb x kind lv 0 false bs.length t) 289 (0,0))
 ls:LsAt W g lv ((l.drop i).take (t * K - i))
 le:i ≤ t * K
 few:t ≤ bs.length
 near:t * K ≤ i + K
theorem RgX.touch (I:RgX W b n A x s F g lv kb rb kind K bs l i t) (q:Tc G W W') (hG:∀ y ∈ G,y ∉ F ∧ b.lo ≤ y ∧ y ≠ rb ∧ y ≠ g):RgX W' b n A x s F g lv kb rb kind K bs l i t:=
 ⟨I.S.touch q (fun y hy=>⟨(hG y hy).1,(hG y hy).2.1⟩),I.gF,I.gr,Nat.lt_of_lt_of_le I.gl q.size,I.go,(q.block rb (ltB I.row) (fun h=>(hG _ h).2.2.1 rfl)).trans I.row,I.ls.touch q (fun h=>(hG _ h).2.2.2 rfl),I.le,I.few,I.near⟩
theorem fits_rdX (h:Fits A K) {c:Int}:Fits (rdX A c) K:=⟨h.h64,h.hmax,h.h32,h.k⟩
set_option maxHeartbeats 1000000 in
theorem rgx_next (I:RgX W b n A x s F g lv kb rb kind K bs l i t) (C:TapX b A x K kind bs l) (hn:n < 549755813888) (hk:DkA W kb b (K:Int) T) (hkF:kb ∉ F) (hil:i < l.length) (hrF:rb ∉ F) (hlo:b.lo ≤ rb) (hne:rb ≠ kb) :
  Calls Tryz.prog 157 #[ptr rb] W fun e w'=>e = .returned (.tuple #[(l[i]).val,.bool true,.int .i64 0]) ∧ ∃ F2 g2 lv2 t2,RgX w' b n A x s F2 g2 lv2 kb rb kind K bs l (i + 1) t2 ∧ Tc (rb :: F) W w' ∧ (∀ y ∈ F2,y ∈ F ∨ W.heap.size ≤ y) ∧ (g2 = g ∨ W.heap.size ≤ g2):=by
 obtain ⟨S,n1,n2,n3,n4,row,ls,hle,hfew,hnear⟩:=I
 have hK:=C.hK
 have hbf:=C.few
 by_cases hlt:i < t * K
 ·rw [take_cons hil hlt] at ls
  refine (Next_have row ls (by simp only [List.length_cons,List.length_take]; omega) n2 n3).mono fun e w' ⟨e1,t1,lv',r1,l1⟩=>⟨e1,F,g,lv',t,⟨S.touch t1 (fun y hy=>?_),n1,n2,Nat.lt_of_lt_of_le n3 t1.size,n4,r1,l1,hlt,hfew,by omega⟩,t1.mono (by simp),fun y hy=>.inl hy,.inl rfl⟩
  simp at hy
  subst hy
  exact ⟨hrF,hlo⟩
 ·have hit:i = t * K:=by omega
  have htv:t < bs.length:=by
   rcases Nat.lt_or_ge t bs.length with h | h
   ·exact h
   ·have h1:=C.all
    have h2:=Nat.mul_le_mul_right K h
    omega
  have h1:(t + 1) * K = t * K + K:=Nat.succ_mul t K
  obtain ⟨hc1,hc2,hc3⟩:=C.chunk htv
  have hch:chunk K t l = l[i] :: (l.drop (i + 1)).take ((t + 1) * K - (i + 1)):=by
   rw [← take_cons hil (show i < (t + 1) * K by omega)]
   unfold chunk
   rw [← hit,show (t + 1) * K - i = K by omega]
  have hg:=C.read htv
  have hrd:=read_x C.has (n:=(t:Int)) htv
  rw [C.good t htv] at hrd
  have htr:b.tr (rdX A (t:Int)) = noTr:=tr_nil C.nil _
  have hlen0:(LsAt W g lv []):=by
   have:=ls
   rw [show t * K - i = 0 by omega] at this
   simpa using this
  obtain ⟨o,cc,hlv,_,_⟩:=hlen0.val
  simp only [List.length_nil] at hlv
  subst hlv
  have hrw':rb < W.heap.size:=ltB row
  have N:=Next_load (x:=x) (kb:=kb) S hrF hlo hrw' (kind:=kind) (blocks:=bs.length) (taken:=t) (back:=false) (n1:=n + t + 1) (A1:=rdX A ((t:Int) + 1)) (r:=l[i]) (t:=(l.drop (i + 1)).take ((t + 1) * K - (i + 1))) (by rw [← hch]; omega)
   (fun W1 t1=>Peek_load (x:=x) (kb:=kb) (S.quiet t1) (o:=o) (c:=cc) ((t1.block rb hrw' (by simp)).trans row) htv (by rw [← hch]; omega)
    (fun W2 t2=>by
     have L:=load_ok (x:=x) ((S.quiet t1).quiet t2) (by omega) (K:=K) (fits_rdX C.fit) ((hk.touch t1 (by simp)).touch t2 (by simp)) hkF (kind:=kind) (blocks:=bs.length) (taken:=t) (i:=t) (lv:=.slice o 0 cc) (dead:=0) ((t2.block rb (ltB ((t1.block rb hrw' (by simp)).trans row)) (by simp)).trans ((t1.block rb hrw' (by simp)).trans row)) hrF hlo hne ⟨rfl,htv⟩ (by omega) C.k1 C.k2 (by rw [htr,hrd]) (by rw [htr,hrd]) hg.sum hg.formed hg.kind hg.place hg.count hg.words (by omega) hc3
     rw [htr,hrd,hch] at L
     exact L))
  refine N.mono fun e w' ⟨e1,g',lv',hW,hgr,r1,l1⟩=>?_
  obtain ⟨F2,S2,t2,f2,hN⟩:=hW
  obtain ⟨g1,g2,g3⟩:=hN g' (by simp)
  refine ⟨e1,F2,g',lv',t + 1,⟨?_,g1,hgr,g3,Nat.le_trans S.room g2,r1,l1,by omega,by omega,by omega⟩,t2.mono (by simp),f2,.inr g2⟩
  have e1:((t + 1:Nat):Int) = (t:Int) + 1:=by omega
  rw [e1]
  exact S2
theorem rgx_end (I:RgX W b n A x s F g lv kb rb kind K bs l l.length t) (C:TapX b A x K kind bs l) :
  t = bs.length ∧ Calls Tryz.prog 157 #[ptr rb] W fun e w'=>e = .returned (.tuple #[zeroR,.bool false,.int .i64 0]) ∧ Tc [] W w':=by
 obtain ⟨S,n1,n2,n3,n4,row,ls,hle,hfew,hnear⟩:=I
 have ht:t = bs.length:=by
  rcases Nat.lt_or_ge t bs.length with h | h
  ·have:=C.lt h; omega
  ·omega
 subst ht
 refine ⟨rfl,?_⟩
 have hlen0:(LsAt W g lv []):=by
  have:=ls
  rw [List.drop_length] at this
  simpa using this
 obtain ⟨o,cc,hlv,_,_⟩:=hlen0.val
 simp only [List.length_nil] at hlv
 subst hlv
 exact Next_no fun W1 t1=>Peek_end (o:=o) (c:=cc) ((t1.block rb (ltB row) (by simp)).trans row)
theorem rgx_read (S:Std W b n A s F) (hl:Pu.leaveE s (K:Int) = 0) (hkk:DkA W kb b (K:Int) T) (hkF:kb ∉ F) (hlk:b.lo ≤ kb) (C:TapX b A x K kind bs l) (hn:n < 549755813888) :
  Calls Tryz.prog 155 #[ptr kb,.string x,.int .i64 (kind:Int)] W fun e w'=>∃ rb F',e = .returned (.tuple #[ptr rb,.int .i64 0]) ∧ RgX w' b n A x (s.take (K:Int)) F' kb (.slice none 0 0) kb rb kind K bs l 0 0 ∧ rb ∉ F' ∧ b.lo ≤ rb ∧ W.heap.size ≤ rb ∧ rb < w'.heap.size ∧ Tc F W w' ∧ (∀ y ∈ F',y ∈ F ∨ W.heap.size ≤ y):=by
 have hk1:=C.k1
 have hk2:=C.k2
 refine (TRead_ok S (by omega) hkk hkF x (kind:Int) (hold_has C.has (by omega) hl)).mono fun e w' ⟨rb,e1,hw,row⟩=>?_
 obtain ⟨F',S',t,f,hN⟩:=hw
 obtain ⟨n1,n2,n3⟩:=hN rb (by simp)
 have lk:=ltB hkk
 rw [length_has C.has] at row
 have hkF':kb ∉ F':=fun hx=>by
  rcases f _ hx with h | h
  ·exact hkF h
  ·omega
 refine ⟨rb,F',e1,⟨by simpa [rdX_zero] using S',hkF',by omega,by have:=t.size; omega,hlk,row,?_,by omega,by omega,by have:=C.hK; omega⟩,n1,Nat.le_trans S.room n2,n2,n3,by simpa using t,f⟩
 simp only [Nat.zero_mul,Nat.zero_sub,List.take_zero]
 exact LsAt.none _ _
set_option maxRecDepth 100000 in
set_option maxHeartbeats 4000000 in
theorem RClose_din (S:Std w b n A s F) (hk:DkA w kb b (K:Int) T) (hkF:kb ∉ F) {kind blocks taken:Nat} {lv:Value} {dead:Int} {back:Bool} (hrow:w.heap[rb]? = some (.cells (rrow kb x kind lv dead back blocks taken) 289 (0,0))) (hrF:rb ∉ F) (hlo:b.lo ≤ rb) (hne:rb ≠ kb) (u:FrameMode) (m:Nat) :
  CallsDIn Fence.wide m Tryz.prog 156 #[ptr rb] u w fun e u' w'=>u' = u ∧ (e = .returned (.int .i64 0) ∧ Went w w' b n A (s.give K) F [rb]):=by
 have HR:=hid (release_any S hk hkF (hb:=rb) (x:=x) (kind:=(kind:Int)) (lv:=lv) (dead:=dead) (cl:=false) ⟨_,_,hrow,rfl,rfl,rfl,rfl,rfl,rfl⟩ hrF hlo hne)
 have c5:=cRw hrow 5
 simp only [List.getElem?_toArray,List.getElem?_cons_zero,List.getElem?_cons_succ] at c5
 clear S hk hkF hrow hrF hlo hne
 refine callsDIn_of_wp Tryz.func156 rfl trivial (wpIn_wide.2 ?_)
 simp only [Tryz.ntmps156,List.size_toArray,List.length_cons,List.length_nil,Nat.reduceAdd,Nat.reduceSub,Array.replicate_succ,Array.replicate_zero,List.push_toArray,List.append_toArray,List.nil_append,List.cons_append]
 go_wp2_with (go_at_call 146; refine HR.out.mono ?_; rintro e w1 ⟨rfl,hf⟩)
 go_ret
 exact ⟨rfl,hf.2⟩
structure OwX (b:Bn) (kb:Nat) (Ow:List Nat → Nat → World → Prop):Prop where
 kept:∀ G j W1 W2 Q,Ow G j W1 → Tc Q W1 W2 → (∀ y ∈ Q,y ∉ G) → Ow G j W2
 lt:∀ G j W,Ow G j W → ∀ y ∈ G,y < W.heap.size ∧ b.lo ≤ y ∧ y ≠ kb
variable {Ow:List Nat → Nat → World → Prop}
structure RIx (w0:World) (b:Bn) (n:Nat) (A:PubA) (x:ByteArray) (s:Pu.St) (F0:List Nat) (kb rb kind K:Nat) (T:Int) (bs:List (List UInt8)) (l:List Rc) (Ow:List Nat → Nat → World → Prop) (G0:List Nat) (i j:Nat) (W:World):Prop where
 x:∃ G F g lv t,RgX W b n A x s F g lv kb rb kind K bs l i t ∧ Ow G j W ∧ DkA W kb b (K:Int) T ∧ kb ∉ F ∧ rb ∉ F ∧ (∀ y ∈ G,y ∉ F ∧ y ≠ rb ∧ y ≠ g) ∧ Tc (G0 ++ F0) w0 W ∧ (∀ y ∈ F,y ∈ F0 ∨ w0.heap.size ≤ y) ∧ (∀ y ∈ G,y ∈ G0 ∨ w0.heap.size ≤ y) ∧ w0.heap.size ≤ rb
structure HomX (w0 W:World) (b:Bn) (n:Nat) (A:PubA) (s:Pu.St) (F0:List Nat) (kb K:Nat) (Ow:List Nat → Nat → World → Prop) (G0:List Nat) (j:Nat):Prop where
 x:∃ G F,Std W b n A s F ∧ Ow G j W ∧ (∀ y ∈ G,y ∉ F) ∧ Tc (G0 ++ F0) w0 W ∧ (∀ y ∈ F,y ∈ F0 ∨ w0.heap.size ≤ y) ∧ ∀ y ∈ G,y ∈ G0 ∨ w0.heap.size ≤ y
variable {w0:World} {F0 G0:List Nat} {j:Nat}
theorem RIx.quiet (I:RIx w0 b n A x s F0 kb rb kind K T bs l Ow G0 i j W) (O:OwX b kb Ow) (q:Tc [] W W'):RIx w0 b n A x s F0 kb rb kind K T bs l Ow G0 i j W':=by
 obtain ⟨G,F,g,lv,tt,R,o,hk,hkF,hrF,hg,tw,f,fg,hr⟩:=I.x
 exact ⟨G,F,g,lv,tt,R.touch q (by simp),O.kept _ _ _ _ _ o q (by simp),hk.touch q (by simp),hkF,hrF,hg,tw.trans q (by simp),f,fg,hr⟩
theorem RIx.own (I:RIx w0 b n A x s F0 kb rb kind K T bs l Ow G0 i j W):∃ G,Ow G j W:=by
 obtain ⟨G,F,g,lv,tt,R,o,_⟩:=I.x
 exact ⟨G,o⟩
def muR (rb K len:Nat) (X:World):Nat:=
 min ((match X.cell? ⟨rb,8,none⟩ with | some (.int _ t)=>t.toNat | _=>0) * K) len - (match X.cell? ⟨rb,3,none⟩ with | some (.slice _ m _)=>m | _=>0)
theorem RIx.mu (I:RIx w0 b n A x s F0 kb rb kind K T bs l Ow G0 i j W) (hi:i ≤ l.length):muR rb K l.length W = i:=by
 obtain ⟨G,F,g,lv,tt,R,o,_⟩:=I.x
 obtain ⟨oo,cc,hlv,_,_⟩:=R.ls.val
 have c3:=cRw R.row 3
 have c8:=cRw R.row 8
 simp only [List.getElem?_toArray,List.getElem?_cons_zero,List.getElem?_cons_succ] at c3 c8
 have hle:=R.le
 unfold muR
 rw [c3,c8,hlv]
 simp only [List.length_take,List.length_drop,Int.toNat_natCast]
 omega
def OwStep (Ow:List Nat → Nat → World → Prop) (j:Nat) (X X2:World):Prop:=∀ G,Ow G j X → ∃ G2,Ow G2 (j + 1) X2 ∧ Tc G X X2 ∧ ∀ y ∈ G2,y ∈ G ∨ X.heap.size ≤ y
theorem RIx.round (I:RIx w0 b n A x s F0 kb rb kind K T bs l Ow G0 i j W) (O:OwX b kb Ow) (h:OwStep Ow j W W'):RIx w0 b n A x s F0 kb rb kind K T bs l Ow G0 i (j + 1) W':=by
 obtain ⟨G,F,g,lv,tt,R,o,hk,hkF,hrF,hg,tw,f,fg,hr⟩:=I.x
 obtain ⟨G2,o2,t2,g2⟩:=h G o
 have hlt:=O.lt _ _ _ o
 have hFl:=R.S.lt
 have hrl:=ltB R.row
 have hgl:=R.gl
 refine ⟨G2,F,g,lv,tt,R.touch t2 (fun y hy=>⟨(hg y hy).1,(hlt y hy).2.1,(hg y hy).2.1,(hg y hy).2.2⟩),o2,hk.touch t2 (fun h=>(hlt _ h).2.2 rfl),hkF,hrF,fun y hy=>?_,tw.trans t2 (fun y hy=>?_),f,fun y hy=>?_,hr⟩
 ·rcases g2 y hy with h | h
  ·exact hg y h
  ·exact ⟨fun hx=>by have:=hFl y hx; omega,by omega,by omega⟩
 ·rcases fg y hy with h | h
  ·exact .inl (by simp [h])
  ·exact .inr h
 ·rcases g2 y hy with h | h
  ·exact fg y h
  ·exact .inr (Nat.le_trans tw.size h)
theorem rix_next (I:RIx w0 b n A x s F0 kb rb kind K T bs l Ow G0 i j W) (O:OwX b kb Ow) (C:TapX b A x K kind bs l) (hn:n < 549755813888) (hil:i < l.length) (hlo:b.lo ≤ rb) (hne:rb ≠ kb) :
  Calls Tryz.prog 157 #[ptr rb] W fun e w'=>e = .returned (.tuple #[(l[i]).val,.bool true,.int .i64 0]) ∧ RIx w0 b n A x s F0 kb rb kind K T bs l Ow G0 (i + 1) j w':=by
 obtain ⟨G,F,g,lv,tt,R,o,hkk,hkF,hrF,hg,tw,f,fg,hr⟩:=I.x
 have hlt:=O.lt _ _ _ o
 refine (rgx_next R C hn hkk hkF hil hrF hlo hne).mono fun e w' ⟨e1,F2,g2,lv2,t2,R2,T2,f2,hg2⟩=>⟨e1,G,F2,g2,lv2,t2,R2,?_,?_,?_,?_,?_,?_,?_,fg,hr⟩
 ·refine O.kept _ _ _ _ _ o T2 (fun y hy hG=>?_)
  simp at hy
  rcases hy with rfl | hy
  ·exact (hg _ hG).2.1 rfl
  ·exact (hg _ hG).1 hy
 ·exact hkk.touch T2 (by simp; exact ⟨fun e=>hne e.symm,hkF⟩)
 ·intro hx
  rcases f2 _ hx with h | h
  ·exact hkF h
  ·have:=ltB hkk; omega
 ·intro hx
  rcases f2 _ hx with h | h
  ·exact hrF h
  ·have:=ltB R.row; omega
 ·intro y hy
  have hl:=(hlt y hy).1
  refine ⟨fun hx=>?_,(hg y hy).2.1,?_⟩
  ·rcases f2 _ hx with h | h
   ·exact (hg y hy).1 h
   ·omega
  ·rcases hg2 with h | h
   ·rw [h]; exact (hg y hy).2.2
   ·omega
 ·refine tw.trans T2 (fun y hy=>?_)
  simp at hy
  rcases hy with rfl | hy
  ·exact .inr hr
  ·rcases f y hy with h | h
   ·exact .inl (by simp [h])
   ·exact .inr h
 ·intro y hy
  rcases f2 y hy with h | h
  ·exact f y h
  ·exact .inr (Nat.le_trans tw.size h)
theorem rix_end (I:RIx w0 b n A x s F0 kb rb kind K T bs l Ow G0 l.length j W) (O:OwX b kb Ow) (C:TapX b A x K kind bs l) :
  Calls Tryz.prog 157 #[ptr rb] W fun e w'=>e = .returned (.tuple #[zeroR,.bool false,.int .i64 0]) ∧ RIx w0 b n A x s F0 kb rb kind K T bs l Ow G0 l.length j w':=by
 obtain ⟨G,F,g,lv,tt,R,_⟩:=I.x
 exact (rgx_end R C).2.mono fun e w' ⟨e1,t⟩=>⟨e1,I.quiet O t⟩
theorem rix_close (I:RIx w0 b n A x (s.take (K:Int)) F0 kb rb kind K T bs l Ow G0 l.length j W) (O:OwX b kb Ow) (C:TapX b A x K kind bs l) (hlo:b.lo ≤ rb) (hne:rb ≠ kb) (u:FrameMode) (m:Nat) :
  CallsDIn Fence.wide m Tryz.prog 156 #[ptr rb] u W fun e u' w'=>u' = u ∧ (e = .returned (.int .i64 0) ∧ HomX w0 w' b (n + bs.length) (rdX A (bs.length:Int)) ((s.take (K:Int)).give (K:Int)) F0 kb K Ow G0 j):=by
 obtain ⟨G,F,g,lv,tt,R,o,hkk,hkF,hrF,hg,tw,f,fg,hr⟩:=I.x
 obtain ⟨rfl,_⟩:=rgx_end R C
 have hlt:=O.lt _ _ _ o
 refine (RClose_din R.S hkk hkF R.row hrF hlo hne u m).mono fun e u' w' ⟨h1,h2,F2,S2,t2,f2⟩=>⟨h1,h2,G,F2,S2,?_,?_,?_,?_,fg⟩
 ·refine O.kept _ _ _ _ _ o t2 (fun y hy hG=>?_)
  simp at hy
  rcases hy with rfl | hy
  ·exact (hg _ hG).2.1 rfl
  ·exact (hg _ hG).1 hy
 ·intro y hy hx
  rcases f2 _ hx with h | h
  ·exact (hg y hy).1 h
  ·have:=(hlt y hy).1; omega
 ·refine tw.trans t2 (fun y hy=>?_)
  simp at hy
  rcases hy with rfl | hy
  ·exact .inr hr
  ·rcases f y hy with h | h
   ·exact .inl (by simp [h])
   ·exact .inr h
 ·intro y hy
  rcases f2 y hy with h | h
  ·exact f y h
  ·exact .inr (Nat.le_trans tw.size h)
theorem all_any (k1:Nat):Calls Tryz.prog 108 #[ptr kb,.string x,.int .i64 (k1:Int)] W fun e w'=>∃ b1 b2 b3,e = .returned (.func (.func 154) #[] #[ptr b1,ptr b2,ptr b3]) ∧ Tc [] W w' ∧ w'.heap[b1]? = some (.cells #[ptr kb] 34 (0,0)) ∧ w'.heap[b2]? = some (.cells #[.string x] 9 (0,0)) ∧ w'.heap[b3]? = some (.cells #[.int .i64 (k1:Int)] 3 (0,0)) ∧ W.heap.size ≤ b1 ∧ W.heap.size ≤ b2 ∧ W.heap.size ≤ b3:=by
 go_enter Tryz.func108,Tryz.ntmps108
 go_wp2_with fail
 go_ret
 refine ⟨_,_,_,rfl,((Tc.refl [] W).alloc _ |>.alloc _ |>.alloc _),?_,?_,?_,Nat.le_refl _,?_,?_⟩
 rotate_left 3
 ·first | omega | (simp; done) | (simp; omega)
 ·first | omega | (simp; done) | (simp; omega)
 ·refine (Below.heap_alloc _ _ _ (by simp; omega)).trans ((Below.heap_alloc _ _ _ (by simp)).trans (heap_alloc_new W _))
 ·refine (Below.heap_alloc _ _ _ (by simp)).trans ?_
  have:=heap_alloc_new (W.alloc (.cells #[ptr kb] 34)) (.cells #[.string x] 9)
  simpa using this
 ·have:=heap_alloc_new ((W.alloc (.cells #[ptr kb] 34)).alloc (.cells #[.string x] 9)) (.cells #[.int .i64 (k1:Int)] 3)
  simpa using this
set_option maxRecDepth 100000 in
set_option maxHeartbeats 4000000 in
theorem all1_ok {L b1 b2 b3 m:Nat} (S:Std W b n A s F) (hl:Pu.leaveE s (K:Int) = 0) (hkk:DkA W kb b (K:Int) T) (hkF:kb ∉ F) (hlk:b.lo ≤ kb) (C:TapX b A x K kind bs l) (hn:n < 549755813888)
  (O:OwX b kb Ow) (h0:Ow G 0 W) (hG:∀ y ∈ G,y ∉ F)
  (hb1:W.heap[b1]? = some (.cells #[ptr kb] 34 (0,0))) (hb2:W.heap[b2]? = some (.cells #[.string x] 9 (0,0))) (hb3:W.heap[b3]? = some (.cells #[.int .i64 (kind:Int)] 3 (0,0)))
  (hY:∀ m' j (hj:j < l.length) X G,Ow G j X → YieldAt Fence.wide m' Tryz.prog L #[(l[j]).val,.int .i64 0] X fun e X2=>e = .returned (.bool true) ∧ OwStep Ow j X X2) :
  CallsIn Fence.wide m Tryz.prog 154 #[.func (.yield L) #[] #[],ptr b1,ptr b2,ptr b3] W fun e w'=>(∃ v,e = .returned v) ∧ HomX W w' b (n + bs.length) (rdX A (bs.length:Int)) ((s.take (K:Int)).give (K:Int)) F kb K Ow G l.length:=by
 have HR:=hid (rgx_read S hl hkk hkF hlk C hn)
 have HOK:=hid (show ∀ rb F' w1,RgX w1 b n A x (s.take (K:Int)) F' kb (.slice none 0 0) kb rb kind K bs l 0 0 → rb ∉ F' → W.heap.size ≤ rb → Tc F W w1 → (∀ y ∈ F',y ∈ F ∨ W.heap.size ≤ y) → RIx W b n A x (s.take (K:Int)) F kb rb kind K T bs l Ow G 0 0 w1 from fun rb F' w1 R hrF hrb t f=>by
  have hlt:=O.lt _ _ _ h0
  refine ⟨G,F',kb,_,0,R,O.kept _ _ _ _ _ h0 t (fun y hy hG'=>hG y hG' hy),hkk.touch t hkF,R.gF,hrF,fun y hy=>⟨fun hx=>?_,?_,(hlt y hy).2.2⟩,t.mono (fun y hy=>List.mem_append_right _ hy),f,fun y hy=>.inl hy,hrb⟩
  ·rcases f y hx with h | h
   ·exact hG y hy h
   ·have:=(hlt y hy).1; omega
  ·have:=(hlt y hy).1; omega)
 have c1:=cRw hb1 0
 have c2:=cRw hb2 0
 have c3:=cRw hb3 0
 simp only [List.getElem?_toArray,List.getElem?_cons_zero] at c1 c2 c3
 have lk:=ltB hkk
 have hsl:=S.room
 have HC:=hid C
 have HO:=hid O
 have HYY:=hid hY
 clear S hkk hkF C O h0 hG hb1 hb2 hb3 hY hl
 refine callsIn_of_wp_defers Tryz.func154 rfl trivial (wpIn_wide.2 ?_)
 simp only [Tryz.ntmps154,List.size_toArray,List.length_cons,List.length_nil,Nat.reduceAdd,Nat.reduceSub,Array.replicate_succ,Array.replicate_zero,List.push_toArray,List.append_toArray,List.nil_append,List.cons_append]
 go_wp2_with (go_at_call 155; refine HR.out.mono ?_; rintro e w1 ⟨rb,F',rfl,hR,hrF,hlo,hrb,hrl,ht,hf⟩; have HI1:=hid (HOK.out rb F' w1 hR hrF hrb ht hf); clear hR hrF hrl ht hf)
 have hne:rb ≠ kb:=by omega
 go_loopw [] (fun X=>∃ j:Nat,j ≤ l.length ∧ Hid (RIx W b n A x (s.take (K:Int)) F kb rb kind K T bs l Ow G j j X)) (fun X=>l.length - muR rb K l.length X)
 case atStart=>exact ⟨0,Nat.zero_le _,HI1⟩
 case round =>
  obtain ⟨j,hj,hJ⟩:=hrel
  by_cases hjl:j < l.length
  ·have HN:=hid (rix_next hJ.out HO.out HC.out hn hjl hlo hne)
   go_upto_region 6 with (go_at_call 157; refine HN.out.mono ?_; rintro e w2 ⟨rfl,hh⟩; have H2:=hid hh; clear hh)
   obtain ⟨W3,hW3⟩:∃ W3,W3 = w2.alloc (.cells #[.int .u64 (l[j].1:Int),.int .u64 (l[j].2.1:Int),.int .u64 (l[j].2.2.1:Int),.int .u64 (l[j].2.2.2:Int)] 176):=⟨_,rfl⟩
   have hb3:W3.heap[w2.heap.size]? = some (.cells #[.int .u64 (l[j].1:Int),.int .u64 (l[j].2.1:Int),.int .u64 (l[j].2.2.1:Int),.int .u64 (l[j].2.2.2:Int)] 176):=by rw [hW3]; exact heap_alloc_new w2 _
   have H3:=hid (H2.out.quiet HO.out (W':=W3) (by rw [hW3]; exact (Tc.refl [] w2).alloc _))
   rw [← hW3]
   have q0:=cRw hb3 0
   have q1:=cRw hb3 1
   have q2:=cRw hb3 2
   have q3:=cRw hb3 3
   simp only [List.getElem?_toArray,List.getElem?_cons_zero,List.getElem?_cons_succ] at q0 q1 q2 q3
   generalize w2.heap.size = ob at q0 q1 q2 q3 ⊢
   clear hW3 hb3
   refine (wpIn_wide (n:=m)).1 ?_
   obtain ⟨G3,o3⟩:=H3.out.own
   obtain ⟨fn,tm,asg,bd,hy,hRd⟩:=HYY.out (m - 1) j hjl W3 G3 o3
   have HRd:=hid hRd
   clear hRd
   have e9:=hJ.out.mu hj
   gi_wp2
   refine ⟨fun h=>(by cases h),HRd.out.mono ?_⟩
   rintro e W4 ⟨rfl,ho4⟩
   have H4:=hid (H3.out.round HO.out ho4)
   have e4:=H4.out.mu (show j + 1 ≤ l.length by omega)
   clear ho4
   gi_wp2
   go_wp2_with fail
   exact ⟨⟨j + 1,by omega,H4⟩,by omega⟩
  ·obtain rfl:j = l.length:=by omega
   have HN:=hid (rix_end hJ.out HO.out HC.out)
   go_wp2_with (go_at_call 157; refine HN.out.mono ?_; rintro e w2 ⟨rfl,hh⟩; have H2:=hid hh; clear hh)
   have H3:=H2.out.quiet HO.out ((Tc.refl [] w2).alloc (.cells #[.int .u64 0,.int .u64 0,.int .u64 0,.int .u64 0] 176))
   refine leavesIn_cons (f:=156) (args:=#[ptr rb]) (by simp) (fun h=>by cases h) (by simp [go_sem]) (fun _ _=>trivial) ?_
   refine (rix_close H3 HO.out HC.out hlo hne .returning (m - 1)).mono ?_
   rintro e u' w4 ⟨rfl,rfl,hg⟩
   exact ⟨_,results_none rfl _ _ _,⟨_,rfl⟩,hg⟩
end
end Go.Proofs.YthehcjjckabljaaGreatDoor
