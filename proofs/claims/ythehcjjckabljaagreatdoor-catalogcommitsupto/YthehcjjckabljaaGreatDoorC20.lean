import Derived.Shelf.RegionOpen
import Derived.MapFrom
import Derived.Test.YthehcjjckabljaaGreatDoorC19
namespace Go.Proofs.YthehcjjckabljaaGreatDoor
open Go.RowKit Go.Deep
set_option linter.unusedSimpArgs false
set_option linter.unusedVariables false
theorem flatR_snoc (a:List Rc) (r:Rc):flatR (a ++ [r]) = flatR a ++ [r.1,r.2.1,r.2.2.1,r.2.2.2]:=by simp [flatR,Rc.words]
theorem part_snoc {l:List Rc} {q m k:Nat} {K:Nat} (hk:k < l.length) (he:k = q * K + m):(l.drop (q * K)).take m ++ [l[k]] = (l.drop (q * K)).take (m + 1):=by
 subst he
 have h1:m < (l.drop (q * K)).length:=by rw [List.length_drop]; omega
 rw [List.take_succ_eq_append_getElem h1]
 simp
theorem div_next {k K:Nat} (hK:1 ≤ K) (h:k % K + 1 < K):(k + 1) / K = k / K ∧ (k + 1) % K = k % K + 1:=by
 have e:=Nat.div_add_mod k K
 have h1:k + 1 = (k % K + 1) + K * (k / K):=by omega
 constructor
 ·rw [h1,Nat.add_mul_div_left _ _ (by omega),Nat.div_eq_of_lt h]; omega
 ·rw [h1,Nat.add_mul_mod_self_left,Nat.mod_eq_of_lt h]
theorem div_full {k K:Nat} (hK:1 ≤ K) (h:k % K + 1 = K):(k + 1) / K = k / K + 1 ∧ (k + 1) % K = 0:=by
 have e:=Nat.div_add_mod k K
 have h1:k + 1 = K * (k / K + 1):=by rw [Nat.mul_succ]; omega
 constructor
 ·rw [h1,Nat.mul_div_cancel_left _ (by omega)]
 ·rw [h1,Nat.mul_mod_right]
theorem nBlocks_zero {K len:Nat} (hK:1 ≤ K) (h:len % K = 0):nBk K len = len / K:=by
 unfold nBk
 have e:=Nat.div_add_mod len K
 have h1:len + K - 1 = (K - 1) + K * (len / K):=by omega
 rw [h1,Nat.add_mul_div_left _ _ (by omega),Nat.div_eq_of_lt (by omega)]
 omega
theorem nBlocks_rest {K len:Nat} (hK:1 ≤ K) (h:len % K ≠ 0):nBk K len = len / K + 1:=by
 unfold nBk
 have e:=Nat.div_add_mod len K
 have hl:=Nat.mod_lt len (show 0 < K by omega)
 have h1:len + K - 1 = (len % K - 1) + K * (len / K + 1):=by rw [Nat.mul_succ]; omega
 rw [h1,Nat.add_mul_div_left _ _ (by omega),Nat.div_eq_of_lt (by omega)]
 omega
structure NewF (A:PubA) (x:ByteArray):Prop where
 on:A.on = true
 name:nameB x = true
 none:findA A.files (nm x) = none
def mostX (A:PubA) (m:Nat):Int:=if m = 0 then A.c.most else max A.c.most (A.c.used + (m:Int))
def mkX (A:PubA) (x:ByteArray) (sealed:Bool) (bs:List (List UInt8)) (c:Int):PubA:=
 { A with files:=insA (nm x,⟨sealed,bs⟩) A.files,c:={ A.c with calls:=A.c.calls + c,appends:=A.c.appends + (bs.length:Int),used:=A.c.used + (bs.length:Int),most:=mostX A bs.length } }
theorem find_absent {k:List UInt8}:∀ {l:List (List UInt8 × FlA)},findA l k = none → ∀ e ∈ l,e.1 ≠ k
 | [],_,e,he=>by cases he
 | a :: l,h,e,he=>by
  by_cases ha:a.1 = k
  ·simp [findA,ha] at h
  ·have h':findA l k = none:=by simpa [findA,ha] using h
   rcases List.mem_cons.1 he with rfl | he
   ·exact ha
   ·exact find_absent h' e he
theorem find_ins {k:List UInt8} {f:FlA}:∀ {l:List (List UInt8 × FlA)},findA l k = none → findA (insA (k,f) l) k = some f
 | [],_=>by simp [insA,findA]
 | a :: l,h=>by
  have ha:=find_absent h a (by simp)
  have h':findA l k = none:=by simpa [findA,ha] using h
  unfold insA
  split
  ·simp [findA]
  ·have:=find_ins (f:=f) h'
   simpa [findA,ha] using this
theorem set_ins {k:List UInt8} {f f':FlA}:∀ {l:List (List UInt8 × FlA)},findA l k = none → setA k f' (insA (k,f) l) = insA (k,f') l
 | [],_=>by simp [insA,setA]
 | a :: l,h=>by
  have ha:=find_absent h a (by simp)
  have h':findA l k = none:=by simpa [findA,ha] using h
  have h2:setA k f' l = l:=set_absent (find_absent h')
  have h3:setA k f' (a :: l) = a :: l:=set_absent (find_absent h)
  unfold insA
  split
  ·show (if k = k then (k,f') else (k,f)) :: setA k f' (a :: l) = (k,f') :: a :: l
   rw [if_pos rfl,h3]
  ·show (if a.1 = k then (a.1,f') else a) :: setA k f' (insA (k,f) l) = a :: insA (k,f') l
   rw [if_neg ha,set_ins h']
section
variable {A:PubA} {x:ByteArray} {bs:List (List UInt8)} {c:Int}
theorem create_x (h:NewF A x):createB x noTr A = (0,mkX A x false [] 1):=by
 have e:createA x A = (0,mkX A x false [] 1):=by
  unfold createA
  rw [if_pos h.name,h.none]
  simp [mkX,mostX]
 unfold createB befX
 rw [if_pos h.on,e]
 simp
theorem append_x (h:NewF A x) {bl:List UInt8} (hl:bl.length = A.B) (hr:A.c.used + (bs.length:Int) < A.Bs):appendB x bl noTr (mkX A x false bs c) = (0,mkX A x false (bs ++ [bl]) (c + 1)):=by
 have h1:(mkX A x false bs c).on = true:=h.on
 have h2:findA (mkX A x false bs c).files (nm x) = some ⟨false,bs⟩:=find_ins h.none
 have e:appendA x bl (mkX A x false bs c) = (0,mkX A x false (bs ++ [bl]) (c + 1)):=by
  unfold appendA
  rw [if_pos h.name,h2]
  have h3:¬ (bl.length ≠ (mkX A x false bs c).B):=by simp [mkX,hl]
  have h4:¬ ((mkX A x false bs c).Bs ≤ (mkX A x false bs c).c.used):=by simp only [mkX]; omega
  simp only [Bool.false_eq_true,if_false,if_neg h3,if_neg h4]
  simp only [mkX,set_ins h.none,List.length_append,List.length_cons,List.length_nil]
  simp only [Prod.mk.injEq,true_and,PubA.mk.injEq,Cnt.mk.injEq,and_true]
  refine ⟨by omega,by omega,by omega,?_⟩
  unfold mostX
  split <;> rename_i h0
  ·simp [h0]
  ·rw [if_neg (by omega)]
   omega
 unfold appendB befX
 rw [if_pos h1,e]
 simp
theorem seal_x (h:NewF A x):sealB x noTr (mkX A x false bs c) = (0,mkX A x true bs (c + 1)):=by
 have h1:(mkX A x false bs c).on = true:=h.on
 have h2:findA (mkX A x false bs c).files (nm x) = some ⟨false,bs⟩:=find_ins h.none
 have e:sealA x (mkX A x false bs c) = (0,mkX A x true bs (c + 1)):=by
  unfold sealA
  rw [if_pos h.name,h2]
  simp [mkX,set_ins h.none,Int.add_assoc]
 unfold sealB befX
 rw [if_pos h1,e]
 simp
theorem hold_new (h:NewF A x) {s:Pu.St} {K kind:Int} (hk:1 ≤ kind ∧ kind ≤ 5) (hl:Pu.leaveE s K = 0):holdE A s K kind [] [x] = 0:=by
 unfold holdE
 rw [if_neg (by omega)]
 have:readyE A [] [x] = 0:=by
  have hm:makeE A x = 0:=by
   have hle:lnB x A = (0,false,12):=by
    unfold lnB lengthA
    rw [if_pos h.on,if_pos h.name,h.none]
   unfold makeE
   rw [hle]
   rfl
  unfold readyE
  rw [if_neg (by simp [h.on]),readyOut_cons hm (by simp)]
  simp [readyOut,readyIn]
 rw [this]
 simp [hl]
end
structure LayOk (b:Bn) (A:PubA) (x:ByteArray) (kind K:Nat) (l:List Rc):Prop where
 nil:b.l = []
 new:NewF A x
 fit:Fits A K
 hK:1 ≤ K ∧ K ≤ 2047
 k1:1 ≤ kind
 k2:kind ≤ 5
 small:smallR l
 len:l.length ≤ 1048576
 space:A.c.used + (nBk K l.length:Nat) ≤ A.Bs
theorem LayOk.B {b:Bn} {A:PubA} {x:ByteArray} {kind K:Nat} {l:List Rc} (C:LayOk b A x kind K l):A.B = 32 + 32 * K:=by
 have h1:=C.fit.h64
 have h2:=C.fit.h32
 have h3:=C.fit.k
 omega
theorem fits_mkX {A:PubA} {K:Nat} (h:Fits A K) {x:ByteArray} {sl:Bool} {bs:List (List UInt8)} {c:Int}:Fits (mkX A x sl bs c) K:=⟨h.h64,h.hmax,h.h32,h.k⟩
structure LayX (w W:World) (b:Bn) (n:Nat) (A:PubA) (x:ByteArray) (s:Pu.St) (F F':List Nat) (kb wb g kind K:Nat) (l:List Rc) (k:Nat):Prop where
 S:Std W b (n + 1 + k) (mkX A x false (bkO kind K A.B l (k / K)) (1 + (k / K:Nat))) (s.take K) F'
 t:Tc F w W
 f:∀ y ∈ F',y ∈ F ∨ w.heap.size ≤ y
 nw:wb ∉ F'
 ng:g ∉ F'
 row:W.heap[wb]? = some (.cells (wrow kb x kind g (k % K) K 0 (k / K) (k:Int)) 226 (0,0))
 list:∃ rest,Rx.WRow W g (flatR ((l.drop (k / K * K)).take (k % K)) ++ rest) ∧ rest.length + 4 * (k % K) = 4 * K
section
variable {w w' X X':World} {b:Bn} {n:Nat} {A:PubA} {x:ByteArray} {s:Pu.St} {F F' G:List Nat} {kb wb g kind K:Nat} {T:Int} {l:List Rc} {j:Nat}
theorem LayX.touch (I:LayX w X b n A x s F F' kb wb g kind K l j) (q:Tc G X X') (hG:∀ y ∈ G,y ∉ F' ∧ b.lo ≤ y ∧ y ≠ wb ∧ y ≠ g ∧ w.heap.size ≤ y):LayX w X' b n A x s F F' kb wb g kind K l j:=by
 obtain ⟨rest,h1,h2⟩:=I.list
 refine ⟨I.S.touch q (fun y hy=>⟨(hG y hy).1,(hG y hy).2.1⟩),I.t.trans q (fun y hy=>.inr (hG y hy).2.2.2.2),I.f,I.nw,I.ng,(q.block wb (ltB I.row) (fun h=>(hG _ h).2.2.1 rfl)).trans I.row,rest,(q.block g (ltB h1) (fun h=>(hG _ h).2.2.2.1 rfl)).trans h1,h2⟩
set_option maxHeartbeats 1000000 in
theorem lay_stepX (I:LayX w X b n A x s F F' kb wb g kind K l j) (C:LayOk b A x kind K l) (hn:n < 549755813888) (hk:DkA w kb b (K:Int) T) (hkF:kb ∉ F) (hj:j < l.length) (hwb:w.heap.size ≤ wb) (hg:w.heap.size ≤ g) (hne:wb ≠ g) (hlo:b.lo ≤ w.heap.size) :
  Calls Tryz.prog 101 #[ptr wb,(l[j]).val] X fun e X'=>e = .returned (.int .i64 0) ∧ ∃ F2,LayX w X' b n A x s F F2 kb wb g kind K l (j + 1) ∧ Tc (wb :: g :: F') X X' ∧ ∀ y ∈ F2,y ∈ F' ∨ X.heap.size ≤ y:=by
 obtain ⟨S,t,f,n1,n2,row,rest,hws,hr⟩:=I
 have hkw:=ltB hk
 have hkW:=hk.touch t hkF
 have hK:=C.hK
 have hB:=C.B
 have hlen:=C.len
 have hs:=C.small
 have e:=Nat.div_add_mod j K
 have hmod:=Nat.mod_lt j (show 0 < K by omega)
 have he:j = j / K * K + j % K:=by rw [Nat.mul_comm]; omega
 have hpl:((l.drop (j / K * K)).take (j % K)).length = j % K:=by rw [List.length_take,List.length_drop]; omega
 have hfl:(flatR ((l.drop (j / K * K)).take (j % K))).length = 4 * (j % K):=by rw [flatR_length,hpl]
 have hqk:j / K ≤ j:=Nat.div_le_self j K
 have hkn:kb ∉ F':=fun hx=>by
  rcases f _ hx with h | h
  ·exact hkF h
  ·omega
 have hts:=t.size
 by_cases hm:j % K + 1 < K
 ·obtain ⟨d1,d2⟩:=div_next hK.1 hm
  have P:=Put_room (x:=x) (g:=g) hkW row (by omega) hws (by omega) (by omega) hfl hr hm (show j < 1099511627776 by omega) l[j].1 l[j].2.1 l[j].2.2.1 l[j].2.2.2
  refine P.mono fun e w' ⟨e1,t1,r1,w1⟩=>⟨e1,F',?_,t1.mono (by simp),fun y hy=>.inl hy⟩
  have hG:∀ y ∈ [wb,g],y ∉ F' ∧ b.lo ≤ y:=by
   intro y hy
   simp at hy
   rcases hy with rfl | rfl
   ·exact ⟨n1,by omega⟩
   ·exact ⟨n2,by omega⟩
  refine ⟨?_,t.trans t1 (fun y hy=>by simp at hy; rcases hy with rfl | rfl <;> exact .inr (by omega)),f,n1,n2,?_,rest.drop 4,?_,?_⟩
  ·rw [d1]
   exact (S.touch t1 hG).mono (by omega)
  ·rw [d1,d2]; exact r1
  ·rw [d1,d2,← part_snoc hj he,flatR_snoc]; exact w1
  ·rw [d2,List.length_drop]; omega
 ·have hm':j % K + 1 = K:=by omega
  obtain ⟨d1,d2⟩:=div_full hK.1 hm'
  have hch:flatR ((l.drop (j / K * K)).take (j % K)) ++ [l[j].1,l[j].2.1,l[j].2.2.1,l[j].2.2.2] = flatR (chunk K (j / K) l):=by
   rw [← flatR_snoc,part_snoc hj he,hm']
   rfl
  have hcl:(chunk K (j / K) l).length = K:=by
   unfold chunk
   rw [List.length_take,List.length_drop]
   omega
  have hel:(encU kind (j / K) (flatR (chunk K (j / K) l)) A.B).length = A.B:=encU_length (by rw [flatR_length,hcl]; omega)
  have hnb:j / K < nBk K l.length:=by
   have h1:=nBlocks_le (len:=l.length) hK.1
   have h2:j / K * K < nBk K l.length * K:=by omega
   exact Nat.lt_of_mul_lt_mul_right h2
  have hsp:=C.space
  have hap:=append_x (bs:=bkO kind K A.B l (j / K)) (c:=1 + (j / K:Nat)) C.new hel (by rw [blocksOf_length]; omega)
  have htr:b.tr (mkX A x false (bkO kind K A.B l (j / K)) (1 + (j / K:Nat))) = noTr:=tr_nil C.nil _
  have hsm1:∀ y ∈ flatR ((l.drop (j / K * K)).take (j % K)),y < 18446744073709551616:=flatR_mem (fun r hr=>List.mem_of_mem_drop (List.mem_of_mem_take hr)) hs
  have hsm2:∀ y ∈ flatR [l[j]],y < 18446744073709551616:=flatR_mem (fun r hr=>by simp at hr; subst hr; exact List.getElem_mem hj) hs
  have hB2:(mkX A x false (bkO kind K A.B l (j / K)) (1 + (j / K:Nat))).B = A.B:=rfl
  have P:=Put_full (x:=x) (g:=g) (K:=K) (n:=n + 1 + j) (T:=T) (kb:=kb) (wb:=wb) (kind:=kind) (blocks:=j / K) (m:=j % K) (count:=j) (r0:=l[j].1) (r1:=l[j].2.1) (r2:=l[j].2.2.1) (r3:=l[j].2.2.2) (ws:=flatR ((l.drop (j / K * K)).take (j % K))) (rest:=rest) S (by omega)
   (fits_mkX C.fit) hkn n1 n2 (by omega) (by omega) C.k1 C.k2 (by omega) hsm1
   ⟨hsm2 _ (by simp [flatR,Rc.words]),hsm2 _ (by simp [flatR,Rc.words]),hsm2 _ (by simp [flatR,Rc.words]),hsm2 _ (by simp [flatR,Rc.words])⟩
   (by rw [hch,htr,hB2,hap]) hkW row (by omega) hws (by omega) (by omega) hfl hr hm' (by omega)
  rw [hch,htr,hB2,hap] at P
  refine P.mono fun e w' ⟨e1,hg1,r1,l',wl,hl'⟩=>⟨e1,?_⟩
  obtain ⟨F2,S2,t2,f2⟩:=hg1
  have q1:∀ y,y ∉ F' → y < X.heap.size → y ∉ F2:=fun y h1 h2 hx=>by
   rcases f2 _ hx with h | h
   ·exact h1 h
   ·omega
  refine ⟨F2,⟨?_,t.trans t2 (fun y hy=>?_),fun y hy=>?_,q1 wb n1 (ltB row),q1 g n2 (ltB hws),?_,l',?_,?_⟩,t2.mono (by simp),f2⟩
  ·rw [d1,blocksOf_succ]
   have:((1:Int) + ((j / K + 1:Nat):Int)) = 1 + ((j / K:Nat):Int) + 1:=by omega
   rw [this]
   exact S2.mono (by omega)
  ·rcases List.mem_append.1 hy with h | h
   ·simp at h; rcases h with rfl | rfl <;> exact .inr (by omega)
   ·exact f y h
  ·rcases f2 y hy with h | h
   ·exact f y h
   ·exact .inr (by omega)
  ·rw [d1,d2]; exact r1
  ·rw [d2]; simpa [flatR] using wl
  ·rw [d2]; omega
set_option maxHeartbeats 1000000 in
theorem lay_closeX (I:LayX w X b n A x s F F' kb wb g kind K l l.length) (C:LayOk b A x kind K l) (hn:n < 549755813888) (hk:DkA w kb b (K:Int) T) (hkF:kb ∉ F) (hwb:w.heap.size ≤ wb) (hg:w.heap.size ≤ g) (hne:wb ≠ g) (hlo:b.lo ≤ w.heap.size) :
  Calls Tryz.prog 102 #[ptr wb] X fun e X'=>e = .returned (.int .i64 0) ∧ Went X X' b (n + l.length + 3) (mkX A x true (bkO kind K A.B l (nBk K l.length)) (2 + (nBk K l.length:Nat))) ((s.take K).give K) F' [wb]:=by
 obtain ⟨S,t,f,n1,n2,row,rest,hws,hr⟩:=I
 have hkw:=ltB hk
 have hkW:=hk.touch t hkF
 have hK:=C.hK
 have hB:=C.B
 have hlen:=C.len
 have hs:=C.small
 have e:=Nat.div_add_mod l.length K
 have hmod:=Nat.mod_lt l.length (show 0 < K by omega)
 have hq:l.length / K ≤ l.length:=Nat.div_le_self _ _
 have he:l.length = l.length / K * K + l.length % K:=by rw [Nat.mul_comm]; omega
 have hkn:kb ∉ F':=fun hx=>by
  rcases f _ hx with h | h
  ·exact hkF h
  ·omega
 have hts:=t.size
 have fin:∀ {w'':World} {n1:Nat} {A1:PubA} {s1:Pu.St},n1 ≤ n + l.length + 3 → Went X w'' b n1 A1 s1 F' [wb] → Went X w'' b (n + l.length + 3) A1 s1 F' [wb]:=fun hn ⟨F2,S2,t2,f2⟩=>⟨F2,S2.mono hn,t2,f2⟩
 by_cases h0:l.length % K = 0
 ·have hn:=nBlocks_zero hK.1 h0
  rw [h0] at row
  have P:=Close_empty S (by omega) hkW hkn row n1 (by omega) (by omega)
  rw [tr_nil C.nil,seal_x C.new] at P
  refine P.mono fun e w' ⟨e1,hg1⟩=>⟨e1,?_⟩
  rw [hn]
  have e2:((2:Int) + ((l.length / K:Nat):Int)) = 1 + ((l.length / K:Nat):Int) + 1:=by omega
  rw [e2]
  exact fin (by omega) hg1
 ·have hn:=nBlocks_rest hK.1 h0
  have hpl:((l.drop (l.length / K * K)).take (l.length % K)).length = l.length % K:=by rw [List.length_take,List.length_drop]; omega
  have hfl:(flatR ((l.drop (l.length / K * K)).take (l.length % K))).length = 4 * (l.length % K):=by rw [flatR_length,hpl]
  have hch:(l.drop (l.length / K * K)).take (l.length % K) = chunk K (l.length / K) l:=by
   unfold chunk
   rw [List.take_of_length_le (by rw [List.length_drop]; omega),List.take_of_length_le (by rw [List.length_drop]; omega)]
  rw [hch] at hpl hfl hws
  have hel:(encU kind (l.length / K) (flatR (chunk K (l.length / K) l)) A.B).length = A.B:=encU_length (by rw [hfl]; omega)
  have hsp:=C.space
  have hap:=append_x (bs:=bkO kind K A.B l (l.length / K)) (c:=1 + (l.length / K:Nat)) C.new hel (by rw [blocksOf_length]; omega)
  have htr:=tr_nil C.nil
  have hsm:∀ y ∈ flatR (chunk K (l.length / K) l),y < 18446744073709551616:=flatR_mem (fun r hr=>List.mem_of_mem_drop (List.mem_of_mem_take hr)) hs
  have hwd:Rx.Wd X g 0 (flatR (chunk K (l.length / K) l)):=fun i hi=>by
   have:=hws.wd i (by rw [List.length_append]; omega)
   rw [List.getElem_append_left hi] at this
   exact this
  have hB2:(mkX A x false (bkO kind K A.B l (l.length / K)) (1 + (l.length / K:Nat))).B = A.B:=rfl
  have P:=Close_rest (x:=x) (T:=T) (kb:=kb) (m:=l.length % K) (kind:=kind) (blocks:=l.length / K) S (by omega) hkW hkn row n1 (by omega) (by omega) (fits_mkX C.fit) hwd (ltB hws) n2 (by omega) hfl (by omega) (by omega) hsm C.k1 C.k2 (by omega)
   (by rw [htr,hB2,hap])
  rw [htr,htr,hB2,hap,← blocksOf_succ,seal_x C.new] at P
  refine P.mono fun e w' ⟨e1,hg1⟩=>⟨e1,?_⟩
  rw [hn]
  have e2:((2:Int) + ((l.length / K + 1:Nat):Int)) = 1 + ((l.length / K:Nat):Int) + 1 + 1:=by omega
  rw [e2]
  exact fin (by omega) hg1
end
set_option maxRecDepth 100000
attribute [local go_sem] Oper.semAt_some
theorem nilq1 (d:Nat) (l:Array Value) (W:World):(Op.equalIn (d + 1) 173 (.func (.func 147) #[] l) .nilFunc).run Tryz.prog W = .ok false W:=by
 simp [Op.equalIn,Sem.run_bind,underlying,go_sem,Tryz.underlying173,Result.andThen]
theorem nilq (l:Array Value) (W:World):(binOp .eql 173 (.func (.func 147) #[] l) .nilFunc).run Tryz.prog W = .ok (.bool false) W:=by
 have h:(Op.equal 173 (.func (.func 147) #[] l) .nilFunc).run Tryz.prog W = .ok false W:=nilq1 9999 l W
 simp [binOp,go_sem,h]
theorem TblAt.touch2 {w w':World} {t:Tbl} {so sr:Option Addr} {G:List Nat} (h:TblAt w t so sr) (ht:Tc G w w') (h1:∀ a,so = some a → t.order ≠ [] → a.block ∉ G) (h2:∀ a,sr = some a → t.rows ≠ [] → a.block ∉ G):TblAt w' t so sr:=by
 refine ⟨?_,?_,h.ol,h.rl,h.vars,h.next,h.nf,h.oi,h.ri⟩
 ·by_cases e:t.order = []
  ·rw [e]; exact IntsAt.nil _ _
  ·exact h.ints.touch ht (fun a ha=>h1 a ha e)
 ·by_cases e:t.rows = []
  ·rw [e]; exact RowsAt.nil _ _
  ·exact h.rows.touch ht (fun a ha=>h2 a ha e)
structure WrJ (w X:World) (b:Bn) (n:Nat) (A:PubA) (x:ByteArray) (s:Pu.St) (F:List Nat) (kb wb g K:Nat) (t:Tbl) (gen:Nat) (so sr:Option Addr) (co cr:Nat) (wbx ebx b1 b2 L D:Nat) (rec:Loop) (F':List Nat) (j:Nat):Prop where
 lay:LayX w X b n A x s F F' kb wb g 5 K (recsN t gen) j
 wv:X.heap[wbx]? = some (.cells #[ptr wb] 169 (0,0))
 ev:X.heap[ebx]? = some (.cells #[.int .i64 0] 46 (0,0))
 r1:X.heap[b1]? = some (.cells (tblC t so sr co cr) 26 (0,0))
 r2:X.heap[b2]? = some (.cells #[.int .u64 (gen:Int)] 24 (0,0))
 tbl:TblAt X t so sr
 l:X.heap[L]? = some (.loop rec)
 d:X.heap[D]? = some (.deferred (some []))
 apart:∀ y ∈ [wbx,ebx,b1,b2,L,D],y ∉ F' ∧ y ≠ wb ∧ y ≠ g
 ho:∀ a,so = some a → t.order ≠ [] → a.block ∉ F' ∧ a.block < w.heap.size
 hr:∀ a,sr = some a → t.rows ≠ [] → a.block ∉ F' ∧ a.block < w.heap.size
section
variable {w X X':World} {b:Bn} {n:Nat} {A:PubA} {x:ByteArray} {s:Pu.St} {F F' F2 G:List Nat} {kb wb g K:Nat} {T:Int} {t:Tbl} {gen:Nat} {so sr:Option Addr} {co cr:Nat} {wbx ebx b1 b2 L D:Nat} {rec rec':Loop} {j:Nat}
theorem WrJ.touch (I:WrJ w X b n A x s F kb wb g K t gen so sr co cr wbx ebx b1 b2 L D rec F' j) (q:Tc G X X') (hG:∀ y ∈ G,y ∉ F' ∧ b.lo ≤ y ∧ y ≠ wb ∧ y ≠ g ∧ w.heap.size ≤ y ∧ y ∉ [wbx,ebx,b1,b2,L,D]) :
  WrJ w X' b n A x s F kb wb g K t gen so sr co cr wbx ebx b1 b2 L D rec F' j:=by
 have h:∀ y ∈ [wbx,ebx,b1,b2,L,D],y ∉ G:=fun y hy hG'=>(hG y hG').2.2.2.2.2 hy
 refine ⟨I.lay.touch q (fun y hy=>⟨(hG y hy).1,(hG y hy).2.1,(hG y hy).2.2.1,(hG y hy).2.2.2.1,(hG y hy).2.2.2.2.1⟩),(q.block _ (ltB I.wv) (h _ (by simp))).trans I.wv,(q.block _ (ltB I.ev) (h _ (by simp))).trans I.ev,(q.block _ (ltB I.r1) (h _ (by simp))).trans I.r1,(q.block _ (ltB I.r2) (h _ (by simp))).trans I.r2,I.tbl.touch2 q (fun a ha hne hx=>?_) (fun a ha hne hx=>?_),(q.block _ (ltB I.l) (h _ (by simp))).trans I.l,(q.block _ (ltB I.d) (h _ (by simp))).trans I.d,I.apart,I.ho,I.hr⟩
 ·have:=(I.ho a ha hne).2; have:=(hG _ hx).2.2.2.2.1; omega
 ·have:=(I.hr a ha hne).2; have:=(hG _ hx).2.2.2.2.1; omega
theorem WrJ.quiet (I:WrJ w X b n A x s F kb wb g K t gen so sr co cr wbx ebx b1 b2 L D rec F' j) (q:Tc [] X X'):WrJ w X' b n A x s F kb wb g K t gen so sr co cr wbx ebx b1 b2 L D rec F' j:=I.touch q (by simp)
theorem WrJ.loop (I:WrJ w X b n A x s F kb wb g K t gen so sr co cr wbx ebx b1 b2 L D rec F' j) (hL:w.heap.size ≤ L) (hlo:b.lo ≤ L) (hne:L ∉ [wbx,ebx,b1,b2,D]):WrJ w (X.putObj L (.loop rec')) b n A x s F kb wb g K t gen so sr co cr wbx ebx b1 b2 L D rec' F' j:=by
 have q:Tc [L] X (X.putObj L (.loop rec')):=(Tc.refl [L] X).putObj _ (by simp)
 have ap:=I.apart L (by simp)
 have h:∀ y ∈ [wbx,ebx,b1,b2,D],y ∉ [L]:=fun y hy hx=>by simp at hx; subst hx; exact hne hy
 refine ⟨I.lay.touch q (fun y hy=>by simp at hy; subst hy; exact ⟨ap.1,hlo,ap.2.1,ap.2.2,hL⟩),(q.block _ (ltB I.wv) (h _ (by simp))).trans I.wv,(q.block _ (ltB I.ev) (h _ (by simp))).trans I.ev,(q.block _ (ltB I.r1) (h _ (by simp))).trans I.r1,(q.block _ (ltB I.r2) (h _ (by simp))).trans I.r2,I.tbl.touch2 q (fun a ha hne hx=>?_) (fun a ha hne hx=>?_),World.putObj_heap_same (ltB I.l),(q.block _ (ltB I.d) (h _ (by simp))).trans I.d,I.apart,I.ho,I.hr⟩
 ·simp at hx; have:=(I.ho a ha hne).2; omega
 ·simp at hx; have:=(I.hr a ha hne).2; omega
theorem WrJ.put (I:WrJ w X b n A x s F kb wb g K t gen so sr co cr wbx ebx b1 b2 L D rec F' j) (C:LayOk b A x 5 K (recsN t gen)) (hn:n < 549755813888) (hk:DkA w kb b (K:Int) T) (hkF:kb ∉ F) (hj:j < (recsN t gen).length) (hwb:w.heap.size ≤ wb) (hg:w.heap.size ≤ g) (hne:wb ≠ g) (hlo:b.lo ≤ w.heap.size) :
  Calls Tryz.prog 101 #[ptr wb,Rc.val (recsN t gen)[j]] X fun e X'=>e = .returned (.int .i64 0) ∧ ∃ F2,WrJ w X' b n A x s F kb wb g K t gen so sr co cr wbx ebx b1 b2 L D rec F2 (j + 1):=by
 refine (lay_stepX I.lay C hn hk hkF hj hwb hg hne hlo).mono fun e X' ⟨e1,F2,I2,q,f⟩=>⟨e1,F2,?_⟩
 have lt:∀ y ∈ [wbx,ebx,b1,b2,L,D],y < X.heap.size:=by
  intro y hy
  simp only [List.mem_cons,List.not_mem_nil,or_false] at hy
  rcases hy with rfl | rfl | rfl | rfl | rfl | rfl
  ·exact ltB I.wv
  ·exact ltB I.ev
  ·exact ltB I.r1
  ·exact ltB I.r2
  ·exact ltB I.l
  ·exact ltB I.d
 have h:∀ y ∈ [wbx,ebx,b1,b2,L,D],y ∉ wb :: g :: F':=fun y hy hx=>by
  have:=I.apart y hy
  simp only [List.mem_cons] at hx
  rcases hx with h | h | h
  ·exact this.2.1 h
  ·exact this.2.2 h
  ·exact this.1 h
 have hlt:=I.lay.t.size
 have nf:∀ y,y ∉ F' → y < X.heap.size → y ∉ F2:=fun y h1 h2 hx=>by
  rcases f y hx with h | h
  ·exact h1 h
  ·omega
 refine ⟨I2,(q.block _ (ltB I.wv) (h _ (by simp))).trans I.wv,(q.block _ (ltB I.ev) (h _ (by simp))).trans I.ev,(q.block _ (ltB I.r1) (h _ (by simp))).trans I.r1,(q.block _ (ltB I.r2) (h _ (by simp))).trans I.r2,I.tbl.touch2 q (fun a ha hne hx=>?_) (fun a ha hne hx=>?_),(q.block _ (ltB I.l) (h _ (by simp))).trans I.l,(q.block _ (ltB I.d) (h _ (by simp))).trans I.d,fun y hy=>⟨nf y (I.apart y hy).1 (lt y hy),(I.apart y hy).2⟩,fun a ha hne=>⟨nf _ (I.ho a ha hne).1 (by have:=(I.ho a ha hne).2; omega),(I.ho a ha hne).2⟩,fun a ha hne=>⟨nf _ (I.hr a ha hne).1 (by have:=(I.hr a ha hne).2; omega),(I.hr a ha hne).2⟩⟩
 ·have h2:=(I.ho a ha hne).2
  simp only [List.mem_cons] at hx
  rcases hx with h | h | h
  ·omega
  ·omega
  ·exact (I.ho a ha hne).1 h
 ·have h2:=(I.hr a ha hne).2
  simp only [List.mem_cons] at hx
  rcases hx with h | h | h
  ·omega
  ·omega
  ·exact (I.hr a ha hne).1 h
end
attribute [local go_sem] Oper.semAt_some
section
variable {w X:World} {b:Bn} {n:Nat} {A:PubA} {x:ByteArray} {s:Pu.St} {F F':List Nat} {kb wb g K:Nat} {t:Tbl} {gen:Nat} {so sr:Option Addr} {co cr:Nat} {wbx ebx b1 b2 L D:Nat} {rec:Loop} {j:Nat}
theorem WrJ.setE (I:WrJ w X b n A x s F kb wb g K t gen so sr co cr wbx ebx b1 b2 L D rec F' j) (hL:w.heap.size ≤ ebx) (hlo:b.lo ≤ ebx) (hne:ebx ∉ [wbx,b1,b2,L,D]):WrJ w (X.setCell ⟨ebx,0,none⟩ (.int .i64 0)) b n A x s F kb wb g K t gen so sr co cr wbx ebx b1 b2 L D rec F' j:=by
 have q:Tc [ebx] X (X.setCell ⟨ebx,0,none⟩ (.int .i64 0)):=(Tc.refl [ebx] X).setCell (by simp) _
 have ap:=I.apart ebx (by simp)
 have h:∀ y ∈ [wbx,b1,b2,L,D],y ∉ [ebx]:=fun y hy hx=>by simp at hx; subst hx; exact hne hy
 refine ⟨I.lay.touch q (fun y hy=>by simp at hy; subst hy; exact ⟨ap.1,hlo,ap.2.1,ap.2.2,hL⟩),(q.block _ (ltB I.wv) (h _ (by simp))).trans I.wv,(sRw I.ev 0 _).trans (by simp),(q.block _ (ltB I.r1) (h _ (by simp))).trans I.r1,(q.block _ (ltB I.r2) (h _ (by simp))).trans I.r2,I.tbl.touch2 q (fun a ha hne hx=>?_) (fun a ha hne hx=>?_),(q.block _ (ltB I.l) (h _ (by simp))).trans I.l,(q.block _ (ltB I.d) (h _ (by simp))).trans I.d,I.apart,I.ho,I.hr⟩
 ·simp at hx; have:=(I.ho a ha hne).2; omega
 ·simp at hx; have:=(I.hr a ha hne).2; omega
end
section
variable {w:World} {b:Bn} {n:Nat} {A:PubA} {s:Pu.St} {F:List Nat} {kb K:Nat} {T:Int} {t:Tbl} {gen:Nat} {so sr:Option Addr} {co cr:Nat}
set_option maxHeartbeats 8000000 in
theorem write_ok (S:Std w b n A s F) (C:LayOk b A (bs (catN gen)) 5 K (recsN t gen)) (hn:n < 549755813888) (hk:DkA w kb b (K:Int) T) (hkF:kb ∉ F) (hT:Tabs w) (ht:TblAt w t so sr) (ho:∀ a,so = some a → t.order ≠ [] → a.block ∉ F ∧ a.block < w.heap.size) (hr:∀ a,sr = some a → t.rows ≠ [] → a.block ∉ F ∧ a.block < w.heap.size) (hl:Pu.leaveE s (K:Int) = 0) (hg:gen < 18446744073709551616) :
  Calls Tryz.prog 49 #[ptr kb,tblV t so sr co cr,.int .u64 (gen:Int)] w fun e w'=>e = .returned (.int .i64 0) ∧
   Went w w' b (n + (recsN t gen).length + 3) (mkX A (bs (catN gen)) true (bkO 5 K A.B (recsN t gen) (nBk K (recsN t gen).length)) (2 + (nBk K (recsN t gen).length:Nat))) ((s.take (K:Int)).give (K:Int)) F []:=by
 have hroom:=S.room
 have hFlt:=S.lt
 have hklt:=ltB hk
 have hKK:=C.hK
 have HS:=hid S
 have HC:=hid C
 have HK:=hid hk
 have HTB:=hid hT
 have HTT:=hid ht
 have HOO:=hid (And.intro ho hr)
 have HNM:=hid (fun W (tt:Tc [] w W)=>Nm.name_any gen hg W (hT.quiet tt).tz)
 have HW:Hid (∀ W,Tc [] w W → Calls Tryz.prog 99 #[ptr kb,.string (bs (catN gen)),.int .i64 5] W fun e w'=>∃ wb g,e = .returned (.tuple #[ptr wb,.int .i64 0]) ∧ WentN W w' b (n + 1) (mkX A (bs (catN gen)) false [] 1) (s.take K) F [] [wb,g] ∧ wb ≠ g ∧ WrAt w' wb kb (bs (catN gen)) 5 [] 0 0 0 g K):=fun W tt=>by
  have h:=Write_ok (S.quiet tt) (by omega) (hk.touch tt (by simp)) hkF hKK (bs (catN gen)) 5 (hold_new C.new (by omega) hl) (by rw [tr_nil C.nil,create_x C.new])
  rw [tr_nil C.nil,create_x C.new] at h
  exact h
 clear S C hk hT ht ho hr
 refine (callsIn_wide (n:=5)).1 ?_
 refine callsIn_of_wp_marks Tryz.func49 rfl trivial (wpIn_wide.2 ?_)
 simp only [Tryz.ntmps49,List.size_toArray,List.length_cons,List.length_nil,Nat.reduceAdd,Nat.reduceSub,Array.replicate_succ,Array.replicate_zero,List.push_toArray,List.append_toArray,List.nil_append,List.cons_append]
 have hnq:=nilq
 simp only [tblV] at *
 have HTa:=hid ((Tc.refl [] w).alloc (.cells #[.int .i64 t.vars,.slice so t.order.length co,.slice sr t.rows.length cr,.int .i64 t.next,.int .u64 (t.nf:Int)] 26))
 have HRa:=hid (heap_alloc_new w (.cells #[.int .i64 t.vars,.slice so t.order.length co,.slice sr t.rows.length cr,.int .i64 t.next,.int .u64 (t.nf:Int)] 26))
 go_upto_region 4 with (first
  |(go_at_call 99; refine (HW.out _ (HTa.out.trans HT1.out (by simp))).mono ?_; rintro e w2 ⟨wb,g,rfl,hw,hwg,hwr⟩; have HG:=hid hw; have HWR:=hid hwr; clear hw hwr)
  |(go_at_call 22; refine (HNM.out _ HTa.out).mono ?_; rintro e w1 ⟨rfl,hb1⟩; have HT1:=hid (Tc.of_below (F:=[]) hb1 (Nat.le_refl _)); clear hb1))
 obtain ⟨F1,S1,t1,f1,hN⟩:=HG.out
 obtain ⟨nw1,nw2,nw3⟩:=hN wb (by simp)
 obtain ⟨ng1,ng2,ng3⟩:=hN g (by simp)
 have hs1:=HT1.out.size
 have hs2:=t1.size
 obtain ⟨Wb,hWb⟩:∃ Wb,Wb = (w2.alloc (.cells #[ptr wb] 169)).alloc (.cells #[.int .i64 0] 46):=⟨_,rfl⟩
 have tb:Tc [] w2 Wb:=by rw [hWb]; exact ((Tc.refl [] w2).alloc _).alloc _
 have hsb:Wb.heap.size = w2.heap.size + 2:=by rw [hWb]; simp
 have hwv:Wb.heap[w2.heap.size]? = some (.cells #[ptr wb] 169 (0,0)):=by rw [hWb]; exact (Below.heap_alloc _ _ _ (by simp)).trans (heap_alloc_new w2 _)
 have hev:Wb.heap[w2.heap.size + 1]? = some (.cells #[.int .i64 0] 46 (0,0)):=by rw [hWb]; have:=heap_alloc_new (w2.alloc (.cells #[ptr wb] 169)) (.cells #[.int .i64 0] 46); simpa using this
 rw [← hWb]
 clear hWb
 have hr0:=HRa.out
 have hl0:=ltB hr0
 have hr1:=(HT1.out.block _ hl0 (by simp)).trans hr0
 have hnF:w.heap.size ∉ F:=fun h=>by have:=hFlt _ h; omega
 have hr2:=(t1.block _ (ltB hr1) (by simpa using hnF)).trans hr1
 have hrb:=(tb.block _ (ltB hr2) (by simp)).trans hr2
 have hsa:(w.alloc (.cells #[.int .i64 t.vars,.slice so t.order.length co,.slice sr t.rows.length cr,.int .i64 t.next,.int .u64 (t.nf:Int)] 26)).heap.size = w.heap.size + 1:=by simp
 have crow:=fun i=>cRw hrb i
 have HRC:=hid (records_any (w:=Wb) t so sr co cr gen)
 have twb:Tc F w Wb:=((HTa.out.trans HT1.out (by simp)).mono (by simp)).trans (t1.trans tb (by simp)) (fun y hy=>.inl (by simpa using hy))
 have HTWB:=hid twb
 have HX:=hid (And.intro S1 (And.intro f1 (And.intro nw1 ng1)))
 have HV:=hid (And.intro hwv (And.intro hev hrb))
 have HTb:=hid tb
 clear HRa HW HNM hr0 hl0 hr1 hr2 S1 f1 nw1 ng1 hwv hev hrb twb hN t1 tb HG
 simp only [tblV] at HRC
 go_wp2_with (go_at_call 100; refine HRC.out.mono ?_; rintro e w3 ⟨rfl,hw3⟩)
 obtain ⟨wbx,hwbx⟩:∃ y,y = w2.heap.size:=⟨_,rfl⟩
 obtain ⟨ebx,hebx⟩:∃ y,y = w2.heap.size + 1:=⟨_,rfl⟩
 obtain ⟨b1,hb1⟩:∃ y,y = Wb.heap.size:=⟨_,rfl⟩
 obtain ⟨b2,hb2⟩:∃ y,y = Wb.heap.size + 1:=⟨_,rfl⟩
 have hb1':b1 = w2.heap.size + 2:=by omega
 have hb2':b2 = w2.heap.size + 2 + 1:=by omega
 have h3s:w3.heap.size = Wb.heap.size + 2:=by rw [hw3]; simp
 have h31:w3.heap[b1]? = some (.cells (tblC t so sr co cr) 26 (0,0)):=by rw [hw3,hb1]; exact (Below.heap_alloc _ _ _ (by simp)).trans (heap_alloc_new Wb _)
 have h32:w3.heap[b2]? = some (.cells #[.int .u64 (gen:Int)] 24 (0,0)):=by rw [hw3,hb2]; have:=heap_alloc_new (Wb.alloc (.cells (tblC t so sr co cr) 26)) (.cells #[.int .u64 (gen:Int)] 24); simpa using this
 have t3:Tc [] Wb w3:=by rw [hw3]; exact ((Tc.refl [] Wb).alloc _).alloc _
 have T3:=hid t3
 have H3:=hid (And.intro h31 h32)
 rw [← hb2',← hb1',← hebx,← hwbx,← hw3]
 clear hb1' hb2'
 clear hw3 h31 h32 t3 crow HRC
 refine wp_range (m:=5) (gf:=147) (lb:=#[ptr b1,ptr b2]) rfl (enters_of Tryz.func147 (by kernel_rfl) rfl) ?_
 intro q W1 hqt hqp hqa hqb hL hD tq hsz
 obtain ⟨L,hLe⟩:∃ L,L = w3.heap.size + 1:=⟨_,rfl⟩
 obtain ⟨D,hDe⟩:∃ D,D = w3.heap.size:=⟨_,rfl⟩
 rw [← hLe] at hL ⊢
 rw [← hDe] at hD ⊢
 obtain ⟨S1,f1,nw1,ng1⟩:=HX.out
 obtain ⟨hwv,hev,hrb⟩:=HV.out
 obtain ⟨h31,h32⟩:=H3.out
 have q1:Tc [] Wb W1:=T3.out.trans tq (by simp)
 have hFs1:=S1.lt
 have hboxes:∀ y ∈ [wbx,ebx,b1,b2,L,D],w2.heap.size ≤ y:=by
  intro y hy
  simp only [List.mem_cons,List.not_mem_nil,or_false] at hy
  omega
 have hwlt:wb < w2.heap.size:=nw3
 have hglt:g < w2.heap.size:=ng3
 have HJ0:Hid (WrJ w W1 b n A (bs (catN gen)) s F kb wb g K t gen so sr co cr wbx ebx b1 b2 L D (q.at .ready none) F1 0):=by
  have hwr:=HWR.out
  have hwv1:W1.heap[wbx]? = some (.cells #[ptr wb] 169 (0,0)):=by rw [hwbx]; exact (q1.block _ (ltB hwv) (by simp)).trans hwv
  have hev1:W1.heap[ebx]? = some (.cells #[.int .i64 0] 46 (0,0)):=by rw [hebx]; exact (q1.block _ (ltB hev) (by simp)).trans hev
  have q2:Tc [] w2 W1:=by
   have:=HTb.out
   exact this.trans q1 (by simp)
  refine ⟨⟨?_,HTWB.out.trans q1 (by simp),fun y hy=>?_,nw1,ng1,?_,?_⟩,hwv1,hev1,(tq.block _ (ltB h31) (by simp)).trans h31,(tq.block _ (ltB h32) (by simp)).trans h32,?_,hL,hD,fun y hy=>?_,fun a ha hne=>⟨fun hx=>?_,(HOO.out.1 a ha hne).2⟩,fun a ha hne=>⟨fun hx=>?_,(HOO.out.2 a ha hne).2⟩⟩
  ·have:=S1.quiet q2
   simpa [bkO] using this
  ·rcases f1 y hy with h | h
   ·exact .inl h
   ·exact .inr (by omega)
  ·have:=hwr.row
   simpa [wrow] using (q2.block _ (ltB this) (by simp)).trans this
  ·obtain ⟨rest,h1,h2⟩:=hwr.list
   exact ⟨rest,by simpa [flatR] using (q2.block _ (ltB h1) (by simp)).trans h1,by simpa using h2⟩
  ·exact HTT.out.touch2 (HTWB.out.trans q1 (by simp)) (fun a ha hne=>(HOO.out.1 a ha hne).1) (fun a ha hne=>(HOO.out.2 a ha hne).1)
  ·have h:=hboxes y hy
   exact ⟨fun hx=>by have:=hFs1 y hx; omega,by omega,by omega⟩
  ·rcases f1 _ hx with h | h
   ·exact (HOO.out.1 a ha hne).1 h
   ·have:=(HOO.out.1 a ha hne).2; omega
  ·rcases f1 _ hx with h | h
   ·exact (HOO.out.2 a ha hne).1 h
   ·have:=(HOO.out.2 a ha hne).2; omega
 have hwg':w.heap.size ≤ wb ∧ w.heap.size ≤ g:=by omega
 have hLw:w.heap.size ≤ L ∧ b.lo ≤ L:=by omega
 have hLn:L ∉ [wbx,ebx,b1,b2,D]:=by
  simp only [List.mem_cons,List.not_mem_nil,or_false]
  omega
 have hdis:ebx ≠ L ∧ ebx ≠ wbx ∧ ebx ≠ b1 ∧ ebx ≠ b2 ∧ ebx ≠ D ∧ D ≠ L:=by omega
 have hbx:w.heap.size ≤ ebx ∧ b.lo ≤ ebx:=by omega
 have HBX:=hid hboxes
 have hDw:w.heap.size ≤ D ∧ b.lo ≤ D:=by omega
 have HPUT:Hid (∀ X F' j,WrJ w X b n A (bs (catN gen)) s F kb wb g K t gen so sr co cr wbx ebx b1 b2 L D (q.at .busy none) F' j → (hj:j < (recsN t gen).length) → Calls Tryz.prog 101 #[ptr wb,Rc.val (recsN t gen)[j]] X fun e X'=>e = .returned (.int .i64 0) ∧ ∃ F2,WrJ w X' b n A (bs (catN gen)) s F kb wb g K t gen so sr co cr wbx ebx b1 b2 L D (q.at .busy none) F2 (j + 1)):=
  fun X F' j I hj=>I.put HC.out hn HK.out hkF hj hwg'.1 hwg'.2 hwg hroom
 have HCLO:Hid (∀ X F' rec,WrJ w X b n A (bs (catN gen)) s F kb wb g K t gen so sr co cr wbx ebx b1 b2 L D rec F' (recsN t gen).length → Calls Tryz.prog 102 #[ptr wb] X fun e X'=>e = .returned (.int .i64 0) ∧ Went X X' b (n + (recsN t gen).length + 3) (mkX A (bs (catN gen)) true (bkO 5 K A.B (recsN t gen) (nBk K (recsN t gen).length)) (2 + (nBk K (recsN t gen).length:Nat))) ((s.take (K:Int)).give (K:Int)) F' [wb]):=
  fun X F' rec I=>lay_closeX I.lay HC.out hn HK.out hkF hwg'.1 hwg'.2 hwg hroom
 have hEn:ebx ∉ [wbx,b1,b2,L,D]:=by
  simp only [List.mem_cons,List.not_mem_nil,or_false]
  omega
 have HKE:Hid (∀ X F' rec X',WrJ w X b n A (bs (catN gen)) s F kb wb g K t gen so sr co cr wbx ebx b1 b2 L D rec F' (recsN t gen).length → ∀ {n' A' s'},Went X X' b n' A' s' F' [wb] → X'.heap[ebx]? = some (.cells #[.int .i64 0] 46 (0,0)) ∧ X'.heap[D]? = some (.deferred (some [])) ∧ ∃ F2,Std X' b n' A' s' F2 ∧ Tc F w X' ∧ (∀ y ∈ F2,y ∈ F ∨ w.heap.size ≤ y) ∧ ebx ∉ F2 ∧ D ∉ F2):=fun X F' rec X' I n' A' s' h=>by
  obtain ⟨F2,S2,t2,f2⟩:=h
  have a1:=I.apart ebx (by simp)
  have a2:=I.apart D (by simp)
  have l1:=ltB I.ev
  have l2:=ltB I.d
  have nf:∀ y,y ∉ F' → y < X.heap.size → y ∉ F2:=fun y h1 h2 hx=>by
   rcases f2 y hx with h | h
   ·exact h1 h
   ·omega
  refine ⟨(t2.block _ l1 (by simp; exact ⟨a1.2.1,a1.1⟩)).trans I.ev,(t2.block _ l2 (by simp; exact ⟨a2.2.1,a2.1⟩)).trans I.d,F2,S2,I.lay.t.trans t2 (fun y hy=>?_),fun y hy=>?_,nf _ a1.1 l1,nf _ a2.1 l2⟩
  ·simp at hy
   rcases hy with rfl | hy
   ·exact .inr hwg'.1
   ·exact I.lay.f y hy
  ·rcases f2 y hy with h | h
   ·exact I.lay.f y h
   ·exact .inr (Nat.le_trans I.lay.t.size h)
 clear hLe hDe hsz hb1 hb2 hebx hwbx h3s hs1 hs2 hsb hsa hnF S1 f1 nw1 nw2 nw3 ng1 ng2 ng3 hwv hev hrb h31 h32 hFs1 hboxes hwlt hglt HWR HX HV H3 T3 HTb HTWB HT1 HTT hL hD tq q1 hFlt hklt
 refine (recs1_any (J:=fun j X=>∃ F',WrJ w X b n A (bs (catN gen)) s F kb wb g K t gen so sr co cr wbx ebx b1 b2 L D (q.at .ready none) F' j) (St:=fun _=>False) (t:=t) (so:=so) (sr:=sr) (co:=co) (cr:=cr) (gen:=gen) (fun j X ⟨F',I⟩=>⟨I.r1,I.r2,I.tbl⟩) (fun j X X' ⟨F',I⟩ tt=>⟨F',I.quiet tt⟩) ⟨F1,HJ0.out⟩ ?_).mono ?_
 ·rintro m' j hj X ⟨F',I⟩
  have HI:=hid I
  have HQB:=hid hqb
  clear hqb HJ0
  refine yield_round I.l (by rw [hqp]; rfl) ?_
  rw [hqa,hqp,hqt]
  clear hqa hqp hqt I
  gi_wp2
  obtain ⟨X2,hX2⟩:∃ X2,X2 = X.alloc (.cells #[.int .u64 ((recsN t gen)[j].1:Int),.int .u64 ((recsN t gen)[j].2.1:Int),.int .u64 ((recsN t gen)[j].2.2.1:Int),.int .u64 ((recsN t gen)[j].2.2.2:Int)] 176):=⟨_,rfl⟩
  have hr2:X2.heap[X.heap.size]? = some (.cells #[.int .u64 ((recsN t gen)[j].1:Int),.int .u64 ((recsN t gen)[j].2.1:Int),.int .u64 ((recsN t gen)[j].2.2.1:Int),.int .u64 ((recsN t gen)[j].2.2.2:Int)] 176):=by rw [hX2]; exact heap_alloc_new X _
  have t2:Tc [] X X2:=by rw [hX2]; exact (Tc.refl [] X).alloc _
  rw [← hX2]
  have hob:=ltB HI.out.l
  have hnL:X.heap.size ≠ L:=by omega
  have I2:=HI.out.quiet t2
  generalize X.heap.size = ob at *
  refine ⟨I2.l,?_⟩
  obtain ⟨X3,hX3⟩:∃ X3,X3 = X2.putObj L (.loop (q.at .busy none)):=⟨_,rfl⟩
  have I3:=I2.loop (rec':=q.at .busy none) hLw.1 hLw.2 hLn
  have hr30:X3.heap[ob]? = X2.heap[ob]?:=by rw [hX3]; exact World.putObj_heap_other hnL
  have hr3:=hr30.trans hr2
  clear hr30
  rw [← hX3] at I3 ⊢
  rw [HQB.out]
  have HP:=hid (HPUT.out X3 F' j I3 hj)
  have q0:=cRw hr3 0
  have q1:=cRw hr3 1
  have q2:=cRw hr3 2
  have q3:=cRw hr3 3
  have qw:=cRw I3.wv 0
  simp only [List.getElem?_toArray,List.getElem?_cons_zero,List.getElem?_cons_succ] at q0 q1 q2 q3 qw
  clear hX2 hX3 hr2 hr3 t2 I2 I3 hob hnL HPUT HCLO
  gi_wp2
  refine ⟨trivial,fun h=>(by cases h),(CallsIn.inRound L (callsIn_wide.2 HP.out)).mono ?_⟩
  rintro e W4 ⟨rfl,F4,hI4⟩
  have HI4:=hid hI4
  clear hI4
  have qe:=cRw HI4.out.ev 0
  have ue:=uRw HI4.out.ev 0
  simp only [List.getElem?_toArray,List.getElem?_cons_zero,List.getElem?_cons_succ] at qe
  gi_wp2
  have I5:=HI4.out.setE hbx.1 hbx.2 hEn
  have I6:=I5.loop (rec':=q.at .ready none) hLw.1 hLw.2 hLn
  exact round_on (q:=q) I5.l (.inl ⟨rfl,F4,I6⟩)
 ·rintro e W2 ⟨hv,hJ⟩
  obtain ⟨F2,I⟩:=hJ.resolve_right (fun h=>h)
  refine ⟨hv,.ready,none,by simp,I.l,?_⟩
  intro W3 hW3
  have I3:=I.loop (rec':=q.at .exhausted none) hLw.1 hLw.2 hLn
  rw [← hW3] at I3
  have HI:=hid I3
  have HQ:=hid (HCLO.out _ _ _ I3)
  have qw:=cRw I3.wv 0
  simp only [List.getElem?_toArray,List.getElem?_cons_zero,List.getElem?_cons_succ] at qw
  clear hW3 I3 I hJ HJ0 HPUT HCLO hqt hqp hqa hqb
  dsimp only
  go_wp2_with (go_at_call 102; refine HQ.out.mono ?_; rintro e W4 ⟨rfl,hW4⟩; have H4:=hid hW4; clear hW4; have I4:=HKE.out _ _ _ _ HI.out H4.out; have qe:=cRw I4.1 0; have ue:=uRw I4.1 0; simp only [List.getElem?_toArray,List.getElem?_cons_zero,List.getElem?_cons_succ] at qe; have HD4:=hid I4; clear I4)
  obtain ⟨h1,h2,F9,S9,t9,f9,n9,m9⟩:=HD4.out
  have hD4:=(Below.heap_setCell W4 ⟨ebx,0,none⟩ (.int .i64 0) D (fun h=>hdis.2.2.2.2.1 h.symm)).trans h2
  refine ⟨by simp,.inl ⟨_,_,rfl,run_takeDeferred hD4,?_⟩⟩
  refine ⟨.int .i64 0,by simp [results,Tryz.results49,go_sem],rfl,?_⟩
  have tt:Tc [ebx,D] W4 ((W4.setCell ⟨ebx,0,none⟩ (.int .i64 0)).putObj D (.deferred none)):=((Tc.refl [ebx,D] W4).setCell (by simp) _).putObj _ (by simp)
  exact ⟨F9,S9.touch tt (fun y hy=>by simp at hy; rcases hy with rfl | rfl; exact ⟨n9,hbx.2⟩; exact ⟨m9,hDw.2⟩),(t9.trans tt (fun y hy=>by simp at hy; rcases hy with rfl | rfl; exact .inr hbx.1; exact .inr hDw.1)).mono (by simp),f9⟩
end
def tidyL (b:Bn) (kept:List (List UInt8)):List ByteArray → PubA → Int × PubA
 | [],A=>(0,A)
 | x :: r,A=>if nm x ∈ kept then tidyL b kept r A else if (deleteB x (b.tr A) A).1 ≠ 0 then deleteB x (b.tr A) A else tidyL b kept r (deleteB x (b.tr A) A).2
def tidyB (b:Bn) (kept:List (List UInt8)) (A:PubA):Int × PubA:=tidyL b kept (namesA A) A
theorem tidyL_kept {b:Bn} {kept:List (List UInt8)} {x:ByteArray} {r:List ByteArray} {A:PubA} (h:nm x ∈ kept):tidyL b kept (x :: r) A = tidyL b kept r A:=by
 show (if nm x ∈ kept then tidyL b kept r A else _) = _
 rw [if_pos h]
theorem tidyL_bad {b:Bn} {kept:List (List UInt8)} {x:ByteArray} {r:List ByteArray} {A:PubA} (h:nm x ∉ kept) (h1:(deleteB x (b.tr A) A).1 ≠ 0):tidyL b kept (x :: r) A = deleteB x (b.tr A) A:=by
 show (if nm x ∈ kept then tidyL b kept r A else if (deleteB x (b.tr A) A).1 ≠ 0 then deleteB x (b.tr A) A else tidyL b kept r (deleteB x (b.tr A) A).2) = _
 rw [if_neg h,if_pos h1]
theorem tidyL_on {b:Bn} {kept:List (List UInt8)} {x:ByteArray} {r:List ByteArray} {A:PubA} (h:nm x ∉ kept) (h1:(deleteB x (b.tr A) A).1 = 0):tidyL b kept (x :: r) A = tidyL b kept r (deleteB x (b.tr A) A).2:=by
 show (if nm x ∈ kept then tidyL b kept r A else if (deleteB x (b.tr A) A).1 ≠ 0 then deleteB x (b.tr A) A else tidyL b kept r (deleteB x (b.tr A) A).2) = _
 rw [if_neg h,if_neg (by simp [h1])]
theorem run_clear_map {w:World} {mb:Nat} {es:Array MapEntry} {clock:Nat} (hb:w.heap[mb]? = some (.map es clock)) (ty:TypeId):(Builtin.clear_ #[89] ty #[.map (some mb)]).run Tryz.prog w = .ok (.tuple #[]) { w with heap:=w.heap.setIfInBounds mb (.map #[] clock) }:=by
 simp [Builtin.clear_,run_underlying Tryz.underlying89,MapKept.run_getObj_map hb,MapKept.run_setObj_map _ hb,Result.andThen]
theorem Tc.mapSet {w:World} {mb:Nat} (o:Obj):Tc [mb] w { w with heap:=w.heap.setIfInBounds mb o }:=
 ⟨rfl,rfl,rfl,by simp,fun k _ hk=>by simp at hk; simp [Array.getElem?_setIfInBounds,Ne.symm hk]⟩
section
variable {w w':World} {b:Bn} {n:Nat} {A A':PubA} {s:Pu.St} {F:List Nat} {kb:Nat} {K T:Int} {mb:Nat} {l:List (List UInt8)}
theorem SeenAt.clear (h:SeenAt w mb l):∃ w2,(∀ ty,(Builtin.clear_ #[89] ty #[.map (some mb)]).run Tryz.prog w = .ok (.tuple #[]) w2) ∧ Tc [mb] w w2:=by
 obtain ⟨D,⟨es,clock,hb,_⟩,_⟩:=h
 exact ⟨_,fun ty=>run_clear_map hb ty,Tc.mapSet _⟩
theorem Went.mono_n {m:Nat} {G:List Nat} (h:Went w w' b n A s F G) (hn:n ≤ m):Went w w' b m A s F G:=by
 obtain ⟨F',S,t,f⟩:=h
 exact ⟨F',S.mono hn,t,f⟩
set_option maxHeartbeats 2000000 in
theorem tidy_any (S:Std w b n A s F) (hn:2 * n < 1099511627776) (hk:DkA w kb b K T) (hkF:kb ∉ F) (hm:SeenAt w mb l) (hmF:mb ∉ F) (hml:b.lo ≤ mb) :
  Calls Tryz.prog 51 #[ptr kb,.map (some mb)] w fun e w'=>e = .returned (.int .i64 (tidyB b l A).1) ∧ Went w w' b (n + (namesA A).length) (tidyB b l A).2 s F [mb]:=by
 have HD:=hid (fun W (t:Tc F w W)=>Disk_any (hk.touch t hkF))
 have HN:=hid (names_s S (by omega))
 have hl:=names_len S
 have hf:=names_few S
 have HS:=hid S
 have HM:=hid hm
 have HMF:=hid hmF
 have HML:=hid hml
 have HFL:=hid S.lt
 have HR:=hid (show tidyB b l A = tidyL b l (namesA A) A from rfl)
 clear S hk hkF hm hmF hml
 generalize namesA A = nl at *
 have HL1:=hid hl
 have HL2:=hid (show n + nl.length < 1099511627776 by omega)
 have HL3:=hid (show nl.length < 1099511627776 by omega)
 clear hl hf
 go_enter Tryz.func51,Tryz.ntmps51
 go_wp2_with (first
  |(go_at_call 21; refine HN.out.mono ?_; rintro e w1 ⟨sa,c,rfl,hs,hsl,ht⟩; have HST:=hid hs; have HSL:=hid hsl; have HT1:=hid ht; clear hs ht hsl)
  |(go_at_call 92; refine (HD.out w (Tc.refl _ _)).mono ?_; rintro e w1 ⟨rfl,hh⟩; have hh:=hh.symm; subst hh))
 have HS1:=hid (HS.out.quiet HT1.out)
 go_loopw [14] (fun i W=>∃ k:Nat,k ≤ nl.length ∧ i = .int .i64 k ∧ ∃ A',tidyB b l A = tidyL b l (nl.drop k) A' ∧ Went w1 W b (n + k) A' s F []) (fun i _=>nl.length - (intOf i).toNat)
 case atStart=>exact ⟨0,Nat.zero_le _,rfl,A,HR.out,Went.same HS1.out⟩
 case round =>
  obtain ⟨k,hk,rfl,A',heq,hW⟩:=hrel
  have HW:=hid hW
  obtain ⟨F1,S1,t1,f1⟩:=hW
  have t1':Tc F w1 wr:=t1.mono (by simp)
  have hm1:=(HM.out.touch HT1.out (by simp)).touch t1' HMF.out
  have hst:=HST.out.touch t1' (fun a ha hx=>by have h1:=HSL.out a ha; have h2:=HFL.out _ hx; omega)
  have HEQ:=hid heq
  have HS2:=hid S1
  have HM1:=hid hm1
  have HF1:=hid f1
  have HT:=hid t1'
  have HTW:=hid (Tc.trans (F:=F) (HT1.out.mono (by simp)) t1' (fun y hy=>.inl hy))
  clear heq S1 t1 f1 t1' hm1
  have hl3:=HL3.out
  by_cases hlt:k < nl.length
  ·obtain ⟨a,rfl,hab,hc⟩:=hst.at_ k hlt
   have hx:=HL1.out nl[k] (List.getElem_mem _)
   have hd:nl.drop k = nl[k] :: nl.drop (k + 1):=List.drop_eq_getElem_cons hlt
   have HDR:=hid hd
   have HKN:=hid (show n + k < 1099511627776 by have:=HL2.out; omega)
   generalize nl[k] = x at *
   have hlook:=HM1.out.lookN hx
   have HX:=hid hx
   clear hd hx hst hab
   by_cases hin:nm x ∈ l
   ·have HQ:=hid (show tidyB b l A = tidyL b l (nl.drop (k + 1)) A' by rw [HEQ.out,HDR.out,tidyL_kept hin])
    rw [decide_eq_true hin] at hlook
    clear hin
    go_wp2_with fail
    refine ⟨⟨k + 1,hlt,rfl,A',HQ.out,?_⟩,by simp [intOf]; omega⟩
    obtain ⟨F2,S2,t2,f2⟩:=HW.out
    exact ⟨F2,(S2.mono (by omega)).quiet ((Tc.refl [] _).alloc _),t2.alloc _,f2⟩
   ·rw [decide_eq_false hin] at hlook
    have HIN:=hid hin
    clear hin
    have HX5:=hid (delete_s (HS2.out.quiet ((Tc.refl [] wr).alloc (.cells #[] 104))) HKN.out x)
    by_cases hz:(deleteB x (b.tr A') A').1 = 0
    ·have HQ:=hid (show tidyB b l A = tidyL b l (nl.drop (k + 1)) (deleteB x (b.tr A') A').2 by rw [HEQ.out,HDR.out,tidyL_on HIN.out hz])
     rw [hz] at HX5
     generalize (deleteB x (b.tr A') A').2 = A2 at *
     clear hz
     go_wp2_with (first
      |(go_at_call 105; refine HX5.out.mono ?_; rintro e w5 ⟨rfl,hw5⟩; have HG5:=hid hw5; clear hw5)
      |(go_at_call 92; refine (HD.out _ (HTW.out.alloc _)).mono ?_; rintro e w4 ⟨rfl,hh⟩; have hh:=hh.symm; subst hh))
     refine ⟨⟨k + 1,hlt,rfl,A2,HQ.out,?_⟩,by simp [intOf]; omega⟩
     have h5:Went wr w5 b (n + k + 1) A2 s _ []:=Went.pre ((Tc.refl [] wr).alloc _) HG5.out (by simp)
     exact Went.then (HT.out.mono (by simp)) HF1.out h5 (by simp)
    ·have HQ:=hid (show tidyB b l A = deleteB x (b.tr A') A' by rw [HEQ.out,HDR.out,tidyL_bad HIN.out hz])
     generalize deleteB x (b.tr A') A' = de at *
     obtain ⟨d1,d2⟩:=de
     dsimp only at hz HX5
     go_wp2_with (first
      |(go_at_call 105; refine HX5.out.mono ?_; rintro e w5 ⟨rfl,hw5⟩; have HG5:=hid hw5; clear hw5)
      |(go_at_call 92; refine (HD.out _ (HTW.out.alloc _)).mono ?_; rintro e w4 ⟨rfl,hh⟩; have hh:=hh.symm; subst hh))
     go_ret
     rw [HQ.out]
     refine ⟨rfl,?_⟩
     have h5:Went wr w5 b (n + k + 1) d2 s _ []:=Went.pre ((Tc.refl [] wr).alloc _) HG5.out (by simp)
     have h6:=Went.then (HT.out.mono (by simp)) HF1.out h5 (G:=[]) (by simp)
     exact (Went.pre HT1.out h6 (G':=[mb]) (by simp)).mono_n (by omega)
  ·obtain rfl:k = nl.length:=by omega
   have HQ:=hid (show tidyB b l A = (0,A') by rw [HEQ.out,List.drop_length]; rfl)
   obtain ⟨w2,hcl,ht2⟩:=HM1.out.clear
   clear hst
   have HT2:=hid ht2
   clear ht2
   go_wp2_with fail
   go_ret
   rw [HQ.out]
   refine ⟨rfl,?_⟩
   have hmlt:mb < w1.heap.size:=Nat.lt_of_lt_of_le HM.out.lt HT1.out.size
   obtain ⟨F2,S2,t2,f2⟩:=HW.out
   have hmF2:mb ∉ F2:=fun hx=>by rcases f2 _ hx with h | h; exact HMF.out h; omega
   have h3:Went wr w2 b (n + nl.length) A' s F2 [mb]:=⟨F2,S2.touch HT2.out (by simp; exact ⟨hmF2,HML.out⟩),HT2.out.mono (by simp),fun y hy=>.inl hy⟩
   have h4:Went w1 w2 b (n + nl.length) A' s F [mb]:=Went.then (t2.mono (by simp; intro y hy; exact .inr hy)) f2 h3 (fun y hy=>.inl hy)
   exact Went.pre HT1.out h4 (fun y hy=>.inl hy)
end
def refuseE (over:Bool) (t:Tbl) (gen:Nat):Int:=if fmB t = false then 170 else if gen = 18446744073709551615 then 7 else if over then 13 else 0
section
variable {w w':World} {b:Bn} {n:Nat} {A:PubA} {s:Pu.St} {F:List Nat} {kb:Nat} {K T:Int} {t:Tbl} {so sr:Option Addr} {co cr:Nat} {gen:Nat}
theorem refusal_form (h:TblAt w t so sr) (hg:gen < 18446744073709551616) (hf:fmB t = false) (kv:Value) :
  Calls Tryz.prog 45 #[kv,tblV t so sr co cr,.int .u64 (gen:Int)] w fun e w'=>e = .returned (.int .i64 170) ∧ Tc [] w w':=by
 have HF:=hid (fun W (ht:Tc [] w W)=>by have:=formed_any (co:=co) (cr:=cr) (h.touch ht (by simp) (by simp)); rw [hf] at this; exact this)
 have HT0:=hid ((Tc.refl [] w).alloc (.cells #[.int .i64 t.vars,.slice so t.order.length co,.slice sr t.rows.length cr,.int .i64 t.next,.int .u64 (t.nf:Int)] 26))
 clear h hf
 simp only [tblV] at *
 go_enter Tryz.func45,Tryz.ntmps45
 go_wp2_with (go_at_call 11; refine (HF.out _ HT0.out).mono ?_; rintro e w1 ⟨rfl,ht1⟩; have HT1:=hid (HT0.out.trans ht1 (by simp)); clear ht1)
 go_ret
 exact ⟨rfl,HT1.out⟩
theorem refusal_last (h:TblAt w t so sr) (hf:fmB t = true) (kv:Value) :
  Calls Tryz.prog 45 #[kv,tblV t so sr co cr,.int .u64 18446744073709551615] w fun e w'=>e = .returned (.int .i64 7) ∧ Tc [] w w':=by
 have HF:=hid (fun W (ht:Tc [] w W)=>by have:=formed_any (co:=co) (cr:=cr) (h.touch ht (by simp) (by simp)); rw [hf] at this; exact this)
 have HT0:=hid ((Tc.refl [] w).alloc (.cells #[.int .i64 t.vars,.slice so t.order.length co,.slice sr t.rows.length cr,.int .i64 t.next,.int .u64 (t.nf:Int)] 26))
 clear h hf
 simp only [tblV] at *
 go_enter Tryz.func45,Tryz.ntmps45
 go_wp2_with (go_at_call 11; refine (HF.out _ HT0.out).mono ?_; rintro e w1 ⟨rfl,ht1⟩; have HT1:=hid (HT0.out.trans ht1 (by simp)); clear ht1)
 go_ret
 exact ⟨rfl,HT1.out⟩
theorem refusal_desk (S:Std w b n A s F) (hn:n < 1099511627776) (hk:DkA w kb b K T) (hT:Tabs w) (h:TblAt w t so sr) (hg:gen < 18446744073709551615) (hf:fmB t = true) :
  Calls Tryz.prog 45 #[ptr kb,tblV t so sr co cr,.int .u64 (gen:Int)] w fun e w'=>e = .returned (.int .i64 (refuseE (overA A gen) t gen)) ∧ Tc [] w w':=by
 have HR:=hid (show refuseE (overA A gen) t gen = if overA A gen then 13 else 0 by unfold refuseE; rw [if_neg (by simp [hf]),if_neg (by omega)])
 have HF:=hid (fun W (ht:Tc [] w W)=>by have:=formed_any (co:=co) (cr:=cr) (h.touch ht (by simp) (by simp)); rw [hf] at this; exact this)
 have HO:=hid (fun W (ht:Tc [] w W)=>overtaken_any (S.quiet ht) hn (hk.touch ht (by simp)) (hT.quiet ht) gen)
 have HT0:=hid ((Tc.refl [] w).alloc (.cells #[.int .i64 t.vars,.slice so t.order.length co,.slice sr t.rows.length cr,.int .i64 t.next,.int .u64 (t.nf:Int)] 26))
 have hne:((gen:Int) == 18446744073709551615) = false:=by simp; omega
 clear h hf hg S hk hT
 generalize refuseE (overA A gen) t gen = R at *
 generalize overA A gen = ov at *
 simp only [tblV] at *
 cases ov
 ·go_enter Tryz.func45,Tryz.ntmps45
  go_wp2_with (first
   |(go_at_call 91; refine (HO.out _ HT1.out).mono ?_; rintro e w2 ⟨rfl,ht2⟩; have HT2:=hid (HT1.out.trans ht2 (by simp)); clear ht2)
   |(go_at_call 11; refine (HF.out _ HT0.out).mono ?_; rintro e w1 ⟨rfl,ht1⟩; have HT1:=hid (HT0.out.trans ht1 (by simp)); clear ht1))
  go_ret
  exact ⟨by rw [HR.out]; rfl,HT2.out⟩
 ·go_enter Tryz.func45,Tryz.ntmps45
  go_wp2_with (first
   |(go_at_call 91; refine (HO.out _ HT1.out).mono ?_; rintro e w2 ⟨rfl,ht2⟩; have HT2:=hid (HT1.out.trans ht2 (by simp)); clear ht2)
   |(go_at_call 11; refine (HF.out _ HT0.out).mono ?_; rintro e w1 ⟨rfl,ht1⟩; have HT1:=hid (HT0.out.trans ht1 (by simp)); clear ht1))
  go_ret
  exact ⟨by rw [HR.out]; rfl,HT2.out⟩
end
end Go.Proofs.YthehcjjckabljaaGreatDoor
