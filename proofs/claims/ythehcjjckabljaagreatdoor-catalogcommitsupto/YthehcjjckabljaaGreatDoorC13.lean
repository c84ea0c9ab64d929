import Derived.Shelf.SlicesQ.Reverse
import Derived.Test.YthehcjjckabljaaGreatDoorC12
namespace Go.Proofs.YthehcjjckabljaaGreatDoor
open Go.RowKit Go.Deep
set_option linter.unusedSimpArgs false
set_option linter.unusedVariables false
section
variable {w w':World} {b:Bn} {n:Nat} {A:PubA} {s:Pu.St} {F:List Nat} {kb wb g:Nat} {K:Nat} {T:Int} {x:ByteArray}
set_option maxRecDepth 100000 in
set_option maxHeartbeats 8000000 in
theorem Put_full {kind blocks m count r0 r1 r2 r3:Nat} {ws rest:List Nat} (S:Std w b n A s F) (hn:n < 1099511627776) (hA:Fits A K) (hkF:kb ∉ F) (hwF:wb ∉ F) (hgF:g ∉ F) (hlo:b.lo ≤ wb) (hglo:b.lo ≤ g) (hk1:1 ≤ kind) (hk2:kind ≤ 5) (hbl:blocks < 1099511627776) (hsm:∀ y ∈ ws,y < 18446744073709551616) (hrr:r0 < 18446744073709551616 ∧ r1 < 18446744073709551616 ∧ r2 < 18446744073709551616 ∧ r3 < 18446744073709551616) (ha:(appendB x (encU kind blocks (ws ++ [r0,r1,r2,r3]) A.B) (b.tr A) A).1 = 0) (hk:DkA w kb b K T) (hrow:w.heap[wb]? = some (.cells (wrow kb x kind g m K 0 blocks count) 226 (0,0))) (hne:wb ≠ kb)
  (hws:Rx.WRow w g (ws ++ rest)) (hgw:g ≠ wb) (hkg:kb ≠ g) (hl:ws.length = 4 * m) (hr:rest.length + 4 * m = 4 * K) (hm:m + 1 = K) (hc:count < 1099511627776) :
  Calls Tryz.prog 101 #[ptr wb,recV r0 r1 r2 r3] w fun e w'=>e = .returned (.int .i64 0) ∧ Went w w' b (n + 1) (appendB x (encU kind blocks (ws ++ [r0,r1,r2,r3]) A.B) (b.tr A) A).2 s F [wb,g] ∧ w'.heap[wb]? = some (.cells (wrow kb x kind g 0 K 0 (blocks + 1) ((count + 1:Nat):Int)) 226 (0,0)) ∧ ∃ l,Rx.WRow w' g l ∧ l.length = 4 * K:=by
 obtain ⟨W,hW⟩:∃ W,W = w.alloc (.cells #[.int .u64 (r0:Int),.int .u64 (r1:Int),.int .u64 (r2:Int),.int .u64 (r3:Int)] 176):=⟨_,rfl⟩
 have t0:Tc [] w W:=by rw [hW]; exact (Tc.refl [] w).alloc _
 have hb:W.heap[w.heap.size]? = some (.cells #[.int .u64 (r0:Int),.int .u64 (r1:Int),.int .u64 (r2:Int),.int .u64 (r3:Int)] 176):=by rw [hW]; exact heap_alloc_new w _
 have hrowW:=(t0.block wb (ltB hrow) (by simp)).trans hrow
 have hwsW:Rx.WRow W g (ws ++ rest):=(t0.block g (ltB hws) (by simp)).trans hws
 have hkW:=hk.touch t0 (by simp)
 have HH:HeldAt W wb kb x (kind:Int) (.slice (some ⟨g,0,none⟩) m K) 0 false:=⟨_,_,hrowW,rfl,rfl,rfl,rfl,rfl,rfl⟩
 have HRf:=hid (refusal_any HH)
 simp only [Bool.false_eq_true,if_false] at HRf
 have c:=fun i=>cRw hrowW i
 have c3:=c 3
 have c7:=c 7
 have c0:=c 0
 simp only [List.getElem?_toArray,List.getElem?_cons_zero,List.getElem?_cons_succ] at c0 c3 c7
 have u:=fun i=>uRw hrowW i
 have q:=fun i=>cRw hb i
 have k2:=cRw hkW 2
 simp at k2
 have HT0:=hid t0
 have HK2:=hid k2
 have HKG:Hid (kb ≠ g):=hkg
 have HE:=hid hW
 have HRW:=hid hrowW
 have HWS:=hid hwsW
 have hlw:=ltB hrowW
 have hlg:=ltB hwsW
 have hlk:=ltB hkW
 have hlb:=ltB hb
 have HL:=hid hl
 have HR:=hid hr
 have hwr:IntKind.i64.wrap ((count:Int) + 1) = ((count + 1:Nat):Int):=by rw [IntKind.wrap_i64]; omega
 have HFL:Hid (∀ W',Tc [wb,g] w W' → W'.heap[wb]? = some (.cells (wrow kb x kind g (m + 1) K 0 blocks count) 226 (0,0)) → Rx.WRow W' g ((ws ++ [r0,r1,r2,r3]) ++ rest.drop 4) → Calls Tryz.prog 149 #[ptr wb] W' fun e w'=>e = .returned (.int .i64 0) ∧ Went W' w' b (n + 1) (appendB x (encU kind blocks (ws ++ [r0,r1,r2,r3]) A.B) (b.tr A) A).2 s F [wb] ∧ w'.heap[wb]? = some (.cells (wrow kb x kind g 0 K 0 (blocks + 1) count) 226 (0,0))):=fun W' t hr' hw'=>by
  have hS':Std W' b n A s F:=S.touch t (fun y hy=>by simp at hy; rcases hy with rfl | rfl; exact ⟨hwF,hlo⟩; exact ⟨hgF,hglo⟩)
  have hk':DkA W' kb b K T:=hk.touch t (by simp; exact ⟨fun e=>hne e.symm,hkg⟩)
  have hwd:Rx.Wd W' g 0 (ws ++ [r0,r1,r2,r3]):=fun i hi=>by
   have:=hw'.wd i (by rw [List.length_append]; omega)
   rw [List.getElem_append_left hi] at this
   exact this
  have:=flush_any hS' hn hA hk' hkF hr' hwF hlo hne hwd (ltB hw') hgF hgw (by simp; omega) (by omega) (by omega) (fun y hy=>by
   rcases List.mem_append.1 hy with h | h
   ·exact hsm y h
   ·simp at h; rcases h with rfl | rfl | rfl | rfl; exact hrr.1; exact hrr.2.1; exact hrr.2.2.1; exact hrr.2.2.2) hk1 hk2 hbl
  rw [ha,if_pos rfl] at this
  exact this
 generalize (appendB x (encU kind blocks (ws ++ [r0,r1,r2,r3]) A.B) (b.tr A) A).2 = A1 at HFL ⊢
 have HSS:=hid S
 have HWG:=hid (And.intro hwF hgF)
 have HLO:=hid hlo
 have HLW:=hid (ltB hrow)
 have HLG:=hid (ltB hws)
 have HM:=hid hm
 have hKm:m + 1 ≤ K:=by omega
 clear hm
 clear S hA ha hrr hsm hbl hk1 hk2 hglo hlo hwF hgF hkF
 clear hk hrow hws t0 hb hrowW hwsW hkW HH c hl hr hW
 go_enter Tryz.func101,Tryz.ntmps101
 go_wp2_with fail
 rw [← HE.out]
 go_wp2_with (go_at_call 148; refine HRf.out.mono ?_; rintro e w1 ⟨rfl,hh⟩; have hh:=hh.symm; subst hh)
 obtain ⟨i0,hi0,hz0⟩:=Option.map_eq_some_iff.1 Rx.Tryz.info176
 have hz1:i0.size = 4:=(congrArg (fun t=>t.2.1) hz0:_)
 obtain ⟨WA,hWA⟩:∃ WA,WA = (W.alloc (.cells #[.int .u64 (r0:Int),.int .u64 (r1:Int),.int .u64 (r2:Int),.int .u64 (r3:Int)] 176)).drew:=⟨_,rfl⟩
 have tA:Tc [] W WA:=by rw [hWA]; exact ((Tc.refl [] W).alloc _).drew
 have hbA:WA.heap[W.heap.size]? = some (.cells #[.int .u64 (r0:Int),.int .u64 (r1:Int),.int .u64 (r2:Int),.int .u64 (r3:Int)] 176):=by rw [hWA]; exact heap_alloc_new W _
 have hwsA:Rx.WRow WA g (ws ++ rest):=(tA.block g hlg (by simp)).trans HWS.out
 have s1:Hid (∀ (j:Nat) (u:Value),(recL r0 r1 r2 r3)[j]? = some u → WA.cell? ((⟨W.heap.size,0,none⟩:Addr).add j) = some u):=fun j u hj=>by
  have e:(⟨W.heap.size,0,none⟩:Addr).add j = ⟨W.heap.size,j,none⟩:=by unfold Addr.add; split <;> simp_all
  rw [e,cRw hbA j]
  simpa using hj
 have s3:Hid (∀ j:Nat,j < (recL r0 r1 r2 r3).length → (WA.cell? ⟨g,0 + m * 4 + j,none⟩).isSome = true ∧ WA.frozen? ⟨g,0 + m * 4 + j,none⟩ = false):=fun j hj=>by
  refine ⟨?_,uRw hwsA _⟩
  rw [cRw hwsA,Rx.wc_get]
  have h4:0 + m * 4 + j < (ws ++ rest).length:=by rw [List.length_append,HL.out]; have:=HR.out; simp at hj; omega
  rw [List.getElem?_eq_getElem h4]
  rfl
 have s2:Hid (∀ u ∈ recL r0 r1 r2 r3,u.oneCell' = true):=fun u hu=>by
  simp only [recL,List.mem_cons,List.not_mem_nil,or_false] at hu
  rcases hu with rfl | rfl | rfl | rfl <;> rfl
 have tC:Tc [g] W (WA.setCells g (m * 4) (recL r0 r1 r2 r3)):=Tc.trans (F:=[g]) (G:=[g]) (tA.mono (by simp)) (touch_cells (by simp) r0 r1 r2 r3) (fun y hy=>.inl hy)
 have hrowC:(WA.setCells g (m * 4) (recL r0 r1 r2 r3)).heap[wb]? = some (.cells (wrow kb x kind g m K 0 blocks count) 226 (0,0)):=(tC.block wb hlw (by simpa using fun e=>hgw e.symm)).trans HRW.out
 have e3:(WA.setCells g (m * 4) (recL r0 r1 r2 r3)).cell? ⟨wb,3,none⟩ = some (.slice (some ⟨g,0,none⟩) m K):=by rw [cRw hrowC 3]; rfl
 have v3:(WA.setCells g (m * 4) (recL r0 r1 r2 r3)).frozen? ⟨wb,3,none⟩ = false:=uRw hrowC 3
 have HWA:=hid hWA
 have HRC:=hid hrowC
 have HTC:=hid tC
 have HSA:=hid hwsA
 rw [hWA] at e3 v3
 clear hWA tA hbA hrowC tC hwsA
 obtain ⟨WD,hWD⟩:∃ WD,WD = (WA.setCells g (m * 4) (recL r0 r1 r2 r3)).setCell ⟨wb,3,none⟩ (.slice (some ⟨g,0,none⟩) (m + 1) K):=⟨_,rfl⟩
 have hrowD:WD.heap[wb]? = some (.cells (wrow kb x kind g (m + 1) K 0 blocks count) 226 (0,0)):=by rw [hWD]; exact (sRw HRC.out 3 _).trans (by simp)
 have tD:Tc [wb,g] W WD:=by rw [hWD]; exact (HTC.out.mono (by simp)).setCell (by simp) _
 have k2D:WD.cell? ⟨kb,2,none⟩ = some (.int .i64 (K:Int)):=(tD.cell (p:=⟨kb,2,none⟩) hlk (by simp; exact ⟨fun e=>hne e.symm,HKG.out⟩)).trans HK2.out
 have hlsD:Rx.WRow WD g ((ws ++ [r0,r1,r2,r3]) ++ rest.drop 4):=by
  have h1:=put4 (o:=m * 4) HSA.out r0 r1 r2 r3
  rw [set4 HL.out (by have:=HR.out; omega)] at h1
  rw [hWD]
  exact (Below.heap_setCell _ _ _ g hgw).trans h1
 have HRD:=hid hrowD
 have HTD:=hid tD
 have HKD:=hid k2D
 have HLD:=hid hlsD
 have HWD:=hid hWD
 clear hrowD tD k2D hlsD hWD
 go_cut [] (fun wx=>wx = WD)
 case first =>
  go_region_law (first
   |(refine step_append_room rfl (.tmp 26) (.tmp 28) 130 rfl 176 i0 4 Tryz.underlying130 hi0 hz1 g 0 m K rfl ⟨W.heap.size,0,none⟩ 1 1 (recL r0 r1 r2 r3) rfl rfl (by first | (rw [← HWA.out]; exact s1.out) | (intro j u hj; have:=s1.out j u hj; rw [HWA.out] at this; exact this)) s2.out (by omega) (by first | (rw [← HWA.out]; exact s3.out) | (intro j hj; have:=s3.out j hj; rw [HWA.out] at this; exact this)) ?_)
   | go_simp)
  all_goals
   go_wp2_with fail
   go_meet
   rw [HWD.out,HWA.out]
 case rest =>
  have hcut:=hcut.symm
  subst hcut
  clear e3 v3 c0 c3 c7 u k2 q s1 s2 s3
  have d:=fun i=>cRw HRD.out i
  have d0:=d 0
  have d3:=d 3
  have d7:=d 7
  simp only [List.getElem?_toArray,List.getElem?_cons_zero,List.getElem?_cons_succ] at d0 d3 d7
  have u:=fun i=>uRw HRD.out i
  have k2:=HKD.out
  have hdec:(m:Int) + 1 = (K:Int):=by have:=HM.out; omega
  clear d
  have HT1:Hid (∀ nq,Tc [wb,g] w (WD.drewN nq)):=fun nq=>((HT0.out.mono (by simp)).trans HTD.out (fun y hy=>.inl hy)).drewN _
  have HFL2:=hid (fun nq=>HFL.out (WD.drewN nq) (HT1.out nq) HRD.out HLD.out)
  go_wp2
  go_quiet (fail)
  go_wp2_with (go_at_call 149; refine (HFL2.out _).mono ?_; rintro e w5 ⟨rfl,hg5,hr5⟩; have c7:=(cRw hr5 7); simp only [List.getElem?_toArray,List.getElem?_cons_zero,List.getElem?_cons_succ] at c7; have u7:=uRw hr5 7; have HG5:=hid hg5; have HR5:=hid hr5; clear hg5 hr5)
  go_ret
  have hw1:Went w w5 b (n + 1) A1 s F [wb,g]:=Went.then (F1:=F) ((HT1.out nq).mono (by simp)) (fun y hy=>.inl hy) HG5.out (by simp)
  refine ⟨rfl,hw1.own (B:=[wb]) ((Tc.refl [wb] w5).setCell (by simp) _) (fun y hy=>by simp at hy; subst hy; exact ⟨by simp,HWG.out.1,HLW.out,HLO.out⟩) (by simp),(sRw HR5.out 7 _).trans (by simp),(ws ++ [r0,r1,r2,r3]) ++ rest.drop 4,?_,?_⟩
  ·obtain ⟨_,_,t5,_⟩:=HG5.out
   refine (Below.heap_setCell _ _ _ g hgw).trans ((t5.block g (ltB HLD.out) (by simp; exact ⟨hgw,HWG.out.2⟩)).trans HLD.out)
  ·have h1:=HL.out
   have h2:=HR.out
   have h3:=HM.out
   simp
   omega
end
section
variable {w w':World} {b:Bn} {n:Nat} {A:PubA} {s:Pu.St} {F:List Nat} {kb wb g:Nat} {K:Nat} {T:Int} {x:ByteArray}
theorem Freed.went {w1 w2:World} {A1:PubA} {F1:List Nat} {n1:Nat} {G:List Nat} {k:Int} (t1:Tc (G ++ F) w w1) (f1:∀ y ∈ F1,y ∈ F ∨ w.heap.size ≤ y) (h:Freed w1 w2 b n1 A1 s F1 wb k) (hG:wb ∈ G):Went w w2 b n1 A1 (s.give k) F G:=
 Went.then t1 f1 h.2 (fun y hy=>by simp at hy; subst hy; exact .inl hG)
set_option maxRecDepth 100000 in
set_option maxHeartbeats 4000000 in
theorem Close_empty (S:Std w b n A s F) (hn:n + 1 < 1099511627776) (hk:DkA w kb b K T) (hkF:kb ∉ F) {kind blocks:Nat} {count:Int} (hrow:w.heap[wb]? = some (.cells (wrow kb x kind g 0 K 0 blocks count) 226 (0,0))) (hwF:wb ∉ F) (hlo:b.lo ≤ wb) (hne:wb ≠ kb) :
  Calls Tryz.prog 102 #[ptr wb] w fun e w'=>e = .returned (.int .i64 (sealB x (b.tr A) A).1) ∧ Went w w' b (n + 1) (sealB x (b.tr A) A).2 (s.give K) F [wb]:=by
 have lw:=ltB hrow
 have lk:=ltB hk
 have HSE:Hid (∀ W F1,Std W b n A s F1 → Calls Tryz.prog 18 #[ptr b.p,.string x] W fun e w'=>e = .returned (.int .i64 (sealB x (b.tr A) A).1) ∧ Went W w' b (n + 1) (sealB x (b.tr A) A).2 s F1 []):=fun W F1 S1=>seal_s S1 (by omega) x
 generalize (sealB x (b.tr A) A).1 = r2 at HSE ⊢
 generalize (sealB x (b.tr A) A).2 = A2 at HSE ⊢
 have HRL:Hid (∀ W F1 c t,Std W b (n + 1) A2 s F1 → DkA W kb b K T → kb ∉ F1 → wb ∉ F1 → W.heap[wb]? = some (.cells (wrow kb x kind g c K 0 t count) 226 (0,0)) → CallsD Tryz.prog 146 #[ptr wb] .returning W fun e u' w'=>u' = .returning ∧ (e = .returned (.tuple #[]) ∧ Freed W w' b (n + 1) A2 s F1 wb K)):=fun W F1 c t S1 h1 h2 h3 h4=>release_d S1 h1 h2 (x:=x) (kind:=(kind:Int)) (lv:=.slice (some ⟨g,0,none⟩) c K) (dead:=0) (cl:=false) ⟨_,_,h4,rfl,rfl,rfl,rfl,rfl,rfl⟩ h3 hlo hne .returning
 have HS:=hid S
 have HR:=hid hrow
 have HK:=hid hk
 have HF:=hid (And.intro hwF (And.intro hkF (And.intro hlo hne)))
 have c:=fun i=>cRw hrow i
 have k0:=cRw hk 0
 simp at k0
 have c0:=c 0
 have c1:=c 1
 have c3:=c 3
 have c4:=c 4
 have c5:=c 5
 simp only [List.getElem?_toArray,List.getElem?_cons_zero,List.getElem?_cons_succ] at c0 c1 c3 c4 c5
 clear S hrow hk hwF hkF hlo hne c
 go_enter_defers Tryz.func102,Tryz.ntmps102
 go_wp2_with fail
 obtain ⟨w1,hw1⟩:∃ w1,w1 = w:=⟨_,rfl⟩
 rw [← hw1] at c0 c1 k0 lw lk ⊢
 have lw1:=lw
 have lk1:=lk
 have nw1:=HF.out.1
 have nk1:=HF.out.2.1
 have HS1:Hid (Std w1 b n A s F):=by rw [hw1]; exact HS.out
 have HT1:Hid (Tc ([wb] ++ F) w w1):=by rw [hw1]; exact Tc.refl _ _
 have HF1:Hid (∀ y ∈ F,y ∈ F ∨ w.heap.size ≤ y):=fun y hy=>.inl hy
 have HR1:Hid (w1.heap[wb]? = some (.cells (wrow kb x kind g 0 K 0 blocks count) 226 (0,0))):=by rw [hw1]; exact HR.out
 have HK1:Hid (DkA w1 kb b K T):=by rw [hw1]; exact HK.out
 clear hw1 c3 c4 c5
 go_region_held3 (fun W=>W.cell? ⟨wb,0,none⟩ = some (ptr kb) ∧ W.cell? ⟨wb,1,none⟩ = some (.string x) ∧ W.cell? ⟨kb,0,none⟩ = some (ptr b.p)) (go_keep)
  (first | (go_at_call 18; refine (HSE.out _ F (HS1.out.quiet ((Tc.refl [] w1).drew))).mono ?_; rintro e w2 ⟨rfl,hg2⟩; obtain ⟨F2,S2,t2,f2⟩:=hg2; have z2:w2.cell? ⟨wb,0,none⟩ = some (ptr kb) ∧ w2.cell? ⟨wb,1,none⟩ = some (.string x) ∧ w2.cell? ⟨kb,0,none⟩ = some (ptr b.p):=⟨(t2.cell (p:=⟨wb,0,none⟩) lw1 (by simpa using nw1)).trans c0,(t2.cell (p:=⟨wb,1,none⟩) lw1 (by simpa using nw1)).trans c1,(t2.cell (p:=⟨kb,0,none⟩) lk1 (by simpa using nk1)).trans k0⟩; have HS2:=hid S2; have HT2:=hid t2; have HF2:=hid f2; clear S2 t2 f2))
 go_wp2
 refine leaves_cons (f:=146) (args:=#[ptr wb]) (by simp) (by simp [go_sem]) ?_
 have nw2:wb ∉ F2:=fun hx=>by
  rcases HF2.out _ hx with h | h
  ·exact nw1 h
  ·have h:w1.heap.size ≤ wb:=h
   omega
 have nk2:kb ∉ F2:=fun hx=>by
  rcases HF2.out _ hx with h | h
  ·exact nk1 h
  ·have h:w1.heap.size ≤ kb:=h
   omega
 have r2':=(HT2.out.block wb lw1 (by simpa using nw1)).trans HR1.out
 have t12:Tc ([wb] ++ F) w w2:=HT1.out.drew.trans HT2.out (fun y hy=>by
  rcases HF1.out y (by simpa using hy) with h | h
  ·exact .inl (by simp [h])
  ·exact .inr h)
 have f12:∀ y ∈ F2,y ∈ F ∨ w.heap.size ≤ y:=fun y hy=>by
  rcases HF2.out y hy with h | h
  ·exact HF1.out y h
  ·exact .inr (Nat.le_trans HT1.out.size h)
 refine (HRL.out w2 F2 0 blocks HS2.out ((show DkA w1.drew kb b K T from HK1.out).touch HT2.out (by simpa using nk1)) nk2 nw2 r2').mono ?_
 rintro e u' w4 ⟨rfl,rfl,hfr⟩
 refine ⟨_,results_tmp rfl _ _ _,?_⟩
 exact ⟨rfl,Freed.went t12 f12 hfr (by simp)⟩
set_option maxRecDepth 100000 in
set_option maxHeartbeats 4000000 in
theorem Close_rest (S:Std w b n A s F) (hn:n + 1 < 1099511627776) (hk:DkA w kb b K T) (hkF:kb ∉ F) {kind blocks m:Nat} {count:Int} (hrow:w.heap[wb]? = some (.cells (wrow kb x kind g m K 0 blocks count) 226 (0,0))) (hwF:wb ∉ F) (hlo:b.lo ≤ wb) (hne:wb ≠ kb) (hA:Fits A K) {ws:List Nat} (hws:Rx.Wd w g 0 ws) (hg:g < w.heap.size) (hgF:g ∉ F) (hgw:g ≠ wb) (hl:ws.length = 4 * m) (hm1:1 ≤ m) (hm2:m ≤ K) (hsm:∀ y ∈ ws,y < 18446744073709551616) (hk1:1 ≤ kind) (hk2:kind ≤ 5) (hbl:blocks < 1099511627776) (ha:(appendB x (encU kind blocks ws A.B) (b.tr A) A).1 = 0) :
  Calls Tryz.prog 102 #[ptr wb] w fun e w'=>e = .returned (.int .i64 (sealB x (b.tr (appendB x (encU kind blocks ws A.B) (b.tr A) A).2) (appendB x (encU kind blocks ws A.B) (b.tr A) A).2).1) ∧ Went w w' b ((n + 1) + 1) (sealB x (b.tr (appendB x (encU kind blocks ws A.B) (b.tr A) A).2) (appendB x (encU kind blocks ws A.B) (b.tr A) A).2).2 (s.give K) F [wb]:=by
 have lw:=ltB hrow
 have lk:=ltB hk
 have HFL:=hid (flush_any S (by omega) hA hk hkF hrow hwF hlo hne hws hg hgF hgw hl hm1 hm2 hsm hk1 hk2 hbl)
 rw [ha,if_pos rfl] at HFL
 generalize (appendB x (encU kind blocks ws A.B) (b.tr A) A).2 = A1 at HFL ⊢
 have hgt:((m:Nat):Int) > 0:=by omega
 have HSE:Hid (∀ W F1,Std W b (n + 1) A1 s F1 → Calls Tryz.prog 18 #[ptr b.p,.string x] W fun e w'=>e = .returned (.int .i64 (sealB x (b.tr A1) A1).1) ∧ Went W w' b ((n + 1) + 1) (sealB x (b.tr A1) A1).2 s F1 []):=fun W F1 S1=>seal_s S1 (by omega) x
 generalize (sealB x (b.tr A1) A1).1 = r2 at HSE ⊢
 generalize (sealB x (b.tr A1) A1).2 = A2 at HSE ⊢
 have HRL:Hid (∀ W F1 c t,Std W b ((n + 1) + 1) A2 s F1 → DkA W kb b K T → kb ∉ F1 → wb ∉ F1 → W.heap[wb]? = some (.cells (wrow kb x kind g c K 0 t count) 226 (0,0)) → CallsD Tryz.prog 146 #[ptr wb] .returning W fun e u' w'=>u' = .returning ∧ (e = .returned (.tuple #[]) ∧ Freed W w' b ((n + 1) + 1) A2 s F1 wb K)):=fun W F1 c t S1 h1 h2 h3 h4=>release_d S1 h1 h2 (x:=x) (kind:=(kind:Int)) (lv:=.slice (some ⟨g,0,none⟩) c K) (dead:=0) (cl:=false) ⟨_,_,h4,rfl,rfl,rfl,rfl,rfl,rfl⟩ h3 hlo hne .returning
 have HS:=hid S
 have HR:=hid hrow
 have HK:=hid hk
 have HF:=hid (And.intro hwF (And.intro hkF (And.intro hlo hne)))
 have c:=fun i=>cRw hrow i
 have k0:=cRw hk 0
 simp at k0
 have c0:=c 0
 have c1:=c 1
 have c3:=c 3
 have c4:=c 4
 have c5:=c 5
 simp only [List.getElem?_toArray,List.getElem?_cons_zero,List.getElem?_cons_succ] at c0 c1 c3 c4 c5
 clear S hrow hk hwF hkF hlo hne c
 clear hA hws hgF hgw hl hm1 hm2 hsm hk1 hk2 ha
 go_enter_defers Tryz.func102,Tryz.ntmps102
 go_wp2_with (go_at_call 149; refine HFL.out.mono ?_; rintro e w1 ⟨rfl,hg1,hr1⟩; obtain ⟨F1,S1,t1,f1⟩:=hg1; have d0:=cRw hr1 0; have d1:=cRw hr1 1; simp only [List.getElem?_toArray,List.getElem?_cons_zero,List.getElem?_cons_succ] at d0 d1; have dk:w1.cell? ⟨kb,0,none⟩ = some (ptr b.p):=(t1.cell (p:=⟨kb,0,none⟩) lk (by simp; exact ⟨fun e=>HF.out.2.2.2 e.symm,HF.out.2.1⟩)).trans k0; have HS1:=hid S1; have HT1:=hid t1; have HF1:=hid f1; have HR1:=hid hr1; clear S1 t1 f1 hr1 c0 c1 c3 c4 c5 k0)
 have lw1:wb < w1.heap.size:=Nat.lt_of_lt_of_le lw HT1.out.size
 have lk1:kb < w1.heap.size:=Nat.lt_of_lt_of_le lk HT1.out.size
 have nw1:wb ∉ F1:=fun hx=>by
  rcases HF1.out _ hx with h | h
  ·exact HF.out.1 h
  ·omega
 have nk1:kb ∉ F1:=fun hx=>by
  rcases HF1.out _ hx with h | h
  ·exact HF.out.2.1 h
  ·omega
 have HK1:Hid (DkA w1 kb b K T):=HK.out.touch HT1.out (by simp; exact ⟨fun e=>HF.out.2.2.2 e.symm,HF.out.2.1⟩)
 go_region_held3 (fun W=>W.cell? ⟨wb,0,none⟩ = some (ptr kb) ∧ W.cell? ⟨wb,1,none⟩ = some (.string x) ∧ W.cell? ⟨kb,0,none⟩ = some (ptr b.p)) (go_keep)
  (first | (go_at_call 18; refine (HSE.out _ F1 (HS1.out.quiet ((Tc.refl [] w1).drew))).mono ?_; rintro e w2 ⟨rfl,hg2⟩; obtain ⟨F2,S2,t2,f2⟩:=hg2; have z2:w2.cell? ⟨wb,0,none⟩ = some (ptr kb) ∧ w2.cell? ⟨wb,1,none⟩ = some (.string x) ∧ w2.cell? ⟨kb,0,none⟩ = some (ptr b.p):=⟨(t2.cell (p:=⟨wb,0,none⟩) lw1 (by simpa using nw1)).trans d0,(t2.cell (p:=⟨wb,1,none⟩) lw1 (by simpa using nw1)).trans d1,(t2.cell (p:=⟨kb,0,none⟩) lk1 (by simpa using nk1)).trans dk⟩; have HS2:=hid S2; have HT2:=hid t2; have HF2:=hid f2; clear S2 t2 f2))
 go_wp2
 refine leaves_cons (f:=146) (args:=#[ptr wb]) (by simp) (by simp [go_sem]) ?_
 have nw2:wb ∉ F2:=fun hx=>by
  rcases HF2.out _ hx with h | h
  ·exact nw1 h
  ·have h:w1.heap.size ≤ wb:=h
   omega
 have nk2:kb ∉ F2:=fun hx=>by
  rcases HF2.out _ hx with h | h
  ·exact nk1 h
  ·have h:w1.heap.size ≤ kb:=h
   omega
 have r2':=(HT2.out.block wb lw1 (by simpa using nw1)).trans HR1.out
 have t12:Tc ([wb] ++ F) w w2:=HT1.out.drew.trans HT2.out (fun y hy=>by
  rcases HF1.out y (by simpa using hy) with h | h
  ·exact .inl (by simp [h])
  ·exact .inr h)
 have f12:∀ y ∈ F2,y ∈ F ∨ w.heap.size ≤ y:=fun y hy=>by
  rcases HF2.out y hy with h | h
  ·exact HF1.out y h
  ·exact .inr (Nat.le_trans HT1.out.size h)
 refine (HRL.out w2 F2 0 (blocks + 1) HS2.out ((show DkA w1.drew kb b K T from HK1.out).touch HT2.out (by simpa using nk1)) nk2 nw2 r2').mono ?_
 rintro e u' w4 ⟨rfl,rfl,hfr⟩
 refine ⟨_,results_tmp rfl _ _ _,?_⟩
 exact ⟨rfl,Freed.went t12 f12 hfr (by simp)⟩
end
section
variable {w w':World} {b:Bn} {n:Nat} {A:PubA} {s:Pu.St} {F:List Nat} {kb:Nat} {K:Nat} {T:Int}
set_option maxRecDepth 100000 in
set_option maxHeartbeats 1000000 in
theorem reader_ok (S:Std w b n A s F) (hn:n < 1099511627776) (hk:DkA w kb b K T) (hkF:kb ∉ F) (x:ByteArray) (kind:Int) (bk:Bool) (he:holdE A s K kind [x] [] = 0) :
  Calls Tryz.prog 197 #[ptr kb,.string x,.int .i64 kind,.bool bk] w fun e w'=>∃ rb,e = .returned (.tuple #[ptr rb,.int .i64 0]) ∧ WentN w w' b n A (s.take K) F [] [rb] ∧ w'.heap[rb]? = some (.cells #[ptr kb,.string x,.int .i64 kind,.slice none 0 0,.int .i64 0,.bool false,.bool bk,.int .i64 (lnB x A).1,.int .i64 0] 289 (0,0)):=by
 obtain ⟨W0,hW0⟩:∃ W0,W0 = w.alloc (.cells #[.string x] 9):=⟨_,rfl⟩
 have t0:Tc [] w W0:=by rw [hW0]; exact (Tc.refl [] w).alloc _
 have hs:StrsAt W0 (some ⟨w.heap.size,0,none⟩) [x]:=⟨fun k hk=>by
  have:k = 0:=by simpa using hk
  subst this
  refine ⟨_,rfl,by rw [hW0]; simp,?_⟩
  rw [hW0]
  exact cRw (heap_alloc_new w (.cells #[.string x] 9)) 0⟩
 have H:=hid (hold_any (S.quiet t0) hn (hk.touch t0 (by simp)) hkF hs (StrsAt.nil W0 none) (by simp) (by simp) (ci:=1) (co:=0) x kind)
 rw [he] at H
 unfold held0 heldV at H
 have HC:Hid (∀ W F1,Std W b n A (s.take K) F1 → Calls Tryz.prog 107 #[ptr b.p,.string x] W fun e w'=>e = .returned (.tuple #[.int .i64 (lnB x A).1,.bool (lnB x A).2.1,.int .i64 (lnB x A).2.2]) ∧ Tc [] W w'):=fun W F1 S1=>length_s S1 hn x
 have HK:Hid (∀ W,Tc F w W → W.cell? ⟨kb,0,none⟩ = some (ptr b.p) ∧ W.cell? ⟨kb,2,none⟩ = some (.int .i64 K)):=fun W t=>⟨by rw [cRw (hk.touch t hkF) 0]; rfl,by rw [cRw (hk.touch t hkF) 2]; rfl⟩
 generalize (lnB x A).1 = l1 at HC ⊢
 generalize (lnB x A).2.1 = l2 at HC
 generalize (lnB x A).2.2 = l3 at HC
 have HT:=hid t0
 have HE:=hid hW0
 have HS:=hid S
 have HKL:=hid (ltB hk)
 clear S hk t0 hs hW0 he
 go_enter Tryz.func197,Tryz.ntmps197
 go_wp2_with fail
 rw [← HE.out]
 go_wp2_with (first
  |(go_at_call 145; refine H.out.mono ?_; rintro e w1 (⟨h0,_⟩ | ⟨_,_,rfl,hg⟩); exact absurd rfl h0; obtain ⟨F1,S1,g1,f1⟩:=hg; have tF:=(HT.out.mono (F:=[]) (G:=F) (by simp)).trans g1 (fun y hy=>.inl (by simpa using hy)); have hck:=(fun o:Obj=>HK.out (w1.alloc o) (tF.alloc o)); have hc0:=(fun o:Obj=>(hck o).1); have HS1:=hid S1; have HG1:=hid g1; have HF1:=hid f1; have HTF:=hid tF; clear S1 g1 f1 tF hck)
  |(go_at_call 107; refine (HC.out _ F1 (HS1.out.quiet ((Tc.refl [] w1).alloc _))).mono ?_; rintro e w3 ⟨rfl,t3⟩; have hb3:=(t3.block w1.heap.size (by simp) (by simp)).trans (heap_alloc_new w1 _); have HB3:=hid hb3; have c3:=(fun i=>cRw hb3 i); have HT3:=hid t3; have l3':=ltB hb3; clear t3 hb3))
 go_ret2
 have tt:Tc [] w1 w3:=((Tc.refl [] w1).alloc _).trans HT3.out (by simp)
 have hw1:=HTF.out.size
 have hw3:=tt.size
 refine ⟨w3.heap.size,rfl,⟨F1,(HS1.out.quiet tt).quiet ((Tc.refl [] w3).alloc _),((HTF.out.trans tt (by simp)).alloc _).mono (by simp),fun y hy=>?_,fun y hy=>?_⟩,heap_alloc_new w3 _⟩
 ·rcases HF1.out y hy with h | h
  ·exact .inl h
  ·exact .inr (Nat.le_trans HT.out.size h)
 ·simp only [List.mem_cons,List.not_mem_nil,or_false] at hy
  subst hy
  refine ⟨fun hx=>?_,by omega,by simp⟩
  have:=(HS1.out.quiet tt).lt _ hx
  omega
set_option maxRecDepth 100000 in
theorem TRead_ok (S:Std w b n A s F) (hn:n < 1099511627776) (hk:DkA w kb b K T) (hkF:kb ∉ F) (x:ByteArray) (kind:Int) (he:holdE A s K kind [x] [] = 0) :
  Calls Tryz.prog 155 #[ptr kb,.string x,.int .i64 kind] w fun e w'=>∃ rb,e = .returned (.tuple #[ptr rb,.int .i64 0]) ∧ WentN w w' b n A (s.take K) F [] [rb] ∧ w'.heap[rb]? = some (.cells #[ptr kb,.string x,.int .i64 kind,.slice none 0 0,.int .i64 0,.bool false,.bool false,.int .i64 (lnB x A).1,.int .i64 0] 289 (0,0)):=by
 have H:=hid (reader_ok S hn hk hkF x kind false he)
 clear S hk hkF he
 go_enter Tryz.func155,Tryz.ntmps155
 go_wp2_with (go_at_call 197; refine H.out.mono ?_; rintro e w1 ⟨rb,rfl,hg,hr⟩)
 go_ret2
 exact ⟨rb,rfl,hg,hr⟩
end
def numsU (bl:List UInt8):List Nat:=bl.map UInt8.toNat
theorem numsU_length (bl:List UInt8):(numsU bl).length = bl.length:=by simp [numsU]
theorem numsU_lt (bl:List UInt8):∀ y ∈ numsU bl,y < 256:=by
 intro y hy
 unfold numsU at hy
 obtain ⟨c,_,rfl⟩:=List.mem_map.1 hy
 exact c.toNat_lt
theorem nums_bytes {l:List Nat} (h:∀ y ∈ l,y < 256):numsU (bytesU l) = l:=by
 unfold numsU bytesU
 rw [List.map_map]
 conv=>rhs; rw [← List.map_id l]
 refine List.map_congr_left fun y hy=>?_
 have:=h y hy
 simp
 omega
theorem bytes_rd {w:World} {g:Nat} {bl:List UInt8} (h:BytesAt w g bl):Rx.Rd w g 0 (numsU bl):=fun i hi=>by
 have h1:=cRw h i
 rw [Nat.zero_add,h1]
 have hl:i < bl.length:=by simpa [numsU] using hi
 simp [Lib.byteCells,numsU,hl]
section
variable {w w':World} {b:Bn} {n:Nat} {A:PubA} {s:Pu.St} {F:List Nat} {kb g:Nat} {K:Nat} {T:Int} {x:ByteArray}
theorem Std.blocks (S:Std w b n A s F):∀ e ∈ A.files,∀ bl ∈ e.2.blocks,bl.length = A.B:=by
 obtain ⟨Fd,⟨D,R,rfl,_⟩,_⟩:=S.disk
 intro e he bl hbl
 have he':e ∈ D.ents.map Ent.pub:=he
 obtain ⟨e0,h0,rfl⟩:=List.mem_map.1 he'
 obtain ⟨i,hi,rfl⟩:=List.getElem_of_mem hbl
 have hat:=R.each e0 h0
 have hlb:i < e0.lay.bs.length:=by rw [hat.len]; exact hi
 exact (hat.bytes i _ _ (List.getElem?_eq_getElem hlb) (List.getElem?_eq_getElem hi)).1
theorem findA_mem {l:List (List UInt8 × FlA)} {k:List UInt8} {f:FlA} (h:findA l k = some f):(k,f) ∈ l:=by
 unfold findA at h
 obtain ⟨e,he,rfl⟩:=Option.map_eq_some_iff.1 h
 have h1:=List.mem_of_find?_eq_some he
 have h2:=List.find?_some he
 simp at h2
 subst h2
 exact h1
theorem Std.readA_len (S:Std w b n A s F) {i:Int} {bl:List UInt8} (h:(readA x i A).1 = some bl):bl.length = A.B:=by
 unfold readA at h
 split at h
 ·split at h
  ·cases h
  ·next f hf =>
   split at h
   ·split at h
    ·exact S.blocks _ (findA_mem hf) bl (List.mem_of_getElem? h)
    ·cases h
   ·cases h
 ·cases h
theorem Std.read_len (S:Std w b n A s F) {i:Int} {t:TrA} {bl:List UInt8} (h:(readB x i t A).1 = some bl):bl.length = A.B:=by
 unfold readB at h
 by_cases ho:A.on = true
 ·rw [if_pos ho] at h
  unfold readX at h
  by_cases h0:(readA x i A).2.1 = 0
  ·rw [if_pos h0] at h
   by_cases h1:t.kind = 1
   ·rw [if_pos h1] at h; cases h
   ·rw [if_neg h1] at h
    by_cases h2:t.kind = 2
    ·rw [if_pos h2] at h; cases h
    ·rw [if_neg h2] at h; exact S.readA_len h
  ·rw [if_neg h0] at h; exact S.readA_len h
 ·rw [if_neg ho] at h; cases h
theorem decode_yes {kind place:Nat} {bl:List UInt8} (hA:Fits A K) (hb:BytesAt w g bl) (hl:bl.length = A.B) (hp:place < 9223372036854775808) (h1:PureCrc.sumFits (numsU bl)) (h2:PureCrc.Formed (numsU bl)) (h3:(numsU bl).getD 5 0 = kind) (h4:PureCrc.num (PureCrc.cut (numsU bl) 8 8) = place) :
  Calls Tryz.prog 254 #[.int .i64 (kind:Int),.int .i64 (place:Int),.slice (some ⟨g,0,none⟩) A.B A.B] w fun e' w'=>∃ g',e' = .returned (.tuple #[.slice (some ⟨g',0,none⟩) (PureCrc.count (numsU bl)) (PureCrc.count (numsU bl)),.int .i64 0]) ∧ Rx.WRow w' g' (PureCrc.words (4 * PureCrc.count (numsU bl)) ((numsU bl).drop 28)) ∧ Tc [] w w' ∧ w.heap.size ≤ g':=by
 have a1:=hA.h64
 have a2:=hA.hmax
 have a3:=hA.h32
 subst h3 h4
 have:=Rx.decode_ok (numsU bl) g 0 A.B w (bytes_rd hb) (ltB hb) (numsU_lt bl) (by rw [numsU_length]; omega) (by rw [numsU_length]; omega) (by rw [numsU_length]; omega) (by rw [numsU_length]; omega) hp h1 h2
 rw [numsU_length,hl] at this
 exact this
end
set_option maxRecDepth 100000
abbrev Rc:=Nat × Nat × Nat × Nat
def Rc.words (r:Rc):List Nat:=[r.1,r.2.1,r.2.2.1,r.2.2.2]
def Rc.vals (r:Rc):List Value:=recL r.1 r.2.1 r.2.2.1 r.2.2.2
def flatR (l:List Rc):List Nat:=l.flatMap Rc.words
theorem flatR_length (l:List Rc):(flatR l).length = 4 * l.length:=by
 induction l with
 | nil=>rfl
 | cons r t ih=>simp only [flatR,List.flatMap_cons,List.length_append,List.length_cons] at ih ⊢; rw [ih]; simp [Rc.words]; omega
theorem flatR_get {l:List Rc} {i c:Nat} (hi:i < l.length) (hc:c < 4):(flatR l)[i * 4 + c]? = (Rc.words l[i])[c]?:=by
 induction l generalizing i with
 | nil=>simp at hi
 | cons r t ih =>
  have hw:(Rc.words r).length = 4:=rfl
  show (Rc.words r ++ flatR t)[i * 4 + c]? = _
  cases i with
  | zero=>rw [List.getElem?_append_left (by omega)]; simp
  | succ i =>
   rw [List.getElem?_append_right (by omega)]
   have e:(i + 1) * 4 + c - (Rc.words r).length = i * 4 + c:=by omega
   rw [e,ih (by simpa using hi)]
   rfl
variable {w:World} {g:Nat}
theorem words_vals (r:Rc) (c:Nat) (hc:c < 4):((Rc.words r)[c]?).map (fun x:Nat=>Value.int .u64 (x:Int)) = (Rc.vals r)[c]?:=by
 have:c = 0 ∨ c = 1 ∨ c = 2 ∨ c = 3:=by omega
 rcases this with rfl | rfl | rfl | rfl <;> rfl
def RdR (w:World) (g o:Nat) (l:List Rc):Prop:=∀ i (hi:i < l.length) c,c < 4 → w.cell? ⟨g,o + (i * 4 + c),none⟩ = (Rc.vals l[i])[c]?
theorem RdR.of {w:World} {g:Nat} {l:List Rc} (h:Rx.WRow w g (flatR l)):RdR w g 0 l:=fun i hi c hc=>by
 rw [Nat.zero_add,cRw h,Rx.wc_get,flatR_get hi hc,words_vals _ _ hc]
theorem RdR.touch {w w':World} {g o:Nat} {l:List Rc} {F:List Nat} (h:RdR w g o l) (t:Tc F w w') (hg:g < w.heap.size) (hF:g ∉ F):RdR w' g o l:=fun i hi c hc=>(t.cell (p:=⟨g,o + (i * 4 + c),none⟩) hg hF).trans (h i hi c hc)
end Go.Proofs.YthehcjjckabljaaGreatDoor
namespace Go.Proofs.YthehcjjckabljaaGreatDoor
open Go.RowKit Go.Deep
set_option linter.unusedSimpArgs false
set_option linter.unusedVariables false
abbrev rrow (kb:Nat) (x:ByteArray) (kind:Nat) (lv:Value) (dead:Int) (back:Bool) (blocks taken:Nat):Array Value:=#[ptr kb,.string x,.int .i64 (kind:Int),lv,.int .i64 dead,.bool false,.bool back,.int .i64 (blocks:Int),.int .i64 (taken:Int)]
section
variable {w w':World} {b:Bn} {n:Nat} {A:PubA} {s:Pu.St} {F:List Nat} {kb rb:Nat} {K:Nat} {T:Int} {x:ByteArray}
theorem told1_some {w':World} {m B:Nat} {bl:List UInt8} {v:Value} (h:Told1 w' m B (some bl) v):∃ g,v = .slice (some ⟨g,0,none⟩) B B ∧ m ≤ g ∧ BytesAt w' g bl:=by
 obtain ⟨g,h1,h2,h3⟩:=h
 exact ⟨g,h1,h2,h3.1⟩
set_option maxRecDepth 100000 in
set_option maxHeartbeats 4000000 in
theorem load_ok (S:Std w b n A s F) (hn:n < 1099511627776) (hA:Fits A K) (hk:DkA w kb b K T) (hkF:kb ∉ F) {kind blocks taken i:Nat} {lv:Value} {dead:Int} (hrow:w.heap[rb]? = some (.cells (rrow kb x kind lv dead false blocks taken) 289 (0,0))) (hrF:rb ∉ F) (hlo:b.lo ≤ rb) (hne:rb ≠ kb)
  (hpl:taken = i ∧ i < blocks) (hbl:blocks ≤ 1099511627776) (hk1:1 ≤ kind) (hk2:kind ≤ 5) {bl:List UInt8} (hr:(readB x (i:Int) (b.tr A) A).1 = some bl) (hr0:(readB x (i:Int) (b.tr A) A).2.1 = 0) (d1:PureCrc.sumFits (numsU bl)) (d2:PureCrc.Formed (numsU bl)) (d3:(numsU bl).getD 5 0 = kind) (d4:PureCrc.num (PureCrc.cut (numsU bl) 8 8) = i) {l:List Rc} (d5:PureCrc.count (numsU bl) = l.length) (d6:PureCrc.words (4 * PureCrc.count (numsU bl)) ((numsU bl).drop 28) = flatR l) (d7:l.length ≤ 65536) (hfull:K ≤ l.length ∨ i + 1 = blocks) :
  Calls Tryz.prog 238 #[ptr rb] w fun e w'=>e = .returned (.int .i64 0) ∧ ∃ g,WentN w w' b (n + 1) (readB x (i:Int) (b.tr A) A).2.2 s F [rb] [g] ∧ w'.heap[rb]? = some (.cells (rrow kb x kind (.slice (some ⟨g,0,none⟩) l.length l.length) dead false blocks (taken + 1)) 289 (0,0)) ∧ RdR w' g 0 l:=by
 have hlen:=S.read_len hr
 have HRD:=hid (read_s S hn x (i:Int))
 have HRD2:Hid (∀ W,Tc [] w W → Calls Tryz.prog 253 #[ptr b.p,.string x,.int .i64 (i:Int)] W fun e w'=>∃ g0,e = .returned (.tuple #[.slice (some ⟨g0,0,none⟩) A.B A.B,.int .i64 0]) ∧ BytesAt w' g0 bl ∧ W.heap.size ≤ g0 ∧ Went W w' b (n + 1) (readB x (i:Int) (b.tr A) A).2.2 s F []):=fun W t=>by
  refine (read_s (S.quiet t) hn x (i:Int)).mono fun e w' ⟨v,e1,hv,hg⟩=>?_
  rw [hr] at hv
  rw [hr0] at e1
  obtain ⟨g0,rfl,h1,h2⟩:=told1_some hv
  exact ⟨g0,e1,h2,h1,hg⟩
 have HDC:Hid (∀ W g0,BytesAt W g0 bl → Calls Tryz.prog 254 #[.int .i64 (kind:Int),.int .i64 (i:Int),.slice (some ⟨g0,0,none⟩) A.B A.B] W fun e' w'=>∃ g',e' = .returned (.tuple #[.slice (some ⟨g',0,none⟩) l.length l.length,.int .i64 0]) ∧ Rx.WRow w' g' (flatR l) ∧ Tc [] W w' ∧ W.heap.size ≤ g'):=fun W g0 h=>by
  have:=decode_yes hA h hlen (by omega) d1 d2 d3 d4
  rw [d6,d5] at this
  exact this
 generalize (readB x (i:Int) (b.tr A) A).2.2 = A1 at HRD2 ⊢
 have HS:=hid S
 have HR:=hid hrow
 have HK:=hid hk
 have HF:=hid (And.intro hrF (And.intro hkF (And.intro hlo hne)))
 have lw:=ltB hrow
 have lk:=ltB hk
 have c:=fun i=>cRw hrow i
 have k0:=cRw hk 0
 simp at k0
 have c0:=c 0
 have c1:=c 1
 have c2:=c 2
 have c6:=c 6
 have c7:=c 7
 have c8:=c 8
 simp only [List.getElem?_toArray,List.getElem?_cons_zero,List.getElem?_cons_succ] at c0 c1 c2 c6 c7 c8
 have hti:taken = i:=hpl.1
 subst hti
 have HPL:=hid hpl
 clear S hrow hk hrF hkF hlo hne c hlen hr hr0 hA hk1 hk2 hpl HRD d1 d2 d3 d4 d5 d6
 go_enter Tryz.func238,Tryz.ntmps238
 go_wp2_with fail
 go_region_held3 (fun W=>W.cell? ⟨rb,0,none⟩ = some (ptr kb) ∧ W.cell? ⟨rb,1,none⟩ = some (.string x) ∧ W.cell? ⟨kb,0,none⟩ = some (ptr b.p)) (go_keep)
  (first | (go_at_call 253; refine (HRD2.out _ ((Tc.refl [] w).drew)).mono ?_; rintro e w2 ⟨g0,rfl,hby,hg0,hg2⟩; obtain ⟨F2,S2,t2,f2⟩:=hg2; have z2:w2.cell? ⟨rb,0,none⟩ = some (ptr kb) ∧ w2.cell? ⟨rb,1,none⟩ = some (.string x) ∧ w2.cell? ⟨kb,0,none⟩ = some (ptr b.p):=⟨(t2.cell (p:=⟨rb,0,none⟩) lw (by simpa using HF.out.1)).trans c0,(t2.cell (p:=⟨rb,1,none⟩) lw (by simpa using HF.out.1)).trans c1,(t2.cell (p:=⟨kb,0,none⟩) lk (by simpa using HF.out.2.1)).trans k0⟩; have r2:=(t2.block rb lw (by simpa using HF.out.1)).trans HR.out; have q2:=cRw r2 2; simp only [List.getElem?_toArray,List.getElem?_cons_zero,List.getElem?_cons_succ] at q2; have HS2:=hid S2; have HT2:=hid t2; have HF2:=hid f2; have HBY:=hid hby; have HR2:=hid r2; clear S2 t2 f2 hby r2 c0 c1 c2 c6 c7 c8 k0))
 have tw2:Tc F w w2:=(((Tc.refl [] w).drew).mono (by simp)).trans HT2.out (fun y hy=>.inl (by simpa using hy))
 have HW2:Hid (Went w w2 b (n + 1) A1 s F []):=⟨F2,HS2.out,tw2.mono (by simp),HF2.out⟩
 have HTW2:=hid tw2
 clear tw2
 have lw2:rb < w2.heap.size:=ltB HR2.out
 have lk2:kb < w2.heap.size:=Nat.lt_of_lt_of_le lk HTW2.out.size
 have HK2:Hid (DkA w2 kb b K T):=HK.out.touch HTW2.out HF.out.2.1
 have hwt:IntKind.i64.wrap ((taken:Int) + 1) = ((taken + 1:Nat):Int):=by rw [IntKind.wrap_i64]; have:=HPL.out; omega
 have hwb:IntKind.i64.wrap ((blocks:Int) - 1) = (blocks:Int) - 1:=by rw [IntKind.wrap_i64]; have:=HPL.out; omega
 by_cases hlt:l.length < K
 ·have hi:¬ ((taken:Int) < (blocks:Int) - 1):=by omega
  go_wp2_with (first
  |(go_at_call 254; refine (HDC.out _ _ HBY.out).mono ?_; rintro e w3 ⟨g,rfl,hwr,ht3,hg3⟩; have r3:=(ht3.block rb lw2 (by simp)).trans HR2.out; have q:=(fun i=>cRw r3 i); have q0:=q 0; have q3:=q 3; have q6:=q 6; have q7:=q 7; have q8:=q 8; have u3:=(fun i=>uRw r3 i); have k3:=cRw (HK2.out.touch ht3 (by simp)) 2; simp only [List.getElem?_toArray,List.getElem?_cons_zero,List.getElem?_cons_succ] at q0 q3 q6 q7 q8 k3; have HWR:=hid hwr; have HT3:=hid ht3; have HG3:=hid hg3; have HR3:=hid r3; clear q hwr ht3 hg3 r3 z2 q2))
  go_ret
  have t4:Tc [g] w2 w3:=HT3.out.mono (F:=[]) (G:=[g]) (by simp)
  have tf:Tc [rb,g] w2 ((w3.setCell ⟨rb,3,none⟩ (.slice (some ⟨g,0,none⟩) l.length l.length)).setCell ⟨rb,8,none⟩ (.int .i64 ((taken:Int) + 1))):=((t4.mono (by simp)).setCell (by simp) _).setCell (by simp) _
  have hgs:=HG3.out
  have hrb:rb < g:=by omega
  have hgF:g ∉ F2:=fun hx=>by have:=HS2.out.lt _ hx; omega
  have hgl:g < w3.heap.size:=ltB HWR.out
  refine ⟨rfl,g,⟨F2,HS2.out.touch tf (fun y hy=>?_),?_,HF2.out,fun y hy=>?_⟩,?_,?_⟩
  ·simp at hy
   rcases hy with rfl | rfl
   ·refine ⟨fun hx=>?_,HF.out.2.2.1⟩
    rcases HF2.out _ hx with h | h
    ·exact HF.out.1 h
    ·have h:w.heap.size ≤ y:=h
     omega
   ·exact ⟨hgF,by have:=HS2.out.room; omega⟩
  ·refine (HTW2.out.mono (by intro y hy; simp [hy])).trans tf (fun y hy=>?_)
   simp at hy
   rcases hy with rfl | rfl
   ·exact .inl (by simp)
   ·exact .inr (by have:=HTW2.out.size; omega)
  ·simp at hy
   subst hy
   refine ⟨hgF,by have:=HTW2.out.size; omega,?_⟩
   have h9:w3.heap.size ≤ w3.heap.size:=by exact Nat.le_refl _
   simp [World.setCell]
   omega
  ·exact (sRw (sRw HR3.out 3 _) 8 _).trans (by simp)
  ·refine RdR.touch (F:=[rb]) (RdR.of HWR.out) (((Tc.refl [rb] _).setCell (by simp) _).setCell (by simp) _) ?_ (by simp; omega)
   have h9:w3.heap.size ≤ w3.heap.size:=by exact Nat.le_refl _
   omega
 ·go_wp2_with (first
  |(go_at_call 254; refine (HDC.out _ _ HBY.out).mono ?_; rintro e w3 ⟨g,rfl,hwr,ht3,hg3⟩; have r3:=(ht3.block rb lw2 (by simp)).trans HR2.out; have q:=(fun i=>cRw r3 i); have q0:=q 0; have q3:=q 3; have q6:=q 6; have q7:=q 7; have q8:=q 8; have u3:=(fun i=>uRw r3 i); have k3:=cRw (HK2.out.touch ht3 (by simp)) 2; simp only [List.getElem?_toArray,List.getElem?_cons_zero,List.getElem?_cons_succ] at q0 q3 q6 q7 q8 k3; have HWR:=hid hwr; have HT3:=hid ht3; have HG3:=hid hg3; have HR3:=hid r3; clear q hwr ht3 hg3 r3 z2 q2))
  go_ret
  have t4:Tc [g] w2 w3:=HT3.out.mono (F:=[]) (G:=[g]) (by simp)
  have tf:Tc [rb,g] w2 ((w3.setCell ⟨rb,3,none⟩ (.slice (some ⟨g,0,none⟩) l.length l.length)).setCell ⟨rb,8,none⟩ (.int .i64 ((taken:Int) + 1))):=((t4.mono (by simp)).setCell (by simp) _).setCell (by simp) _
  have hgs:=HG3.out
  have hrb:rb < g:=by omega
  have hgF:g ∉ F2:=fun hx=>by have:=HS2.out.lt _ hx; omega
  have hgl:g < w3.heap.size:=ltB HWR.out
  refine ⟨rfl,g,⟨F2,HS2.out.touch tf (fun y hy=>?_),?_,HF2.out,fun y hy=>?_⟩,?_,?_⟩
  ·simp at hy
   rcases hy with rfl | rfl
   ·refine ⟨fun hx=>?_,HF.out.2.2.1⟩
    rcases HF2.out _ hx with h | h
    ·exact HF.out.1 h
    ·have h:w.heap.size ≤ y:=h
     omega
   ·exact ⟨hgF,by have:=HS2.out.room; omega⟩
  ·refine (HTW2.out.mono (by intro y hy; simp [hy])).trans tf (fun y hy=>?_)
   simp at hy
   rcases hy with rfl | rfl
   ·exact .inl (by simp)
   ·exact .inr (by have:=HTW2.out.size; omega)
  ·simp at hy
   subst hy
   refine ⟨hgF,by have:=HTW2.out.size; omega,?_⟩
   have h9:w3.heap.size ≤ w3.heap.size:=by exact Nat.le_refl _
   simp [World.setCell]
   omega
  ·exact (sRw (sRw HR3.out 3 _) 8 _).trans (by simp)
  ·refine RdR.touch (F:=[rb]) (RdR.of HWR.out) (((Tc.refl [rb] _).setCell (by simp) _).setCell (by simp) _) ?_ (by simp; omega)
   have h9:w3.heap.size ≤ w3.heap.size:=by exact Nat.le_refl _
   omega
end
structure LsAt (w:World) (g:Nat) (lv:Value) (l:List Rc):Prop where
 val:∃ o c,lv = .slice o l.length c ∧ l.length ≤ c ∧ (l ≠ [] → ∃ off,o = some ⟨g,off,none⟩ ∧ RdR w g off l ∧ g < w.heap.size)
theorem LsAt.touch {w w':World} {g:Nat} {lv:Value} {l:List Rc} {G:List Nat} (h:LsAt w g lv l) (t:Tc G w w') (hG:g ∉ G):LsAt w' g lv l:=by
 obtain ⟨o,c,h1,h2,h3⟩:=h.val
 refine ⟨o,c,h1,h2,fun hl=>?_⟩
 obtain ⟨off,h4,h5,h6⟩:=h3 hl
 exact ⟨off,h4,h5.touch t h6 hG,Nat.lt_of_lt_of_le h6 t.size⟩
theorem LsAt.none (w:World) (g:Nat):LsAt w g (.slice none 0 0) []:=⟨Option.none,0,rfl,Nat.le_refl _,fun h=>absurd rfl h⟩
abbrev Rc.val (r:Rc):Value:=recV r.1 r.2.1 r.2.2.1 r.2.2.2
abbrev zeroR:Value:=.agg #[.int .u64 0,.int .u64 0,.int .u64 0,.int .u64 0]
section
variable {w w':World} {b:Bn} {n:Nat} {A:PubA} {s:Pu.St} {F:List Nat} {kb rb:Nat} {K:Nat} {T:Int} {x:ByteArray}
theorem WentN.box {W w2 W2:World} {n0 m:Nat} {A0 A':PubA} {s0 s':Pu.St} {G B N:List Nat} (S:Std w b n0 A0 s0 F) (t1:Tc [] w W) (h:WentN W w2 b m A' s' F G N) (t2:Tc B w2 W2) (hB:∀ y ∈ B,w.heap.size ≤ y ∧ y < W.heap.size):WentN w W2 b m A' s' F G N:=by
 obtain ⟨F',S',t',f',hN⟩:=h
 refine ⟨F',S'.touch t2 (fun y hy=>⟨fun hx=>?_,Nat.le_trans S.room (hB y hy).1⟩),((t1.mono (by simp)).trans t' (fun y hy=>.inl hy)).trans t2 (fun y hy=>.inr (hB y hy).1),fun y hy=>?_,fun y hy=>?_⟩
 ·have h1:=hB y hy
  rcases f' y hx with h | h
  ·have:=S.lt y h; omega
  ·omega
 ·rcases f' y hy with h | h
  ·exact .inl h
  ·exact .inr (Nat.le_trans t1.size h)
 ·obtain ⟨h1,h2,h3⟩:=hN y hy
  exact ⟨h1,Nat.le_trans t1.size h2,Nat.lt_of_lt_of_le h3 t2.size⟩
theorem box4 {w2:World} {q:Nat} {t:TypeId} {u0 u1 u2 u3:Value} (hr:w2.heap[q]? = some (.cells #[u0,u1,u2,u3] t (0,0))) (v0 v1 v2 v3:Value) :
  ∃ W2,W2 = (((w2.setCell ⟨q,0,none⟩ v0).setCell ⟨q,1,none⟩ v1).setCell ⟨q,2,none⟩ v2).setCell ⟨q,3,none⟩ v3 ∧ W2.heap[q]? = some (.cells #[v0,v1,v2,v3] t (0,0)) ∧ Tc [q] w2 W2:=by
 refine ⟨_,rfl,?_,?_⟩
 ·refine (sRw (sRw (sRw (sRw hr 0 _) 1 _) 2 _) 3 _).trans ?_
  simp
 ·repeat' refine Tc.setCell ?_ (by simp) _
  exact Tc.refl _ _
set_option maxRecDepth 100000 in
set_option maxHeartbeats 4000000 in
theorem Peek_have {kind blocks taken g:Nat} {lv:Value} {back:Bool} {r:Rc} {t:List Rc} (hrow:w.heap[rb]? = some (.cells (rrow kb x kind lv 0 back blocks taken) 289 (0,0))) (hl:LsAt w g lv (r :: t)) (hlen:(r :: t).length ≤ 65536) :
  Calls Tryz.prog 198 #[ptr rb] w fun e w'=>e = .returned (.tuple #[r.val,.bool true,.int .i64 0]) ∧ Tc [] w w':=by
 obtain ⟨W,hW⟩:∃ W,W = w.alloc (.cells #[.int .u64 0,.int .u64 0,.int .u64 0,.int .u64 0] 176):=⟨_,rfl⟩
 have t0:Tc [] w W:=by rw [hW]; exact (Tc.refl [] w).alloc _
 have hb:W.heap[w.heap.size]? = some (.cells #[.int .u64 0,.int .u64 0,.int .u64 0,.int .u64 0] 176):=by rw [hW]; exact heap_alloc_new w _
 have hrowW:=(t0.block rb (ltB hrow) (by simp)).trans hrow
 obtain ⟨o,c,rfl,hcc,hoff⟩:=(hl.touch t0 (by simp)).val
 obtain ⟨off,rfl,hrd,hgl⟩:=hoff (by simp)
 have HRf:=hid (refusal_any (x:=x) (kb:=kb) (kind:=(kind:Int)) (lv:=.slice (some ⟨g,off,none⟩) (r :: t).length c) (dead:=0) (cl:=false) (w:=W) (hb:=rb) ⟨_,_,hrowW,rfl,rfl,rfl,rfl,rfl,rfl⟩)
 simp only [Bool.false_eq_true,if_false] at HRf
 have c3:=cRw hrowW 3
 have c7:=cRw hrowW 7
 have c8:=cRw hrowW 8
 simp only [List.getElem?_toArray,List.getElem?_cons_zero,List.getElem?_cons_succ] at c3 c7 c8
 have hz:∀ i,i < 4 → W.cell? ⟨g,off + i,none⟩ = (Rc.vals r)[i]?:=fun i hi=>by
  have:=hrd 0 (by simp) i hi
  simpa using this
 have z0:=hz 0 (by omega)
 have z1:=hz 1 (by omega)
 have z2:=hz 2 (by omega)
 have z3:=hz 3 (by omega)
 simp only [Rc.vals,recL,Nat.add_zero,List.getElem?_cons_zero,List.getElem?_cons_succ] at z0 z1 z2 z3
 have q:=fun i=>cRw hb i
 have u:=fun i=>uRw hb i
 have hlt:0 < (r :: t).length:=by simp
 generalize (r :: t).length = L at hlt hlen hcc c3 HRf
 have hne0:¬ (L:Int) = 0:=by omega
 have hd0:decide ((L:Int) = 0) = false:=by simpa using hne0
 have hd1:((L:Int) == 0) = false:=by simpa using hne0
 have HT0:=hid t0
 have HE:=hid hW
 have HB:=hid hb
 have hlb:=ltB hb
 clear hrow hl t0 hb hrowW hrd hoff hz hW
 go_enter Tryz.func198,Tryz.ntmps198
 go_wp2_with fail
 rw [← HE.out]
 go_wp2_with (go_at_call 148; refine HRf.out.mono ?_; rintro e w1 ⟨rfl,hh⟩; have hh:=hh.symm; subst hh)
 go_quiet (fail)
 go_wp2_with fail
 obtain ⟨W2,hW2,q2,t2⟩:=box4 (w2:=W.drewN nq) HB.out (.int .u64 (r.1:Int)) (.int .u64 (r.2.1:Int)) (.int .u64 (r.2.2.1:Int)) (.int .u64 (r.2.2.2:Int))
 rw [← hW2]
 clear q u hW2
 have q:=fun i=>cRw q2 i
 refine bodyPost_ret (v:=.tuple #[r.val,.bool true,.int .i64 0]) (by simp [results,Tryz.results198,go_sem,q]) rfl ⟨rfl,?_⟩
 exact (HT0.out.drewN nq).trans t2 (by simp)
set_option maxRecDepth 100000 in
set_option maxHeartbeats 4000000 in
theorem Peek_end {kind blocks:Nat} {o:Option Addr} {c:Nat} {back:Bool} (hrow:w.heap[rb]? = some (.cells (rrow kb x kind (.slice o 0 c) 0 back blocks blocks) 289 (0,0))) :
  Calls Tryz.prog 198 #[ptr rb] w fun e w'=>e = .returned (.tuple #[zeroR,.bool false,.int .i64 0]) ∧ Tc [] w w':=by
 obtain ⟨W,hW⟩:∃ W,W = w.alloc (.cells #[.int .u64 0,.int .u64 0,.int .u64 0,.int .u64 0] 176):=⟨_,rfl⟩
 have t0:Tc [] w W:=by rw [hW]; exact (Tc.refl [] w).alloc _
 have hb:W.heap[w.heap.size]? = some (.cells #[.int .u64 0,.int .u64 0,.int .u64 0,.int .u64 0] 176):=by rw [hW]; exact heap_alloc_new w _
 have hrowW:=(t0.block rb (ltB hrow) (by simp)).trans hrow
 have HRf:=hid (refusal_any (x:=x) (kb:=kb) (kind:=(kind:Int)) (lv:=.slice o 0 c) (dead:=0) (cl:=false) (w:=W) (hb:=rb) ⟨_,_,hrowW,rfl,rfl,rfl,rfl,rfl,rfl⟩)
 simp only [Bool.false_eq_true,if_false] at HRf
 have c3:=cRw hrowW 3
 have c7:=cRw hrowW 7
 have c8:=cRw hrowW 8
 simp only [List.getElem?_toArray,List.getElem?_cons_zero,List.getElem?_cons_succ] at c3 c7 c8
 have q:=fun i=>cRw hb i
 have u:=fun i=>uRw hb i
 have HT0:=hid t0
 have HE:=hid hW
 have HB:=hid hb
 have HRW:=hid hrowW
 have hlb:=ltB hb
 have hd2:decide ((blocks:Int) < (blocks:Int)) = false:=by simp
 clear hrow t0 hb hrowW hW
 go_enter Tryz.func198,Tryz.ntmps198
 go_wp2_with fail
 rw [← HE.out]
 go_wp2_with (go_at_call 148; refine HRf.out.mono ?_; rintro e w1 ⟨rfl,hh⟩; have hh:=hh.symm; subst hh)
 go_quiet (fail)
 go_wp2_with fail
 obtain ⟨W2,hW2,q2,t2⟩:=box4 (w2:=W.drewN nq) HB.out (.int .u64 0) (.int .u64 0) (.int .u64 0) (.int .u64 0)
 rw [← hW2]
 clear q u hW2
 have q:=fun i=>cRw q2 i
 refine bodyPost_ret (v:=.tuple #[zeroR,.bool false,.int .i64 0]) (by simp [results,Tryz.results198,go_sem,q]) rfl ⟨rfl,?_⟩
 exact (HT0.out.drewN nq).trans t2 (by simp)
set_option maxRecDepth 100000 in
set_option maxHeartbeats 4000000 in
theorem Peek_load (S:Std w b n A s F) {kind blocks taken:Nat} {o:Option Addr} {c:Nat} {back:Bool} (hrow:w.heap[rb]? = some (.cells (rrow kb x kind (.slice o 0 c) 0 back blocks taken) 289 (0,0))) (htb:taken < blocks) {n1:Nat} {A1:PubA} {r:Rc} {t:List Rc} (hlen:(r :: t).length ≤ 65536)
  (H:∀ W,Tc [] w W → Calls Tryz.prog 238 #[ptr rb] W fun e w'=>e = .returned (.int .i64 0) ∧ ∃ g,WentN W w' b n1 A1 s F [rb] [g] ∧ w'.heap[rb]? = some (.cells (rrow kb x kind (.slice (some ⟨g,0,none⟩) (r :: t).length (r :: t).length) 0 back blocks (taken + 1)) 289 (0,0)) ∧ RdR w' g 0 (r :: t)) :
  Calls Tryz.prog 198 #[ptr rb] w fun e w'=>e = .returned (.tuple #[r.val,.bool true,.int .i64 0]) ∧ ∃ g,WentN w w' b n1 A1 s F [rb] [g] ∧ w'.heap[rb]? = some (.cells (rrow kb x kind (.slice (some ⟨g,0,none⟩) (r :: t).length (r :: t).length) 0 back blocks (taken + 1)) 289 (0,0)) ∧ RdR w' g 0 (r :: t):=by
 obtain ⟨W,hW⟩:∃ W,W = w.alloc (.cells #[.int .u64 0,.int .u64 0,.int .u64 0,.int .u64 0] 176):=⟨_,rfl⟩
 have t0:Tc [] w W:=by rw [hW]; exact (Tc.refl [] w).alloc _
 have hb:W.heap[w.heap.size]? = some (.cells #[.int .u64 0,.int .u64 0,.int .u64 0,.int .u64 0] 176):=by rw [hW]; exact heap_alloc_new w _
 have hrowW:=(t0.block rb (ltB hrow) (by simp)).trans hrow
 have HRf:=hid (refusal_any (x:=x) (kb:=kb) (kind:=(kind:Int)) (lv:=.slice o 0 c) (dead:=0) (cl:=false) (w:=W) (hb:=rb) ⟨_,_,hrowW,rfl,rfl,rfl,rfl,rfl,rfl⟩)
 simp only [Bool.false_eq_true,if_false] at HRf
 have c3:=cRw hrowW 3
 have c7:=cRw hrowW 7
 have c8:=cRw hrowW 8
 simp only [List.getElem?_toArray,List.getElem?_cons_zero,List.getElem?_cons_succ] at c3 c7 c8
 have q:=fun i=>cRw hb i
 have u:=fun i=>uRw hb i
 have HT0:=hid t0
 have HE:=hid hW
 have HB:=hid hb
 have HRW:=hid hrowW
 have hlb:=ltB hb
 have hd2:decide ((taken:Int) < (blocks:Int)) = true:=by simp; omega
 have HH:Hid (∀ nq,Calls Tryz.prog 238 #[ptr rb] (W.drewN nq) fun e w'=>e = .returned (.int .i64 0) ∧ ∃ g,WentN (W.drewN nq) w' b n1 A1 s F [rb] [g] ∧ w'.heap[rb]? = some (.cells (rrow kb x kind (.slice (some ⟨g,0,none⟩) (r :: t).length (r :: t).length) 0 back blocks (taken + 1)) 289 (0,0)) ∧ RdR w' g 0 (r :: t)):=fun nq=>H _ (t0.drewN nq)
 have HS:=hid S
 have lrw:=ltB hrow
 have hlt:0 < (r :: t).length:=by simp
 obtain ⟨L,hL⟩:∃ L,L = (r :: t).length:=⟨_,rfl⟩
 rw [← hL] at HH hlt hlen ⊢
 have HL:=hid hL
 have hne0:¬ (L:Int) = 0:=by omega
 clear hrow t0 hb hrowW hW H S hL
 go_enter Tryz.func198,Tryz.ntmps198
 go_wp2_with fail
 rw [← HE.out]
 go_wp2_with (go_at_call 148; refine HRf.out.mono ?_; rintro e w1 ⟨rfl,hh⟩; have hh:=hh.symm; subst hh)
 go_quiet (fail)
 go_wp2_with fail
 refine (HH.out _).mono ?_
 rintro e w1 ⟨rfl,g,hg,hr1,hrd⟩
 have d3:=cRw hr1 3
 simp only [List.getElem?_toArray,List.getElem?_cons_zero,List.getElem?_cons_succ] at d3
 have z0:=hrd 0 (by simp) 0 (by omega)
 have z1:=hrd 0 (by simp) 1 (by omega)
 have z2:=hrd 0 (by simp) 2 (by omega)
 have z3:=hrd 0 (by simp) 3 (by omega)
 simp only [Rc.vals,recL,List.getElem_cons_zero,Nat.zero_mul,Nat.zero_add,Nat.add_zero,List.getElem?_cons_zero,List.getElem?_cons_succ] at z0 z1 z2 z3
 have hbb:=(hg.choose_spec.2.1.block w.heap.size hlb (by have h1:=HS.out.lt; simp; exact ⟨fun e=>by omega,fun h=>Nat.lt_irrefl _ (h1 _ h)⟩)).trans HB.out
 have qb:=(fun i=>cRw hbb i)
 have ub:=(fun i=>uRw hbb i)
 have hg0:W.heap.size ≤ g ∧ g < w1.heap.size:=⟨(hg.choose_spec.2.2.2 g (by simp)).2.1,(hg.choose_spec.2.2.2 g (by simp)).2.2⟩
 have HG:=hid hg
 have HR1:=hid hr1
 have HRR:=hid hrd
 have HBB:=hid hbb
 have lg:=hg0.2
 have HG0:=hid hg0
 clear hg hr1 hrd hbb c3 c7 c8 q u hg0
 go_wp2_with fail
 obtain ⟨W2,hW2,q2,t2⟩:=box4 HBB.out (.int .u64 (r.1:Int)) (.int .u64 (r.2.1:Int)) (.int .u64 (r.2.2.1:Int)) (.int .u64 (r.2.2.2:Int))
 rw [← hW2]
 clear qb ub hW2
 have q:=fun i=>cRw q2 i
 have hgb:w.heap.size < g:=by have:=HG0.out.1; omega
 refine bodyPost_ret (v:=.tuple #[r.val,.bool true,.int .i64 0]) (by simp [results,Tryz.results198,go_sem,q]) rfl ⟨rfl,g,?_,?_,?_⟩
 ·exact WentN.box HS.out (HT0.out.drewN nq) HG.out t2 (fun y hy=>by simp at hy; subst hy; exact ⟨Nat.le_refl _,hlb⟩)
 ·exact (t2.block rb (ltB HR1.out) (by simp; omega)).trans HR1.out
 ·exact HRR.out.touch t2 lg (by simp; omega)
end
end Go.Proofs.YthehcjjckabljaaGreatDoor
