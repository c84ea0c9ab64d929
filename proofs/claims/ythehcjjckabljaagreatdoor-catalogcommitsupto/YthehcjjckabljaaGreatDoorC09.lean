import Derived.Lib.BufSteps
import Derived.Lib.Strings
import Derived.WalkKit
import Derived.WalkSpells
import Derived.WalkLawsBesides
import Derived.Deep.QuietTactic
import Derived.Deep.RegionWith
import Derived.Deep.RegionLaw
import Derived.Deep.DeepCutAuto
import Derived.Deep.OwnRows
import Derived.Laws.LoneSync
import Derived.OwnWalk
import Derived.Below
import Derived.Laws.IdiomStrings
import Derived.Laws.Bits64b
import Derived.Shelf.Strings.Repeat
import Derived.Lib.ConvBytes
import Derived.Lib.SmallJoins
import Derived.Lib.AtoiErrMem
import Derived.BigQuiet
import Derived.Test.YthehcjjckabljaaGreatDoorRows
import Derived.Test.YthehcjjckabljaaGreatDoorC08
namespace Go.Proofs.YthehcjjckabljaaGreatDoor
open Go.RowKit Go.Deep
set_option linter.unusedSimpArgs false
set_option linter.unusedVariables false
section
variable {w w':World} {b:Bn} {n:Nat} {A:PubA} {s:Pu.St} {F:List Nat} {kb hb:Nat} {K T:Int} {x:ByteArray} {kind dead:Int} {lv:Value} {cl:Bool}
def Freed (w w':World) (b:Bn) (n:Nat) (A:PubA) (s:Pu.St) (F:List Nat) (hb:Nat) (K:Int):Prop:=
 (∀ c t,w.heap[hb]? = some (.cells c t (0,0)) → w'.heap[hb]? = some (.cells ((c.setIfInBounds 5 (.bool true)).setIfInBounds 3 (.slice none 0 0)) t (0,0))) ∧ Went w w' b n A (s.give K) F [hb]
theorem freed_of {w1:World} (S:Std w b n A s F) (h:HeldAt w hb kb x kind lv dead cl) (hF:hb ∉ F) (e:w1 = (w.setCell ⟨hb,5,none⟩ (.bool true)).setCell ⟨hb,3,none⟩ (.slice none 0 0)) (g:Went w1 w' b n A (s.give K) F []):Freed w w' b n A s F hb K:=by
 have t1:Tc [hb] w w1:=by rw [e]; exact ((Tc.refl [hb] w).setCell (by simp) _).setCell (by simp) _
 obtain ⟨F',S',t,f⟩:=g
 refine ⟨fun c t0 h0=>?_,F',S',(t1.mono (by simp)).trans t (fun y hy=>.inl (by simp at hy ⊢; exact .inr hy)),fun y hy=>?_⟩
 ·have r1:w1.heap[hb]? = some (.cells ((c.setIfInBounds 5 (.bool true)).setIfInBounds 3 (.slice none 0 0)) t0 (0,0)):=by rw [e]; exact sRw (sRw h0 5 _) 3 _
  exact (t.block hb (ltB r1) (by simpa using hF)).trans r1
 ·rcases f y hy with h | h
  ·exact .inl h
  ·exact .inr (Nat.le_trans t1.size h)
set_option maxRecDepth 100000 in
set_option maxHeartbeats 1000000 in
theorem release_any (S:Std w b n A s F) (hk:DkA w kb b K T) (hkF:kb ∉ F) (h:HeldAt w hb kb x kind lv dead cl) (hF:hb ∉ F) (hlo:b.lo ≤ hb) (hne:hb ≠ kb):Calls Tryz.prog 146 #[ptr hb] w fun e w'=>e = .returned (.tuple #[]) ∧ Freed w w' b n A s F hb K:=by
 obtain ⟨c0,_,_,c3,_,c5⟩:=h.cells
 have f5:=h.unfrozen 5
 have f3:=h.unfrozen 3
 have k1:=cRw hk 1
 have k2:=cRw hk 2
 simp at k1 k2
 obtain ⟨W1,hW1⟩:∃ W1,W1 = (w.setCell ⟨hb,5,none⟩ (.bool true)).setCell ⟨hb,3,none⟩ (.slice none 0 0):=⟨_,rfl⟩
 have t1:Tc [hb] w W1:=by rw [hW1]; exact ((Tc.refl [hb] w).setCell (by simp) _).setCell (by simp) _
 have S1:Std W1 b n A s F:=S.touch t1 (fun y hy=>by simp at hy; subst hy; exact ⟨hF,hlo⟩)
 have d0:W1.cell? ⟨hb,0,none⟩ = some (ptr kb):=by
  obtain ⟨c,t,h0,h1,_⟩:=h.row
  have r1:W1.heap[hb]? = some (.cells ((c.setIfInBounds 5 (.bool true)).setIfInBounds 3 (.slice none 0 0)) t (0,0)):=by rw [hW1]; exact sRw (sRw h0 5 _) 3 _
  rw [cRw r1 0]
  simpa using h1
 have d1:W1.cell? ⟨kb,1,none⟩ = some (ptr b.q):=(t1.cell (p:=⟨kb,1,none⟩) (ltB hk) (by simp; exact fun e=>hne e.symm)).trans k1
 have d2:W1.cell? ⟨kb,2,none⟩ = some (.int .i64 K):=(t1.cell (p:=⟨kb,2,none⟩) (ltB hk) (by simp; exact fun e=>hne e.symm)).trans k2
 have lk1:kb < W1.heap.size:=Nat.lt_of_lt_of_le (ltB hk) t1.size
 have lh1:hb < W1.heap.size:=Nat.lt_of_lt_of_le h.lt t1.size
 have HG:=hid (fun n=>give_s (S1.quiet ((Tc.refl [] W1).drewN n)) K)
 have HF:=hid (fun w' g=>freed_of (w':=w') (K:=K) S h hF hW1 g)
 have HE:=hid hW1
 have HKF:=hid hkF
 have HHF:=hid hF
 clear S hk hkF h hF hlo S1 t1 hW1 k1 k2
 go_enter Tryz.func146,Tryz.ntmps146
 go_wp2_with fail
 rw [← HE.out]
 clear c0 c3 c5 f5 f3
 go_region_held3 (fun W=>W.cell? ⟨hb,0,none⟩ = some (ptr kb) ∧ W.cell? ⟨kb,1,none⟩ = some (ptr b.q) ∧ W.cell? ⟨kb,2,none⟩ = some (.int .i64 K)) (go_keep)
  (first | (go_at_call 190; refine (HG.out 1).mono ?_; rintro e w2 ⟨rfl,hg⟩; have z2:w2.cell? ⟨hb,0,none⟩ = some (ptr kb) ∧ w2.cell? ⟨kb,1,none⟩ = some (ptr b.q) ∧ w2.cell? ⟨kb,2,none⟩ = some (.int .i64 K):=(by obtain ⟨_,_,t,_⟩:=hg; exact ⟨(t.cell (p:=⟨hb,0,none⟩) lh1 (by simp; exact HHF.out)).trans d0,(t.cell (p:=⟨kb,1,none⟩) lk1 (by simp; exact HKF.out)).trans d1,(t.cell (p:=⟨kb,2,none⟩) lk1 (by simp; exact HKF.out)).trans d2⟩); have HGG:=hid hg; clear hg))
 go_end0
 exact ⟨rfl,HF.out _ (HGG.out.pre ((Tc.refl [] W1).drewN 1) (by simp))⟩
set_option maxRecDepth 100000 in
set_option maxHeartbeats 1000000 in
theorem release_d (S:Std w b n A s F) (hk:DkA w kb b K T) (hkF:kb ∉ F) (h:HeldAt w hb kb x kind lv dead cl) (hF:hb ∉ F) (hlo:b.lo ≤ hb) (hne:hb ≠ kb) (u:FrameMode):CallsD Tryz.prog 146 #[ptr hb] u w fun e u' w'=>u' = u ∧ (e = .returned (.tuple #[]) ∧ Freed w w' b n A s F hb K):=by
 obtain ⟨c0,_,_,c3,_,c5⟩:=h.cells
 have f5:=h.unfrozen 5
 have f3:=h.unfrozen 3
 have k1:=cRw hk 1
 have k2:=cRw hk 2
 simp at k1 k2
 obtain ⟨W1,hW1⟩:∃ W1,W1 = (w.setCell ⟨hb,5,none⟩ (.bool true)).setCell ⟨hb,3,none⟩ (.slice none 0 0):=⟨_,rfl⟩
 have t1:Tc [hb] w W1:=by rw [hW1]; exact ((Tc.refl [hb] w).setCell (by simp) _).setCell (by simp) _
 have S1:Std W1 b n A s F:=S.touch t1 (fun y hy=>by simp at hy; subst hy; exact ⟨hF,hlo⟩)
 have d0:W1.cell? ⟨hb,0,none⟩ = some (ptr kb):=by
  obtain ⟨c,t,h0,h1,_⟩:=h.row
  have r1:W1.heap[hb]? = some (.cells ((c.setIfInBounds 5 (.bool true)).setIfInBounds 3 (.slice none 0 0)) t (0,0)):=by rw [hW1]; exact sRw (sRw h0 5 _) 3 _
  rw [cRw r1 0]
  simpa using h1
 have d1:W1.cell? ⟨kb,1,none⟩ = some (ptr b.q):=(t1.cell (p:=⟨kb,1,none⟩) (ltB hk) (by simp; exact fun e=>hne e.symm)).trans k1
 have d2:W1.cell? ⟨kb,2,none⟩ = some (.int .i64 K):=(t1.cell (p:=⟨kb,2,none⟩) (ltB hk) (by simp; exact fun e=>hne e.symm)).trans k2
 have lk1:kb < W1.heap.size:=Nat.lt_of_lt_of_le (ltB hk) t1.size
 have lh1:hb < W1.heap.size:=Nat.lt_of_lt_of_le h.lt t1.size
 have HG:=hid (fun n=>give_s (S1.quiet ((Tc.refl [] W1).drewN n)) K)
 have HF:=hid (fun w' g=>freed_of (w':=w') (K:=K) S h hF hW1 g)
 have HE:=hid hW1
 have HKF:=hid hkF
 have HHF:=hid hF
 clear S hk hkF h hF hlo S1 t1 hW1 k1 k2
 go_enter_d Tryz.func146,Tryz.ntmps146
 go_wp2_with fail
 rw [← HE.out]
 clear c0 c3 c5 f5 f3
 go_region_held3 (fun W=>W.cell? ⟨hb,0,none⟩ = some (ptr kb) ∧ W.cell? ⟨kb,1,none⟩ = some (ptr b.q) ∧ W.cell? ⟨kb,2,none⟩ = some (.int .i64 K)) (go_keep)
  (first | (go_at_call 190; refine (HG.out 1).mono ?_; rintro e w2 ⟨rfl,hg⟩; have z2:w2.cell? ⟨hb,0,none⟩ = some (ptr kb) ∧ w2.cell? ⟨kb,1,none⟩ = some (ptr b.q) ∧ w2.cell? ⟨kb,2,none⟩ = some (.int .i64 K):=(by obtain ⟨_,_,t,_⟩:=hg; exact ⟨(t.cell (p:=⟨hb,0,none⟩) lh1 (by simp; exact HHF.out)).trans d0,(t.cell (p:=⟨kb,1,none⟩) lk1 (by simp; exact HKF.out)).trans d1,(t.cell (p:=⟨kb,2,none⟩) lk1 (by simp; exact HKF.out)).trans d2⟩); have HGG:=hid hg; clear hg))
 go_end0
 exact ⟨rfl,HF.out _ (HGG.out.pre ((Tc.refl [] W1).drewN 1) (by simp))⟩
end
def WentN (w w':World) (b:Bn) (n:Nat) (A:PubA) (s:Pu.St) (F G N:List Nat):Prop:=
 ∃ F',Std w' b n A s F' ∧ Tc (G ++ F) w w' ∧ (∀ x ∈ F',x ∈ F ∨ w.heap.size ≤ x) ∧ ∀ y ∈ N,y ∉ F' ∧ w.heap.size ≤ y ∧ y < w'.heap.size
structure WrAt (w:World) (wb kb:Nat) (x:ByteArray) (kind:Int) (ws:List Nat) (dead:Int) (blocks count:Int) (g K:Nat):Prop where
 row:w.heap[wb]? = some (.cells #[ptr kb,.string x,.int .i64 kind,.slice (some ⟨g,0,none⟩) (ws.length / 4) K,.int .i64 dead,.bool false,.int .i64 blocks,.int .i64 count] 226 (0,0))
 list:∃ rest,Rx.WRow w g (ws ++ rest) ∧ (ws ++ rest).length = 4 * K
 few:ws.length % 4 = 0 ∧ ws.length < 4 * K
 small:∀ y ∈ ws,y < 18446744073709551616
section
variable {w w':World} {b:Bn} {n:Nat} {A:PubA} {s:Pu.St} {F:List Nat} {kb:Nat} {K:Nat} {T:Int}
theorem run_make_list (k:Nat) (hk:k ≤ 65536) (w:World):(Instr.makeSlice 130 (.int .i64 0) (.int .i64 (k:Int))).run Tryz.prog w = .ok (.slice (some ⟨w.heap.size,0,none⟩) 0 k) (w.alloc (.cells (Rx.wc (PureCrc.zeros (4 * k))) 176)):=by
 have hi:=Rx.Tryz.info176
 cases h:Tryz.prog.info? 176 with
 | none=>rw [h] at hi; simp at hi
 | some i =>
  rw [h] at hi
  simp only [Option.map_some,Option.some.injEq,Prod.mk.injEq] at hi
  obtain ⟨hz,hs,hb⟩:=hi
  have:=run_make (P:=Tryz.prog) w 130 176 i _ Tryz.underlying130 h hz .i64 .i64 0 k (by omega) (by omega) (by rw [hb]; omega) (by omega)
  rw [hs,Int.toNat_natCast,Rx.made_recs] at this
  exact this
set_option maxRecDepth 100000 in
set_option maxHeartbeats 1000000 in
theorem Write_ok (S:Std w b n A s F) (hn:n < 1099511627776) (hk:DkA w kb b K T) (hkF:kb ∉ F) (hK:1 ≤ K ∧ K ≤ 2047) (x:ByteArray) (kind:Int) (he:holdE A s K kind [] [x] = 0) (hc:(createB x (b.tr A) A).1 = 0) :
  Calls Tryz.prog 99 #[ptr kb,.string x,.int .i64 kind] w fun e w'=>∃ wb g,e = .returned (.tuple #[ptr wb,.int .i64 0]) ∧ WentN w w' b (n + 1) (createB x (b.tr A) A).2 (s.take K) F [] [wb,g] ∧ wb ≠ g ∧ WrAt w' wb kb x kind [] 0 0 0 g K:=by
 obtain ⟨W0,hW0⟩:∃ W0,W0 = w.alloc (.cells #[.string x] 9):=⟨_,rfl⟩
 have t0:Tc [] w W0:=by rw [hW0]; exact (Tc.refl [] w).alloc _
 have hs:StrsAt W0 (some ⟨w.heap.size,0,none⟩) [x]:=⟨fun k hk=>by
  have:k = 0:=by simpa using hk
  subst this
  refine ⟨_,rfl,by rw [hW0]; simp,?_⟩
  rw [hW0]
  exact cRw (heap_alloc_new w (.cells #[.string x] 9)) 0⟩
 have H:=hid (hold_any (S.quiet t0) hn (hk.touch t0 (by simp)) hkF (StrsAt.nil W0 none) hs (by simp) (by simp) (ci:=0) (co:=1) x kind)
 rw [he] at H
 unfold held0 heldV at H
 have HC:Hid (∀ W F1,Std W b n A (s.take K) F1 → Calls Tryz.prog 17 #[ptr b.p,.string x] W fun e w'=>e = .returned (.int .i64 0) ∧ Went W w' b (n + 1) (createB x (b.tr A) A).2 (s.take K) F1 []):=fun W F1 S1=>by
  have:=create_s S1 hn x
  rw [hc] at this
  exact this
 have HK:Hid (∀ W,Tc F w W → W.cell? ⟨kb,0,none⟩ = some (ptr b.p) ∧ W.cell? ⟨kb,2,none⟩ = some (.int .i64 K)):=fun W t=>⟨by rw [cRw (hk.touch t hkF) 0]; rfl,by rw [cRw (hk.touch t hkF) 2]; rfl⟩
 generalize (createB x (b.tr A) A).2 = A1 at HC ⊢
 have HT:=hid t0
 have HE:=hid hW0
 have HS:=hid S
 have HKK:=hid hK
 have HKL:=hid (ltB hk)
 clear S hk t0 hs hW0 hc he hK
 go_enter Tryz.func99,Tryz.ntmps99
 go_wp2_with fail
 rw [← HE.out]
 go_wp2_with (first
  |(go_at_call 145; refine H.out.mono ?_; rintro e w1 (⟨h0,_⟩ | ⟨_,_,rfl,hg⟩); exact absurd rfl h0; obtain ⟨F1,S1,g1,f1⟩:=hg; have tF:=(HT.out.mono (F:=[]) (G:=F) (by simp)).trans g1 (fun y hy=>.inl (by simpa using hy)); have hck:=(fun o:Obj=>HK.out (w1.alloc o) (tF.alloc o)); have hc0:=(fun o:Obj=>(hck o).1); have HS1:=hid S1; have HG1:=hid g1; have HF1:=hid f1; have HTF:=hid tF; clear S1 g1 f1 tF hck)
  |(go_at_call 17; refine (HC.out _ F1 (HS1.out.quiet ((Tc.refl [] w1).alloc _))).mono ?_; rintro e w3 ⟨rfl,hg3⟩; obtain ⟨F3,S3,g3,f3⟩:=hg3; have hl0:w1.heap.size ∉ F1:=(fun hx=>Nat.lt_irrefl _ (HS1.out.lt _ hx)); have hb3:=(g3.block w1.heap.size (by simp) (by simpa using hl0)).trans (heap_alloc_new w1 _); have HB3:=hid hb3; have c3:=(fun i=>cRw hb3 i); have u3:=(fun i=>uRw hb3 i); have HS3:=hid S3; have HG3:=hid g3; have HF3:=hid f3; have tF3:Tc F w w3:=(HTF.out.alloc _).trans g3 (fun y hy=>by rcases HF1.out y (by simpa using hy) with h | h; exact .inl h; exact .inr (Nat.le_trans HT.out.size h)); have HT3:=hid tF3; have k2:=(HK.out w3 tF3).2; have hmk:=run_make_list K (by have:=HKK.out; omega) w3; have l3:=ltB hb3; have lk3:=Nat.lt_of_lt_of_le HKL.out tF3.size; clear S3 g3 f3 hb3 hl0 tF3))
 go_ret2
 have hb1:w1.heap.size ∉ F3:=fun hx=>by
  rcases HF3.out _ hx with h | h
  ·exact Nat.lt_irrefl _ (HS1.out.lt _ h)
  ·rw [World.size_alloc] at h; omega
 have hlo:b.lo ≤ w1.heap.size:=HS1.out.room
 have hz:(w3.setCell ⟨w1.heap.size,3,none⟩ (.slice (some ⟨w3.heap.size,0,none⟩) 0 K)).heap.size = w3.heap.size:=by simp [World.setCell]
 have t4:Tc [w1.heap.size] w3 (((w3.setCell ⟨w1.heap.size,3,none⟩ (.slice (some ⟨w3.heap.size,0,none⟩) 0 K)).alloc (.cells (Rx.wc (PureCrc.zeros (4 * K))) 176)).alloc (.cells #[ptr kb,.string x,.int .i64 kind,.slice (some ⟨w3.heap.size,0,none⟩) 0 K,.int .i64 0,.bool false,.int .i64 0,.int .i64 0] 226)):=
  ((((Tc.refl [w1.heap.size] w3).setCell (by simp) _).alloc _).alloc _)
 have hw1:=HTF.out.size
 have e2:=heap_two (w3.setCell ⟨w1.heap.size,3,none⟩ (.slice (some ⟨w3.heap.size,0,none⟩) 0 K)) (.cells (Rx.wc (PureCrc.zeros (4 * K))) 176) (.cells #[ptr kb,.string x,.int .i64 kind,.slice (some ⟨w3.heap.size,0,none⟩) 0 K,.int .i64 0,.bool false,.int .i64 0,.int .i64 0] 226)
 rw [hz] at e2
 refine ⟨w3.heap.size + 1,w3.heap.size,rfl,⟨F3,HS3.out.touch t4 (fun y hy=>by simp at hy; subst hy; exact ⟨hb1,hlo⟩),(HT3.out.trans t4 (fun y hy=>.inr (by simp at hy; omega))).mono (by simp),fun y hy=>?_,fun y hy=>?_⟩,by omega,⟨e2.2,⟨PureCrc.zeros (4 * K),e2.1,by simp [PureCrc.zeros]⟩,⟨rfl,by have:=HKK.out; simp; omega⟩,by simp⟩⟩
 ·rcases HF3.out y hy with h | h
  ·rcases HF1.out y h with h | h
   ·exact .inl h
   ·exact .inr (Nat.le_trans HT.out.size h)
  ·exact .inr (by rw [World.size_alloc] at h; omega)
 ·have hlt:∀ z ∈ F3,z < w3.heap.size:=HS3.out.lt
  simp only [List.mem_cons,List.not_mem_nil,or_false] at hy
  have h3:=HT3.out.size
  refine ⟨fun hx=>?_,?_,?_⟩
  ·have:=hlt y hx
   rcases hy with rfl | rfl <;> omega
  ·rcases hy with rfl | rfl <;> omega
  ·simp [World.setCell]
   rcases hy with rfl | rfl <;> omega
end
set_option maxRecDepth 100000
def wholeE (A:PubA) (s:Pu.St) (K wrong:Int) (i o:List ByteArray):Int:=
 if A.on = false then 10 else if wrong ≠ 0 then wrong else if readyE A i o ≠ 0 then readyE A i o else if s.free < 64 * K then 2 else 0
section
variable {w w':World} {b:Bn} {n:Nat} {A:PubA} {s:Pu.St} {F:List Nat} {kb:Nat} {K T:Int}
theorem Disk_any (hk:DkA w kb b K T):Calls Tryz.prog 92 #[ptr kb] w fun e w'=>e = .returned (ptr b.p) ∧ w' = w:=by
 have c:=cRw hk 0
 simp at c
 clear hk
 go_enter Tryz.func92,Tryz.ntmps92
 go_wp2
 go_ret
 exact ⟨rfl,rfl⟩
theorem Purse_any (hk:DkA w kb b K T):Calls Tryz.prog 95 #[ptr kb] w fun e w'=>e = .returned (ptr b.q) ∧ w' = w:=by
 have c:=cRw hk 1
 simp at c
 clear hk
 go_enter Tryz.func95,Tryz.ntmps95
 go_wp2
 go_ret
 exact ⟨rfl,rfl⟩
theorem K_any (hk:DkA w kb b K T):Calls Tryz.prog 29 #[ptr kb] w fun e w'=>e = .returned (.int .i64 K) ∧ w' = w:=by
 have c:=cRw hk 2
 simp at c
 clear hk
 go_enter Tryz.func29,Tryz.ntmps29
 go_wp2
 go_ret
 exact ⟨rfl,rfl⟩
theorem free_s (h:Std w b n A s F):Calls Tryz.prog 96 #[ptr b.q] w fun e w'=>e = .returned (.int .i64 s.free) ∧ Went w w' b n A s F []:=
 (Pu.Free_any h.pur h.lock h.ne h.good).mono fun e w' ⟨e1,hp,hl,t⟩=>⟨e1,h.pursed hp hl h.good rfl t⟩
set_option maxHeartbeats 1000000 in
theorem whole_any (S:Std w b n A s F) (hn:n < 1099511627776) (hk:DkA w kb b K T) (hkF:kb ∉ F) (hK:0 ≤ K ∧ K ≤ 4096) {si so:Option Addr} {ci co:Nat} {li lo:List ByteArray} (hi:StrsAt w si li) (ho:StrsAt w so lo) (h1:li.length ≤ 1099511627776) (h2:lo.length ≤ 1099511627776) (wrong:Int) :
  Calls Tryz.prog 47 #[ptr kb,.int .i64 wrong,.slice si li.length ci,.slice so lo.length co] w fun e w'=>e = .returned (.int .i64 (wholeE A s K wrong li lo)) ∧ Went w w' b n A s F []:=by
 have HD:=hid (Disk_any hk)
 have HON:=hid (on_s S)
 have HS:=hid S
 have HKD:=hid hk
 have HKF:=hid hkF
 by_cases h0:A.on = false
 ·have HW:=hid (show wholeE A s K wrong li lo = 10 by unfold wholeE; rw [if_pos h0])
  rw [h0] at HON
  clear S hk hkF hi ho
  go_enter Tryz.func47,Tryz.ntmps47
  go_wp2_with (first
   |(go_at_call 92; refine HD.out.mono ?_; rintro e w1 ⟨rfl,hh⟩; have hh:=hh.symm; subst hh)
   |(go_at_call 93; refine HON.out.mono ?_; rintro e w1 ⟨rfl,hh⟩; have hh:=hh.symm; subst hh))
  go_ret
  exact ⟨by rw [HW.out]; rfl,Went.same HS.out⟩
 ·have h0':A.on = true:=by simpa using h0
  by_cases hw:wrong = 0
  ·subst hw
   have HR:=hid (Ready_any (ci:=ci) (co:=co) S hn hk hi ho h1 h2)
   rw [h0'] at HON
   by_cases hr:readyE A li lo = 0
   ·rw [hr] at HR
    by_cases hf:s.free < 64 * K
    ·have HW:=hid (show wholeE A s K 0 li lo = 2 by unfold wholeE; rw [if_neg h0,if_neg (by simp),if_neg (by simp [hr]),if_pos hf])
     clear S hk hkF hi ho h0 hr
     go_enter Tryz.func47,Tryz.ntmps47
     go_wp2_with (first
      |(go_at_call 29; refine (K_any (HKD.out.touch HT3.out HN3.out)).mono ?_; rintro e w4 ⟨rfl,hh⟩; have hh:=hh.symm; subst hh)
      |(go_at_call 96; refine (free_s (HS.out.quiet HT2.out)).mono ?_; rintro e w3 ⟨rfl,hw3⟩; have HG3:=hid (Went.pre HT2.out hw3 (G':=[]) (by simp)); obtain ⟨F3,S3,t3,f3⟩:=HG3.out; have HT3:=hid t3; have HN3:=hid (show kb ∉ [] ++ F by simpa using HKF.out); clear hw3 S3 t3 f3)
      |(go_at_call 95; refine (Purse_any (HKD.out.touch HT2.out (by simp))).mono ?_; rintro e w3 ⟨rfl,hh⟩; have hh:=hh.symm; subst hh)
      |(go_at_call 94; refine HR.out.mono ?_; rintro e w2 ⟨rfl,ht⟩; have HT2:=hid ht; clear ht)
      |(go_at_call 92; refine HD.out.mono ?_; rintro e w1 ⟨rfl,hh⟩; have hh:=hh.symm; subst hh)
      |(go_at_call 93; refine HON.out.mono ?_; rintro e w1 ⟨rfl,hh⟩; have hh:=hh.symm; subst hh))
     go_ret
     exact ⟨by rw [HW.out]; rfl,HG3.out⟩
    ·have HW:=hid (show wholeE A s K 0 li lo = 0 by unfold wholeE; rw [if_neg h0,if_neg (by simp),if_neg (by simp [hr]),if_neg hf])
     clear S hk hkF hi ho h0 hr
     go_enter Tryz.func47,Tryz.ntmps47
     go_wp2_with (first
      |(go_at_call 29; refine (K_any (HKD.out.touch HT3.out HN3.out)).mono ?_; rintro e w4 ⟨rfl,hh⟩; have hh:=hh.symm; subst hh)
      |(go_at_call 96; refine (free_s (HS.out.quiet HT2.out)).mono ?_; rintro e w3 ⟨rfl,hw3⟩; have HG3:=hid (Went.pre HT2.out hw3 (G':=[]) (by simp)); obtain ⟨F3,S3,t3,f3⟩:=HG3.out; have HT3:=hid t3; have HN3:=hid (show kb ∉ [] ++ F by simpa using HKF.out); clear hw3 S3 t3 f3)
      |(go_at_call 95; refine (Purse_any (HKD.out.touch HT2.out (by simp))).mono ?_; rintro e w3 ⟨rfl,hh⟩; have hh:=hh.symm; subst hh)
      |(go_at_call 94; refine HR.out.mono ?_; rintro e w2 ⟨rfl,ht⟩; have HT2:=hid ht; clear ht)
      |(go_at_call 92; refine HD.out.mono ?_; rintro e w1 ⟨rfl,hh⟩; have hh:=hh.symm; subst hh)
      |(go_at_call 93; refine HON.out.mono ?_; rintro e w1 ⟨rfl,hh⟩; have hh:=hh.symm; subst hh))
     go_ret
     exact ⟨by rw [HW.out]; rfl,HG3.out⟩
   ·have HW:=hid (show wholeE A s K 0 li lo = readyE A li lo by unfold wholeE; rw [if_neg h0,if_neg (by simp),if_pos hr])
    clear S hk hkF hi ho h0
    generalize readyE A li lo = er at *
    go_enter Tryz.func47,Tryz.ntmps47
    go_wp2_with (first
     |(go_at_call 94; refine HR.out.mono ?_; rintro e w2 ⟨rfl,ht⟩; have HT2:=hid ht; clear ht)
     |(go_at_call 92; refine HD.out.mono ?_; rintro e w1 ⟨rfl,hh⟩; have hh:=hh.symm; subst hh)
     |(go_at_call 93; refine HON.out.mono ?_; rintro e w1 ⟨rfl,hh⟩; have hh:=hh.symm; subst hh))
    go_ret
    exact ⟨by rw [HW.out]; rfl,Went.quiet HS.out HT2.out⟩
  ·have HW:=hid (show wholeE A s K wrong li lo = wrong by unfold wholeE; rw [if_neg h0,if_pos hw])
   rw [h0'] at HON
   clear S hk hkF hi ho h0
   go_enter Tryz.func47,Tryz.ntmps47
   go_wp2_with (first
    |(go_at_call 92; refine HD.out.mono ?_; rintro e w1 ⟨rfl,hh⟩; have hh:=hh.symm; subst hh)
    |(go_at_call 93; refine HON.out.mono ?_; rintro e w1 ⟨rfl,hh⟩; have hh:=hh.symm; subst hh))
   go_ret
   exact ⟨by rw [HW.out]; rfl,Went.same HS.out⟩
end
end Go.Proofs.YthehcjjckabljaaGreatDoor
namespace Go.Proofs.YthehcjjckabljaaGreatDoor.Nm
open Go.RowKit Go.Deep
set_option maxRecDepth 100000
theorem hid {q:Prop} (h:q):Hid q:=h
def Tz (W:World):Prop:=W.cell? ⟨16,15,none⟩ = some (.int .u8 4) ∧ 16 < W.heap.size
theorem Tz.on {w W:World} (h:Tz w) (hb:Below w.heap.size w W):Tz W:=
 ⟨(hb.cell (p:=⟨16,15,none⟩) h.2).trans h.1,Nat.lt_of_lt_of_le h.2 hb.size⟩
set_option maxHeartbeats 1000000 in
theorem tz64 (w:World) (h:Tz w):Calls Tryz.prog 240 #[.int .u64 16] w fun e w'=>e = .returned (.int .i64 4) ∧ w' = w:=by
 have h1:=h.1
 have e1:IntKind.u64.wrap (-16) = 18446744073709551600:=by decide +kernel
 have e2:bits BinOp.and IntKind.u64 16 18446744073709551600 = 16:=by decide +kernel
 have e3:IntKind.u64.wrap (16 * 285870213051353865) = 4573923408821661840:=by decide +kernel
 go_enter Tryz.func240,Tryz.ntmps240
 go_wp2
 go_ret
 exact ⟨rfl,rfl⟩
theorem tz (w:World) (h:Tz w):Calls Tryz.prog 211 #[.int .u64 16] w fun e w'=>e = .returned (.int .i64 4) ∧ w' = w:=by
 have h1:=tz64 w h
 go_enter Tryz.func211,Tryz.ntmps211
 go_wp2_with (first | (go_at_call 240; refine h1.mono ?_; rintro e w2 ⟨rfl,rfl⟩))
 go_ret
 exact ⟨rfl,rfl⟩
theorem pow2 (w:World):Calls Tryz.prog 210 #[.int .i64 16] w fun e w'=>e = .returned (.bool true) ∧ w' = w:=by
 go_enter Tryz.func210,Tryz.ntmps210
 go_wp2
 go_ret
 exact ⟨rfl,rfl⟩
end Go.Proofs.YthehcjjckabljaaGreatDoor.Nm
namespace PureHex
def hexC (k:Nat):UInt8:=([48,49,50,51,52,53,54,55,56,57,97,98,99,100,101,102]:List UInt8).getD k 0
def hexN (u:Nat):List UInt8:=if u < 16 then [hexC u] else hexN (u / 16) ++ [hexC (u % 16)]
def hexW:Nat → Nat → List UInt8
 | 0,_=>[]
 | n + 1,u=>hexW n (u / 16) ++ [hexC (u % 16)]
theorem hex_small {u:Nat} (h:u < 16):hexN u = [hexC u]:=by rw [hexN,if_pos h]
theorem hex_big {u:Nat} (h:¬ u < 16):hexN u = hexN (u / 16) ++ [hexC (u % 16)]:=by rw [hexN,if_neg h]
theorem hexW_zero:∀ n,hexW n 0 = List.replicate n 48
 | 0=>rfl
 | n + 1=>by
  rw [hexW,show 0 / 16 = 0 from rfl,hexW_zero n,List.replicate_succ']
  rfl
theorem hexN_len:∀ (n u:Nat),u < 16 ^ (n + 1) → 1 ≤ (hexN u).length ∧ (hexN u).length ≤ n + 1
 | 0,u,h=>by rw [hex_small (by simpa using h)]; simp
 | n + 1,u,h=>by
  by_cases hs:u < 16
  ·rw [hex_small hs]; simp
  ·have:=hexN_len n (u / 16) (Nat.div_lt_of_lt_mul (by rw [Nat.pow_succ,Nat.mul_comm] at h; exact h))
   rw [hex_big hs,List.length_append]
   simp only [List.length_cons,List.length_nil]
   omega
theorem hex_pad:∀ (n u:Nat),u < 16 ^ (n + 1) → List.replicate (n + 1 - (hexN u).length) 48 ++ hexN u = hexW (n + 1) u
 | 0,u,h=>by
  have hs:u < 16:=by simpa using h
  rw [hex_small hs,hexW,hexW,Nat.mod_eq_of_lt hs]
  rfl
 | n + 1,u,h=>by
  by_cases hs:u < 16
  ·rw [hex_small hs,hexW,Nat.div_eq_of_lt hs,hexW_zero,Nat.mod_eq_of_lt hs]
   rfl
  ·have hl:u / 16 < 16 ^ (n + 1):=Nat.div_lt_of_lt_mul (by rw [Nat.pow_succ,Nat.mul_comm] at h; exact h)
   have h1:=hex_pad n (u / 16) hl
   rw [hex_big hs,hexW,← h1,List.length_append,List.append_assoc]
   simp
theorem hexW_len:∀ (n u:Nat),(hexW n u).length = n
 | 0,_=>rfl
 | n + 1,u=>by rw [hexW,List.length_append,hexW_len n]; rfl
def hexT (u k:Nat):List UInt8:=hexW k (u / 16 ^ (16 - k))
theorem hexT_full (u:Nat):hexT u 16 = hexW 16 u:=by unfold hexT; simp
theorem hexT_step (u k:Nat) (hk:k < 16):hexT u (k + 1) = hexT u k ++ [hexC (u / 16 ^ (15 - k) % 16)]:=by
 unfold hexT
 rw [hexW,show 16 - (k + 1) = 15 - k by omega,Nat.div_div_eq_div_mul,← Nat.pow_succ,show (15 - k).succ = 16 - k by omega]
end PureHex
namespace Go.Proofs.YthehcjjckabljaaGreatDoor.Nm
open Go.RowKit Go.Deep PureHex
set_option maxRecDepth 100000
abbrev str (l:List UInt8):Value:=.string ⟨l.toArray⟩
theorem cRw {w:World} {b:Nat} {c:Array Value} {t:TypeId} {fz:Nat × Nat} (h:w.heap[b]? = some (.cells c t fz)) (i:Nat):w.cell? ⟨b,i,none⟩ = c[i]?:=by simp [World.cell?,h]
theorem uRw {w:World} {b:Nat} {c:Array Value} {t:TypeId} (h:w.heap[b]? = some (.cells c t (0,0))) (i:Nat):w.frozen? ⟨b,i,none⟩ = false:=by simp [World.frozen?,h]
theorem row_set {W:World} {b:Nat} {cs:Array Value} {t i:Nat} {u:Value} (hr:W.heap[b]? = some (.cells cs t (0,0))):(W.setCell ⟨b,i,none⟩ u).heap[b]? = some (.cells (cs.setIfInBounds i u) t (0,0)):=by
 have hb:=(Array.getElem?_eq_some_iff.1 hr).1
 simp [World.setCell,Array.getElem?_modify,hr]
structure Hx (u0:Nat) (w:World) (u i:Nat) (D:List UInt8) (W:World):Prop where
 all:hexN u0 = hexN u ++ D
 len:i + D.length = 65
 few:D.length ≤ 15
 lt:u < 16 ^ (16 - D.length)
 row:∃ cs,W.heap[w.heap.size]? = some (.cells cs 296 (0,0)) ∧ cs.size = 65 ∧ ∀ (j:Nat) (x:UInt8),D[j]? = some x → cs[i + j]? = some (.int .u8 x.toNat)
 below:Below w.heap.size w W
theorem mask15 (u:Nat) (hu:u < 18446744073709551616):bits BinOp.and IntKind.u64 (u:Int) 15 = ((u % 16:Nat):Int):=by
 have:=bits_and_u64_nat u 15 hu (by decide)
 rw [show u &&& 15 = u % 16 from Nat.and_two_pow_sub_one_eq_mod u 4] at this
 exact this
theorem len57:Tryz.prog.arrayLen 296 = 65:=by kernel_rfl
theorem dig (m:Nat) (h:m < 16) (hz:m < (⟨#[48,49,50,51,52,53,54,55,56,57,97,98,99,100,101,102,103,104,105,106,107,108,109,110,111,112,113,114,115,116,117,118,119,120,121,122]⟩:ByteArray).size):((⟨#[48,49,50,51,52,53,54,55,56,57,97,98,99,100,101,102,103,104,105,106,107,108,109,110,111,112,113,114,115,116,117,118,119,120,121,122]⟩:ByteArray)[m]'hz) = hexC m:=by
 have key:∀ k:Fin 16,∀ h:k.val < 36,((⟨#[48,49,50,51,52,53,54,55,56,57,97,98,99,100,101,102,103,104,105,106,107,108,109,110,111,112,113,114,115,116,117,118,119,120,121,122]⟩:ByteArray)[k.val]'h) = hexC k.val:=by decide +kernel
 exact key ⟨m,h⟩ hz
theorem slice57 (b k:Nat) (hk:k < 65) (W:World):(Instr.sliceAt 296 (.pointer (some ⟨b,0,none⟩)) (some (.int .i64 (k:Int))) none none).run Tryz.prog W = .ok (.slice (some ⟨b,k,none⟩) (65 - k) (65 - k)) W:=by
 rw [run_sliceAt_array_l W 296 ⟨b,0,none⟩ (by kernel_rfl) .i64 (k:Int) (by omega) (by rw [len57]; omega),len57]
 have hs:(sizeOf (Tryz.prog.elem 296)).run Tryz.prog W = .ok 1 W:=by kernel_rfl
 rw [hs]
 simp only [Result.andThen,slicedAt,Int.toNat_natCast,Nat.mul_one]
 rw [if_neg (by omega)]
 have e:(⟨b,0,none⟩:Addr).add k = ⟨b,k,none⟩:=by
  unfold Addr.add
  split <;> simp_all
 rw [e]
theorem zero57 (w:World):(zeroValue 296).run Tryz.prog w = .ok (.agg (Array.replicate 65 (.int .u8 0))) w:=by kernel_rfl
theorem Hx.start (u0:Nat) (hu:u0 < 18446744073709551616) (w:World):Hx u0 w u0 65 [] (w.alloc (.cells (Array.replicate 65 (.int .u8 0)) 296)):=
 ⟨by simp,rfl,by simp,by simpa using hu,⟨_,heap_alloc_new w _,by simp,by simp⟩,(Below.refl _ _).alloc (Nat.le_refl _) _⟩
theorem Hx.put {u0:Nat} {w W:World} {u i:Nat} {D:List UInt8} (h:Hx u0 w u (i + 1) D W) (x:UInt8) (v:Value) (hv:v = .int .u8 x.toNat) :
  (∃ cs,(W.setCell ⟨w.heap.size,i,none⟩ v).heap[w.heap.size]? = some (.cells cs 296 (0,0)) ∧ cs.size = 65 ∧ ∀ (j:Nat) (y:UInt8),(x :: D)[j]? = some y → cs[i + j]? = some (.int .u8 y.toNat)) ∧ Below w.heap.size w (W.setCell ⟨w.heap.size,i,none⟩ v):=by
 obtain ⟨cs,h1,h2,h3⟩:=h.row
 have hl:=h.len
 refine ⟨⟨_,row_set h1,by simp [h2],fun j y hy=>?_⟩,h.below.setCell (Nat.le_refl _) _⟩
 cases j with
 | zero =>
  obtain rfl:x = y:=by simpa using hy
  rw [Nat.add_zero,Array.getElem?_setIfInBounds_self_of_lt (by omega),hv]
 | succ j =>
  rw [Array.getElem?_setIfInBounds_ne (by omega)]
  have:=h3 j y (by simpa using hy)
  rwa [show i + 1 + j = i + (j + 1) by omega] at this
theorem Hx.step {u0:Nat} {w W:World} {u k:Nat} {D:List UInt8} (h:Hx u0 w u (k + 1) D W) (hs:¬ u < 16) (v:Value) (hv:v = .int .u8 (hexC (u % 16)).toNat):Hx u0 w (u / 16) k (hexC (u % 16) :: D) (W.setCell ⟨w.heap.size,k,none⟩ v):=by
 obtain ⟨p1,p2⟩:=h.put (hexC (u % 16)) v hv
 have hf:=h.few
 have hl:=h.len
 have hlt:=h.lt
 have h2:D.length ≤ 14:=by
  by_cases e:D.length = 15
  ·rw [e] at hlt
   omega
  ·omega
 refine ⟨?_,by simp only [List.length_cons]; omega,by simp only [List.length_cons]; omega,?_,p1,p2⟩
 ·rw [h.all,hex_big hs,List.append_assoc]
  rfl
 ·simp only [List.length_cons]
  refine Nat.div_lt_of_lt_mul ?_
  rw [Nat.mul_comm,← Nat.pow_succ,show (16 - (D.length + 1)).succ = 16 - D.length by omega]
  exact hlt
theorem Hx.text {u0:Nat} {w W:World} {u k:Nat} {D:List UInt8} (h:Hx u0 w u (k + 1) D W) (hs:u < 16) (v:Value) (hv:v = .int .u8 (hexC u).toNat) :
  (convert 118 9 (.slice (some ⟨w.heap.size,k,none⟩) (65 - k) (65 - k))).run Tryz.prog (W.setCell ⟨w.heap.size,k,none⟩ v) = .ok (str (hexN u0)) (W.setCell ⟨w.heap.size,k,none⟩ v) ∧ Below w.heap.size w (W.setCell ⟨w.heap.size,k,none⟩ v):=by
 obtain ⟨⟨cs,p1,p2,p3⟩,p4⟩:=h.put (hexC u) v hv
 have hl:=h.len
 have e:hexN u0 = hexC u :: D:=by rw [h.all,hex_small hs]; rfl
 have el:65 - k = (hexN u0).length:=by rw [e,List.length_cons]; omega
 refine ⟨?_,p4⟩
 rw [el]
 refine run_convert_bytes_back (P:=Tryz.prog) _ 118 9 5 ⟨w.heap.size,k,none⟩ _ (hexN u0) Tryz.underlying118 Tryz.underlying5 Tryz.underlying9 (fun j hj=>?_)
 rw [show (⟨w.heap.size,k,none⟩:Addr).add j = ⟨w.heap.size,k + j,none⟩ by unfold Addr.add; split <;> simp_all,cRw p1]
 exact p3 j _ (by rw [← e]; exact List.getElem?_eq_getElem hj)
set_option maxHeartbeats 4000000 in
theorem bits_any (u0:Nat) (hu:u0 < 18446744073709551616) (w:World) (h:Tz w):Calls Tryz.prog 181 #[.slice none 0 0,.int .u64 u0,.int .i64 16,.bool false,.bool false] w fun e w'=>e = .returned (.tuple #[.slice none 0 0,str (hexN u0)]) ∧ Below w.heap.size w w':=by
 have P2:Hid (∀ W,Calls Tryz.prog 210 #[.int .i64 16] W fun e w'=>e = .returned (.bool true) ∧ w' = W):=fun W=>pow2 W
 have TZ:Hid (∀ W,Below w.heap.size w W → Calls Tryz.prog 211 #[.int .u64 16] W fun e w'=>e = .returned (.int .i64 4) ∧ w' = W):=fun W hb=>tz W (h.on hb)
 have z57:=fun W=>zero57 W
 have H0:=hid (Hx.start u0 hu w)
 obtain ⟨w1,hw1⟩:∃ w1,w1 = w.alloc (.cells (Array.replicate 65 (.int .u8 0)) 296):=⟨_,rfl⟩
 have HW1:=hid hw1
 clear h hw1
 go_enter Tryz.func181,Tryz.ntmps181
 go_wp2_with (first
  |(go_at_call 211; refine Calls.mono (TZ.out _ H0.out.below) ?_; rintro e w2 ⟨rfl,rfl⟩)
  |(go_at_call 210; refine Calls.mono (P2.out _) ?_; rintro e w2 ⟨rfl,rfl⟩))
 go_loopw [1,13] (fun uv iv W=>∃ (u i:Nat) (D:List UInt8),uv = .int .u64 (u:Int) ∧ iv = .int .i64 (i:Int) ∧ Hid (Hx u0 w u i D W)) (fun uv _ _=>(intOf uv).toNat)
 case atStart=>exact ⟨u0,65,[],rfl,rfl,H0⟩
 case round =>
  obtain ⟨u,i,D,rfl,rfl,HR⟩:=hrel
  obtain ⟨cs,r1,r2,r3⟩:=HR.out.row
  have hl:=HR.out.len
  have hf:=HR.out.few
  have hlt:=HR.out.lt
  obtain ⟨k,rfl⟩:∃ k,i = k + 1:=⟨i - 1,by omega⟩
  obtain ⟨x,hx⟩:∃ x,cs[k]? = some x:=⟨_,Array.getElem?_eq_getElem (by omega)⟩
  have c1:=(cRw r1 k).trans hx
  have f1:=uRw r1 k
  have hsz:=(Array.getElem?_eq_some_iff.1 r1).1
  have hu64:u < 18446744073709551616:=Nat.lt_of_lt_of_le hlt (Nat.pow_le_pow_right (by decide) (Nat.sub_le 16 D.length))
  have R2:=hid r2
  have HL:=hid hl
  have hk:k < 65:=by omega
  have al:=len57
  clear r3 hlt r1 r2 hx hl hf
  have SL:∀ W,(Instr.sliceAt 296 (.pointer (some ⟨w.heap.size,0,none⟩)) (some (.int .i64 (k:Int))) none none).run Tryz.prog W = .ok (.slice (some ⟨w.heap.size,k,none⟩) (65 - k) (65 - k)) W:=fun W=>slice57 w.heap.size k hk W
  by_cases hs:u < 16
  ·have cv:=HR.out.text hs (.int .u8 (((⟨#[48,49,50,51,52,53,54,55,56,57,97,98,99,100,101,102,103,104,105,106,107,108,109,110,111,112,113,114,115,116,117,118,119,120,121,122]⟩:ByteArray)[u]'(show u < 36 by omega)).toNat:Int)) (by rw [dig u hs])
   obtain ⟨cv1,cv2⟩:=cv
   have CV2:=hid cv2
   clear z57 cv2
   go_wp2
   refine bodyPost_ret (results_tmp2 rfl _ _ _) rfl ?_
   exact ⟨rfl,CV2.out⟩
  ·have hm:=mask15 u hu64
   have hm2:u % 16 < 16:=Nat.mod_lt _ (by decide)
   clear z57 SL
   obtain ⟨m,hm3⟩:∃ m,m = u % 16:=⟨_,rfl⟩
   rw [← hm3] at hm hm2
   have HM3:=hid hm3
   clear hm3
   go_wp2
   refine ⟨⟨u / 16,k,_,by go_num,rfl,hid (HR.out.step hs _ ?_)⟩,by simp [intOf]; omega⟩
   rw [← HM3.out,dig m hm2]
set_option maxHeartbeats 1000000 in
theorem format12 (u:Nat) (hu:u < 18446744073709551616) (w:World) (h:Tz w):Calls Tryz.prog 130 #[.int .u64 u,.int .i64 16] w fun e w'=>e = .returned (str (hexN u)) ∧ Below w.heap.size w w':=by
 have B:=hid (bits_any u hu w h)
 clear h
 go_enter Tryz.func130,Tryz.ntmps130
 go_wp2_with (first | (go_at_call 181; refine B.out.mono ?_; rintro e w2 ⟨rfl,b2⟩; have B2:=hid b2; clear b2))
 go_ret
 exact ⟨rfl,B2.out⟩
theorem format10 (u:Nat) (hu:u < 18446744073709551616) (w:World) (h:Tz w):Calls Tryz.prog 83 #[.int .u64 u,.int .i64 16] w fun e w'=>e = .returned (str (hexN u)) ∧ Below w.heap.size w w':=by
 have B:=hid (format12 u hu w h)
 clear h
 go_enter Tryz.func83,Tryz.ntmps83
 go_wp2_with (first | (go_at_call 130; refine B.out.mono ?_; rintro e w2 ⟨rfl,b2⟩; have B2:=hid b2; clear b2))
 go_ret
 exact ⟨rfl,B2.out⟩
end Go.Proofs.YthehcjjckabljaaGreatDoor.Nm
namespace Go.Proofs
open Go.Shelf
def Tryz.lays105_ren:Go.Shelf.Ren:=⟨fun | 105=>84 | 212=>131 | 99=>132 | 165=>133 | 166=>134 | 170=>135 | 169=>136 | 263=>182 | 264=>183 | 206=>184 | 240=>185 | 241=>186 | 276=>212 | 277=>213 | n=>n,fun | 9=>9 | 3=>3 | 4=>4 | 20=>20 | 0=>0 | 46=>205 | 109=>206 | 5=>5 | 72=>211 | 76=>212 | 51=>146 | 146=>264 | 53=>24 | 148=>266 | 70=>209 | 37=>118 | 75=>86 | 127=>268 | 164=>247 | 80=>214 | n=>n,fun | n=>n⟩
theorem Tryz.lays105:Go.Proofs.Lays.n105 Tryz.prog Tryz.lays105_ren:={
 mixed:=by kernel_rfl
 f99:=Tryz.func132.trans (congrArg some (by kernel_rfl))
 f105:=Tryz.func84.trans (congrArg some (by kernel_rfl))
 f165:=Tryz.func133.trans (congrArg some (by kernel_rfl))
 f166:=Tryz.func134.trans (congrArg some (by kernel_rfl))
 f169:=Tryz.func136.trans (congrArg some (by kernel_rfl))
 f170:=Tryz.func135.trans (congrArg some (by kernel_rfl))
 f206:=Tryz.func184.trans (congrArg some (by kernel_rfl))
 f212:=Tryz.func131.trans (congrArg some (by kernel_rfl))
 f240:=Tryz.func185.trans (congrArg some (by kernel_rfl))
 f241:=Tryz.func186.trans (congrArg some (by kernel_rfl))
 f263:=Tryz.func182.trans (congrArg some (by kernel_rfl))
 f264:=Tryz.func183.trans (congrArg some (by kernel_rfl))
 f276:=Tryz.func212.trans (congrArg some (by kernel_rfl))
 f277:=Tryz.func213.trans (congrArg some (by kernel_rfl))
 t0:=Tryz.underlying0
 a0:=Tryz.isAgg0
 z0:=Tryz.sizeOf0
 v0:=Tryz.zeroValue0
 t3:=Tryz.underlying3
 a3:=Tryz.isAgg3
 z3:=Tryz.sizeOf3
 v3:=Tryz.zeroValue3
 t4:=Tryz.underlying4
 a4:=Tryz.isAgg4
 z4:=Tryz.sizeOf4
 v4:=Tryz.zeroValue4
 t5:=Tryz.underlying5
 a5:=Tryz.isAgg5
 z5:=Tryz.sizeOf5
 v5:=Tryz.zeroValue5
 t9:=Tryz.underlying9
 a9:=Tryz.isAgg9
 z9:=Tryz.sizeOf9
 v9:=Tryz.zeroValue9
 t20:=Tryz.underlying20
 a20:=Tryz.isAgg20
 z20:=Tryz.sizeOf20
 v20:=Tryz.zeroValue20
 t37:=Tryz.underlying118
 a37:=Tryz.isAgg118
 z37:=Tryz.sizeOf118
 v37:=Tryz.zeroValue118
 t46:=Tryz.underlying205
 a46:=Tryz.isAgg205
 z46:=Tryz.sizeOf205
 v46:=Tryz.zeroValue205
 t51:=Tryz.underlying146
 a51:=Tryz.isAgg146
 z51:=Tryz.sizeOf146
 v51:=Tryz.zeroValue146
 t53:=Tryz.underlying24
 a53:=Tryz.isAgg24
 z53:=Tryz.sizeOf24
 v53:=Tryz.zeroValue24
 t70:=Tryz.underlying209
 a70:=Tryz.isAgg209
 z70:=Tryz.sizeOf209
 v70:=Tryz.zeroValue209
 t72:=Tryz.underlying211
 a72:=Tryz.isAgg211
 z72:=Tryz.sizeOf211
 v72:=Tryz.zeroValue211
 t75:=Tryz.underlying86
 a75:=Tryz.isAgg86
 z75:=Tryz.sizeOf86
 v75:=Tryz.zeroValue86
 t76:=Tryz.underlying212
 a76:=Tryz.isAgg212
 z76:=Tryz.sizeOf212
 v76:=Tryz.zeroValue212
 t109:=Tryz.underlying206
 a109:=Tryz.isAgg206
 z109:=Tryz.sizeOf206
 v109:=Tryz.zeroValue206
 t127:=Tryz.underlying268
 a127:=Tryz.isAgg268
 z127:=Tryz.sizeOf268
 v127:=Tryz.zeroValue268
 t146:=Tryz.underlying264
 a146:=Tryz.isAgg264
 z146:=Tryz.sizeOf264
 v146:=Tryz.zeroValue264
 t148:=Tryz.underlying266
 a148:=Tryz.isAgg266
 z148:=Tryz.sizeOf266
 v148:=Tryz.zeroValue266
 t164:=Tryz.underlying247
 a164:=Tryz.isAgg247
 z164:=Tryz.sizeOf247
 v164:=Tryz.zeroValue247 }
theorem Tryz.Builder_Extra_105:Builder.Extra Tryz.prog Tryz.lays105_ren:={
 sizeBuilder:=by kernel_rfl
 liesBuilder:=by kernel_rfl
 t5:=Tryz.underlying5
 a5:=Tryz.isAgg5
 z5:=Tryz.sizeOf5
 v5:=Tryz.zeroValue5
 infoByte:=by kernel_rfl
 cellsByte:=by kernel_rfl
 sizeByte:=by kernel_rfl
 neB5:=by decide }
open Go.RowKit Go.Lib in
theorem Tryz.strings_Repeat (s:ByteArray) (c:Nat) (w:World) (hc:c ≤ 9223372036854775807) (hlen:s.size * c ≤ 140737488355328) :
  Calls Tryz.prog 84 #[.string s,.int .i64 c] w fun e w'=>e = .returned (.string ⟨(Lib.repeatL s.data.toList c).toArray⟩) ∧ Below w.heap.size w w':=Any.strings_Repeat Tryz.lays105 Tryz.Builder_Extra_105 s c w hc hlen
end Go.Proofs
namespace Go.Proofs.YthehcjjckabljaaGreatDoor.Nm
open Go.RowKit Go.Deep PureHex
set_option maxRecDepth 100000
theorem str_add (a b:List UInt8):(⟨a.toArray⟩:ByteArray) ++ ⟨b.toArray⟩ = ⟨(a ++ b).toArray⟩:=by
 apply ByteArray.ext
 simp
theorem repeat_zeros (c:Nat):Lib.repeatL [48] c = List.replicate c 48:=by
 induction c with
 | zero=>rfl
 | succ c ih=>rw [Lib.repeatL,ih]; rfl
theorem pad_any (x:Int) (c:Nat) (hx:x = (c:Int)) (hc:c ≤ 16) (W:World):Calls Tryz.prog 84 #[.string ⟨#[48]⟩,.int .i64 x] W fun e w'=>e = .returned (str (List.replicate c 48)) ∧ Below W.heap.size W w':=by
 subst hx
 have h:=Tryz.strings_Repeat ⟨#[48]⟩ c W (by omega) (by show 1 * c ≤ _; omega)
 rw [← repeat_zeros]
 exact h
set_option maxHeartbeats 1000000 in
theorem padded_any (u:Nat) (hu:u < 18446744073709551616) (w:World) (h:Tz w):Calls Tryz.prog 41 #[.int .u64 u] w fun e w'=>e = .returned (str (hexW 16 u)) ∧ Below w.heap.size w w':=by
 have B:=hid (format10 u hu w h)
 have hl:=hexN_len 15 u hu
 have hp:=hid (hex_pad 15 u hu)
 obtain ⟨s,hs⟩:∃ s,s = hexN u:=⟨_,rfl⟩
 rw [← hs] at B hl hp
 clear hs h
 have hsz:(⟨s.toArray⟩:ByteArray).size = s.length:=rfl
 have HP:Hid (∀ W,Calls Tryz.prog 84 #[.string ⟨#[48]⟩,.int .i64 (16 - (s.length:Int))] W fun e w'=>e = .returned (str (List.replicate (16 - s.length) 48)) ∧ Below W.heap.size W w'):=fun W=>pad_any _ _ (by omega) (by omega) W
 go_enter Tryz.func41,Tryz.ntmps41
 go_wp2_with (first
  |(go_at_call 84; refine Calls.mono (HP.out _) ?_; rintro e w3 ⟨rfl,b3⟩; have B3:=hid b3; clear b3)
  |(go_at_call 83; refine B.out.mono ?_; rintro e w2 ⟨rfl,b2⟩; have B2:=hid b2; clear b2))
 go_ret
 refine ⟨?_,B2.out.trans (B3.out.mono B2.out.size)⟩
 exact congrArg (fun b=>Ending.returned (Value.string b)) ((str_add (List.replicate (16 - s.length) 48) s).trans (congrArg (fun l:List UInt8=>(⟨l.toArray⟩:ByteArray)) hp.out))
set_option maxHeartbeats 1000000 in
theorem file_any (u:Nat) (hu:u < 18446744073709551616) (w:World) (h:Tz w):Calls Tryz.prog 16 #[.int .u64 u] w fun e w'=>e = .returned (str ([100,100,45] ++ hexW 16 u)) ∧ Below w.heap.size w w':=by
 have B:=hid (padded_any u hu w h)
 have hl:=hexW_len 16 u
 obtain ⟨s,hs⟩:∃ s,s = hexW 16 u:=⟨_,rfl⟩
 rw [← hs] at B hl ⊢
 have hsz:(⟨s.toArray⟩:ByteArray).size = 16:=hl
 clear hs h hl
 go_enter Tryz.func16,Tryz.ntmps16
 go_wp2_with (first
  |(go_at_call 41; refine B.out.mono ?_; rintro e w2 ⟨rfl,b2⟩; have B2:=hid b2; clear b2))
 go_ret
 exact ⟨congrArg (fun b=>Ending.returned (Value.string b)) (str_add [100,100,45] s),B2.out⟩
set_option maxHeartbeats 1000000 in
theorem name_any (u:Nat) (hu:u < 18446744073709551616) (w:World) (h:Tz w):Calls Tryz.prog 22 #[.int .u64 u] w fun e w'=>e = .returned (str ([99,97,116,45] ++ hexW 16 u)) ∧ Below w.heap.size w w':=by
 have B:=hid (padded_any u hu w h)
 have hl:=hexW_len 16 u
 obtain ⟨s,hs⟩:∃ s,s = hexW 16 u:=⟨_,rfl⟩
 rw [← hs] at B hl ⊢
 have hsz:(⟨s.toArray⟩:ByteArray).size = 16:=hl
 clear hs h hl
 go_enter Tryz.func22,Tryz.ntmps22
 go_wp2_with (first
  |(go_at_call 41; refine B.out.mono ?_; rintro e w2 ⟨rfl,b2⟩; have B2:=hid b2; clear b2))
 go_ret
 exact ⟨congrArg (fun b=>Ending.returned (Value.string b)) (str_add [99,97,116,45] s),B2.out⟩
end Go.Proofs.YthehcjjckabljaaGreatDoor.Nm
namespace Go.Proofs.YthehcjjckabljaaGreatDoor
open Go.RowKit Go.Deep
set_option maxRecDepth 100000
set_option linter.unusedSimpArgs false
set_option linter.unusedVariables false
def digH (m:Nat):Nat:=if 48 ≤ m ∧ m ≤ 57 then m - 48 else if 97 ≤ (m ||| 32) ∧ (m ||| 32) ≤ 122 then (m ||| 32) - 97 + 10 else 36
def parH:Nat → List UInt8 → Nat × Nat
 | n,[]=>(n,0)
 | n,c :: r=>if 16 ≤ digH c.toNat then (0,2) else if 1152921504606846976 ≤ n then (18446744073709551615,1) else parH (n * 16 + digH c.toNat) r
def parU (l:List UInt8):Nat × Nat:=if l = [] then (0,2) else parH 0 l
def errI (k:Nat):Value:=if k = 0 then .nilIface else .iface 312 (.int .i64 (k:Int))
theorem parH_dig {n:Nat} {c:UInt8} {r:List UInt8} (h:16 ≤ digH c.toNat):parH n (c :: r) = (0,2):=by
 show (if 16 ≤ digH c.toNat then _ else _) = _
 rw [if_pos h]
theorem parH_big {n:Nat} {c:UInt8} {r:List UInt8} (h:¬ 16 ≤ digH c.toNat) (h2:1152921504606846976 ≤ n):parH n (c :: r) = (18446744073709551615,1):=by
 show (if 16 ≤ digH c.toNat then _ else _) = _
 rw [if_neg h,if_pos h2]
theorem parH_on {n:Nat} {c:UInt8} {r:List UInt8} (h:¬ 16 ≤ digH c.toNat) (h2:¬ 1152921504606846976 ≤ n):parH n (c :: r) = parH (n * 16 + digH c.toNat) r:=by
 show (if 16 ≤ digH c.toNat then _ else _) = _
 rw [if_neg h,if_neg h2]
theorem lower_any (m:Nat) (hm:m < 256) (w:World):Calls Tryz.prog 232 #[.int .u8 (m:Int)] w fun e w'=>e = .returned (.int .u8 ((m ||| 32:Nat):Int)) ∧ w' = w:=by
 have h:bits BinOp.or IntKind.u8 (m:Int) 32 = ((m ||| 32:Nat):Int):=u8_or_nat m 32 hm (by decide)
 go_enter Tryz.func232,Tryz.ntmps232
 go_wp2
 go_ret
 exact ⟨rfl,rfl⟩
set_option maxHeartbeats 4000000 in
theorem parse_in (l:List UInt8) (hl:l.length ≤ 1048576) (w:World) :
  Calls Tryz.prog 194 #[.string ⟨l.toArray⟩,.int .i64 16,.int .i64 64] w fun e w'=>e = .returned (.tuple #[.int .u64 ((parU l).1:Int),errI (parU l).2]) ∧ Tc [] w w':=by
 by_cases h0:l = []
 ·subst h0
  go_enter Tryz.func194,Tryz.ntmps194
  go_wp2
  exact bodyPost_ret (v:=.tuple #[.int .u64 0,.iface 312 (.int .i64 2)]) (by simp [results,Tryz.results194,go_sem]) rfl ⟨rfl,Tc.refl _ _⟩
 ·have hp:parU l = parH 0 l:=by unfold parU; rw [if_neg h0]
  rw [hp]
  obtain ⟨R,hR⟩:∃ R,R = parH 0 l:=⟨_,rfl⟩
  rw [← hR]
  have HR:=hid hR
  have hne2:¬ (⟨l.toArray⟩:ByteArray) = ⟨#[]⟩:=by
   intro h
   exact h0 (by have:=congrArg (fun b:ByteArray=>b.data.toList) h; simpa using this)
  have hpos:0 < l.length:=List.length_pos_iff.2 h0
  have hcv:=fun W=>Lib.run_convert_string_bytes (P:=Tryz.prog) W 9 118 5 ⟨l.toArray⟩ Tryz.underlying9 Tryz.underlying118 Tryz.underlying5
  have hmx:IntKind.u64.wrap (IntKind.u64.wrap 18446744073709551616 - 1) = 18446744073709551615:=by decide
  have hem:l.isEmpty = false:=by cases l with | nil=>exact absurd rfl h0 | cons=>rfl
  obtain ⟨Wb,hWb⟩:∃ Wb,Wb = Lib.bytesWorld w 5 ⟨l.toArray⟩:=⟨_,rfl⟩
  have hsz:(⟨l.toArray⟩:ByteArray).size = l.length:=by simp [ByteArray.size]
  have hcl:∀ j (hj:j < l.length),Wb.cell? ⟨w.heap.size,j,none⟩ = some (.int .u8 (l[j].toNat:Int)):=fun j hj=>by
   rw [hWb,Lib.bytesWorld_cell w 5 _ j (by rw [hsz]; exact hj)]
   simp [hj]
  have ht:Tc [] w Wb:=by rw [hWb]; exact Tc.of_below (Lib.bytesWorld_below w 5 _) (Nat.le_refl _)
  obtain ⟨cc,hcc,hccl⟩:∃ cc,cc = grownCap w l.length 0 5 ∧ True:=⟨_,rfl,trivial⟩
  have hcvw:(convert 9 118 (.string ⟨l.toArray⟩)).run Tryz.prog w = .ok (.slice (some ⟨w.heap.size,0,none⟩) l.length cc) Wb:=by
   rw [hcv w,← hWb,hsz,← hcc]
  have HT:=hid ht
  have HC:=hid hcl
  clear hp hR hcv hWb hcc ht hcl hne2
  go_enter Tryz.func194,Tryz.ntmps194
  go_wp2_with fail
  go_loopw [12,13,101] (fun u n i W=>∃ (j m:Nat),u = .bool false ∧ i = .int .i64 j ∧ n = .int .u64 (m:Int) ∧ j ≤ l.length ∧ m < 18446744073709551616 ∧ Hid (parH m (l.drop j) = R) ∧ W = Wb) (fun _ _ i _=>l.length - (intOf i).toNat)
  case atStart=>exact ⟨0,0,rfl,rfl,rfl,Nat.zero_le _,by omega,hid HR.out.symm,rfl⟩
  case round =>
   obtain ⟨j,m,rfl,rfl,rfl,hj,hm,hP,rfl⟩:=hrel
   by_cases hjl:j < l.length
   ·have hcell:=HC.out j hjl
    have hPc:Hid (parH m (l[j] :: l.drop (j + 1)) = R):=hid (by have:=hP.out; rw [List.drop_eq_getElem_cons hjl] at this; exact this)
    obtain ⟨c,hc⟩:∃ c,c = l[j]:=⟨_,rfl⟩
    rw [← hc] at hPc hcell
    have hcb:c.toNat < 256:=c.toNat_lt
    have HLW:=hid (fun W=>lower_any c.toNat hcb W)
    obtain ⟨lw,hlw⟩:∃ lw,lw = c.toNat ||| 32:=⟨_,rfl⟩
    rw [← hlw] at HLW
    have hlwb:lw < 256:=by rw [hlw]; exact Nat.or_lt_two_pow (n:=8) hcb (by decide)
    have hdef:digH c.toNat = if 48 ≤ c.toNat ∧ c.toNat ≤ 57 then c.toNat - 48 else if 97 ≤ lw ∧ lw ≤ 122 then lw - 97 + 10 else 36:=by unfold digH; rw [← hlw]
    have HD:=hid hdef
    have h95:c.toNat = 95 → lw = 127:=fun h=>by rw [hlw,h]; decide
    have H95:=hid h95
    have HA:Hid (16 ≤ digH c.toNat → R = (0,2)):=hid (fun h=>by have:=hPc.out; rw [parH_dig h] at this; exact this.symm)
    have HBg:Hid (¬ 16 ≤ digH c.toNat → 1152921504606846976 ≤ m → R = (18446744073709551615,1)):=hid (fun h h2=>by have:=hPc.out; rw [parH_big h h2] at this; exact this.symm)
    have HOn:Hid (¬ 16 ≤ digH c.toNat → ¬ 1152921504606846976 ≤ m → parH (m * 16 + digH c.toNat) (l.drop (j + 1)) = R):=hid (fun h h2=>by have:=hPc.out; rw [parH_on h h2] at this; exact this)
    clear hPc hlw hdef h95 hc hP
    generalize c.toNat = q at *
    rcases (show (48 ≤ q ∧ q ≤ 57) ∨ (¬ (48 ≤ q ∧ q ≤ 57) ∧ 97 ≤ lw ∧ lw ≤ 102) ∨ (¬ (48 ≤ q ∧ q ≤ 57) ∧ 103 ≤ lw ∧ lw ≤ 122) ∨ (¬ (48 ≤ q ∧ q ≤ 57) ∧ ¬ (97 ≤ lw ∧ lw ≤ 122)) by omega) with h | ⟨h,h2⟩ | ⟨h,h2⟩ | ⟨h,h2⟩
    ·have hq1:(48:Int) ≤ (q:Int):=by omega
     have hq2:(q:Int) ≤ 57:=by omega
     by_cases hmb:1152921504606846976 ≤ m
     ·have hmi:(1152921504606846976:Int) ≤ (m:Int):=by omega
      go_wp2_with (go_at_call 232; refine (HLW.out _).mono ?_; rintro e w1 ⟨rfl,hh⟩; have hh:=hh.symm; subst hh)
      exact bodyPost_ret (v:=.tuple #[.int .u64 18446744073709551615,.iface 312 (.int .i64 1)]) (by simp [results,Tryz.results194,go_sem]) rfl ⟨by rw [HBg.out (by have:=HD.out; rw [this]; (rw [if_pos h]; omega)) hmb]; rfl,HT.out⟩
     ·have hmi:¬ (1152921504606846976:Int) ≤ (m:Int):=by omega
      have hd:=hid (show digH q = q - 48 by have:=HD.out; rw [this,if_pos h])
      have HO2:=HOn.out (by have:=HD.out; rw [this]; (rw [if_pos h]; omega)) hmb
      rw [hd.out] at HO2
      have HO3:=hid HO2
      clear HO2
      go_wp2_with (go_at_call 232; refine (HLW.out _).mono ?_; rintro e w1 ⟨rfl,hh⟩; have hh:=hh.symm; subst hh)
      refine ⟨⟨j + 1,m * 16 + (q - 48),rfl,rfl,?_,by omega,by omega,HO3,by first | rfl | trivial⟩,by simp [intOf]; omega⟩
      exact congrArg (Value.int .u64) (by omega)
    ·have h95n:q ≠ 95:=fun e=>by have:=H95.out e; omega
     have hq95:¬ (q:Int) = 95:=by omega
     have hl1:(97:Int) ≤ (lw:Int):=by omega
     have hl2:(lw:Int) ≤ 122:=by omega
     have hw1:IntKind.u8.wrap ((lw:Int) - 97) = (lw:Int) - 97:=by rw [IntKind.wrap_u8']; omega
     obtain ⟨dd,hdd⟩:∃ dd,dd = lw - 97 + 10:=⟨_,rfl⟩
     have hw2:IntKind.u8.wrap ((lw:Int) - 97 + 10) = (dd:Int):=by rw [IntKind.wrap_u8']; omega
     have hd16:¬ (16:Int) ≤ (dd:Int):=by omega
     have hd17:dd < 16:=by omega
     rw [← hdd] at HD
     have HDD:=hid hdd
     clear hdd
     rcases (show q < 48 ∨ 57 < q by omega) with hq | hq
     ·have hq1:¬ (48:Int) ≤ (q:Int):=by omega
      by_cases hmb:1152921504606846976 ≤ m
      ·have hmi:(1152921504606846976:Int) ≤ (m:Int):=by omega
       go_wp2_with (go_at_call 232; refine (HLW.out _).mono ?_; rintro e w1 ⟨rfl,hh⟩; have hh:=hh.symm; subst hh)
       exact bodyPost_ret (v:=.tuple #[.int .u64 18446744073709551615,.iface 312 (.int .i64 1)]) (by simp [results,Tryz.results194,go_sem]) rfl ⟨by rw [HBg.out (by have:=HD.out; rw [this,if_neg h,if_pos ⟨by omega,by omega⟩]; omega) hmb]; rfl,HT.out⟩
      ·have hmi:¬ (1152921504606846976:Int) ≤ (m:Int):=by omega
       have hd:=hid (show digH q = dd by have:=HD.out; rw [this,if_neg h,if_pos ⟨by omega,by omega⟩])
       have HO2:=HOn.out (by have:=HD.out; rw [this,if_neg h,if_pos ⟨by omega,by omega⟩]; omega) hmb
       rw [hd.out] at HO2
       have HO3:=hid HO2
       have HMB:=hid hmb
       clear HO2 h h2 h95n hq HBg HOn HA H95 hmi hmb
       go_upto_region 48 with (go_at_call 232; refine (HLW.out _).mono ?_; rintro e w1 ⟨rfl,hh⟩; have hh:=hh.symm; subst hh)
       have hmb:=HMB.out
       have hmi:¬ (1152921504606846976:Int) ≤ (m:Int):=by omega
       go_wp2_with fail
       refine ⟨⟨j + 1,m * 16 + (dd),rfl,rfl,?_,by omega,by omega,HO3,by first | rfl | trivial⟩,by simp [intOf]; omega⟩
       exact congrArg (Value.int .u64) (by omega)
     ·have hq1:(48:Int) ≤ (q:Int):=by omega
      have hq2:¬ (q:Int) ≤ 57:=by omega
      by_cases hmb:1152921504606846976 ≤ m
      ·have hmi:(1152921504606846976:Int) ≤ (m:Int):=by omega
       go_wp2_with (go_at_call 232; refine (HLW.out _).mono ?_; rintro e w1 ⟨rfl,hh⟩; have hh:=hh.symm; subst hh)
       exact bodyPost_ret (v:=.tuple #[.int .u64 18446744073709551615,.iface 312 (.int .i64 1)]) (by simp [results,Tryz.results194,go_sem]) rfl ⟨by rw [HBg.out (by have:=HD.out; rw [this,if_neg h,if_pos ⟨by omega,by omega⟩]; omega) hmb]; rfl,HT.out⟩
      ·have hmi:¬ (1152921504606846976:Int) ≤ (m:Int):=by omega
       have hd:=hid (show digH q = dd by have:=HD.out; rw [this,if_neg h,if_pos ⟨by omega,by omega⟩])
       have HO2:=HOn.out (by have:=HD.out; rw [this,if_neg h,if_pos ⟨by omega,by omega⟩]; omega) hmb
       rw [hd.out] at HO2
       have HO3:=hid HO2
       have HMB:=hid hmb
       clear HO2 h h2 h95n hq HBg HOn HA H95 hmi hmb
       go_upto_region 48 with (go_at_call 232; refine (HLW.out _).mono ?_; rintro e w1 ⟨rfl,hh⟩; have hh:=hh.symm; subst hh)
       have hmb:=HMB.out
       have hmi:¬ (1152921504606846976:Int) ≤ (m:Int):=by omega
       go_wp2_with fail
       refine ⟨⟨j + 1,m * 16 + (dd),rfl,rfl,?_,by omega,by omega,HO3,by first | rfl | trivial⟩,by simp [intOf]; omega⟩
       exact congrArg (Value.int .u64) (by omega)
    ·have h95n:q ≠ 95:=fun e=>by have:=H95.out e; omega
     have hq95:¬ (q:Int) = 95:=by omega
     have hl1:(97:Int) ≤ (lw:Int):=by omega
     have hl2:(lw:Int) ≤ 122:=by omega
     rcases (show q < 48 ∨ 57 < q by omega) with hq | hq
     ·have hq1:¬ (48:Int) ≤ (q:Int):=by omega
      go_wp2_with (go_at_call 232; refine (HLW.out _).mono ?_; rintro e w1 ⟨rfl,hh⟩; have hh:=hh.symm; subst hh)
      exact bodyPost_ret (v:=.tuple #[.int .u64 0,.iface 312 (.int .i64 2)]) (by simp [results,Tryz.results194,go_sem]) rfl ⟨by rw [HA.out (by have:=HD.out; rw [this,if_neg h,if_pos ⟨by omega,by omega⟩]; omega)]; rfl,HT.out⟩
     ·have hq1:(48:Int) ≤ (q:Int):=by omega
      have hq2:¬ (q:Int) ≤ 57:=by omega
      go_wp2_with (go_at_call 232; refine (HLW.out _).mono ?_; rintro e w1 ⟨rfl,hh⟩; have hh:=hh.symm; subst hh)
      exact bodyPost_ret (v:=.tuple #[.int .u64 0,.iface 312 (.int .i64 2)]) (by simp [results,Tryz.results194,go_sem]) rfl ⟨by rw [HA.out (by have:=HD.out; rw [this,if_neg h,if_pos ⟨by omega,by omega⟩]; omega)]; rfl,HT.out⟩
    ·have hsy:16 ≤ digH q:=by have:=HD.out; rw [this,if_neg h,if_neg h2]; omega
     have hR0:=hid (HA.out hsy)
     by_cases h95n:q = 95
     ·have hlw7:=H95.out h95n
      subst h95n
      subst hlw7
      clear h h2
      go_wp2_with (go_at_call 232; refine (HLW.out _).mono ?_; rintro e w1 ⟨rfl,hh⟩; have hh:=hh.symm; subst hh)
      exact bodyPost_ret (v:=.tuple #[.int .u64 0,.iface 312 (.int .i64 2)]) (by simp [results,Tryz.results194,go_sem]) rfl ⟨by rw [hR0.out]; rfl,HT.out⟩
     ·have hq95:¬ (q:Int) = 95:=by omega
      have hlq:(¬ (97:Int) ≤ (lw:Int)) ∨ ((97:Int) ≤ (lw:Int) ∧ ¬ (lw:Int) ≤ 122):=by omega
      have hqq:(¬ (48:Int) ≤ (q:Int)) ∨ ((48:Int) ≤ (q:Int) ∧ ¬ (q:Int) ≤ 57):=by omega
      clear h h2
      rcases hqq with hq1 | ⟨hq1,hq2⟩ <;> rcases hlq with hl1 | ⟨hl1,hl2⟩
      all_goals
       go_wp2_with (go_at_call 232; refine (HLW.out _).mono ?_; rintro e w1 ⟨rfl,hh⟩; have hh:=hh.symm; subst hh)
       exact bodyPost_ret (v:=.tuple #[.int .u64 0,.iface 312 (.int .i64 2)]) (by simp [results,Tryz.results194,go_sem]) rfl ⟨by rw [hR0.out]; rfl,HT.out⟩
   ·obtain rfl:j = l.length:=by omega
    go_wp2_with fail
    exact bodyPost_ret (v:=.tuple #[.int .u64 (m:Int),.nilIface]) (by simp [results,Tryz.results194,go_sem]) rfl ⟨by have:=hP.out; rw [List.drop_length] at this; rw [← this]; rfl,HT.out⟩
end Go.Proofs.YthehcjjckabljaaGreatDoor
