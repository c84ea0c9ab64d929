import Derived.Deep.DeepCutAuto
import Derived.RangeFuncNested
import Derived.RangeFuncBound
import Derived.RangeFuncCalls
import Derived.RangeFuncLeaves
import Derived.TacticsInMore
import Derived.OwnWalkIn
import Derived.Test.YthehcjjckabljaaGreatDoorC15
namespace Go.Proofs.YthehcjjckabljaaGreatDoor
open Go.RowKit Go.Deep
set_option maxRecDepth 100000
set_option linter.unusedSimpArgs false
set_option linter.unusedVariables false
theorem wrap64_range (n:Int):-9223372036854775808 ≤ wrap64 n ∧ wrap64 n < 9223372036854775808:=by
 unfold wrap64
 omega
theorem sgn_range (n:Nat):-9223372036854775808 ≤ sgn n ∧ sgn n < 9223372036854775808:=wrap64_range _
theorem addC (g i j:Nat):(⟨g,i,none⟩:Addr).add j = ⟨g,i + j,none⟩:=by unfold Addr.add; split <;> simp_all
section
variable {w w':World} {base:Nat} {so:Option Addr} {co n:Nat}
theorem ints_of_own {l:List Int} (h:w.ownsRow base 3 1 (.slice so n co) l.length (intC l)):IntsAt w so l ∧ ∀ a,so = some a → base ≤ a.block ∧ a.block < w.heap.size:=by
 rcases h.2 with ⟨h1,h0⟩ | ⟨g,cap,cur,hv,hb,hgg,_⟩
 ·have hl:l = []:=List.eq_nil_of_length_eq_zero h0
  subst hl
  cases h1
  exact ⟨IntsAt.nil _ _,by simp⟩
 ·cases hv
  refine ⟨⟨fun k hk=>⟨_,rfl,ltB hgg,?_⟩⟩,fun a ha=>by cases ha; exact ⟨hb,ltB hgg⟩⟩
  exact h.cells (g:=g) rfl k _ (by simp [intC,hk])
theorem rowC_at {l:List (Int × Nat)} {k:Nat} (hk:k < l.length):(rowC l)[k * 2]? = some (.int .i64 l[k].1) ∧ (rowC l)[k * 2 + 1]? = some (.int .u64 (l[k].2:Int)):=by
 induction l generalizing k with
 | nil=>simp at hk
 | cons x r ih =>
  cases k with
  | zero=>exact ⟨rfl,rfl⟩
  | succ k =>
   have:=ih (k:=k) (by simpa using hk)
   have e:(k + 1) * 2 = k * 2 + 1 + 1:=by omega
   constructor
   ·rw [e]; exact this.1
   ·rw [e]; exact this.2
theorem rows_of_own {l:List (Int × Nat)} (h:w.ownsRow base 45 2 (.slice so n co) l.length (rowC l)):RowsAt w so l ∧ ∀ a,so = some a → base ≤ a.block ∧ a.block < w.heap.size:=by
 rcases h.2 with ⟨h1,h0⟩ | ⟨g,cap,cur,hv,hb,hgg,_⟩
 ·have hl:l = []:=List.eq_nil_of_length_eq_zero h0
  subst hl
  cases h1
  exact ⟨RowsAt.nil _ _,by simp⟩
 ·cases hv
  refine ⟨⟨fun k hk=>⟨_,rfl,ltB hgg,?_,?_⟩⟩,fun a ha=>by cases ha; exact ⟨hb,ltB hgg⟩⟩
  ·have:=h.cells (g:=g) rfl _ _ (rowC_at hk).1
   rw [addC,Nat.zero_add] at this ⊢
   exact this
  ·have:=h.cells (g:=g) rfl _ _ (rowC_at hk).2
   rw [addC,Nat.zero_add] at this ⊢
   exact this
end
theorem Told.Ok.tbl {t:Told} (ho:t.Ok) {w:World} {so sr:Option Addr} (h1:IntsAt w so t.tbl.order) (h2:RowsAt w sr t.tbl.rows):TblAt w t.tbl so sr:=by
 have a1:=ho.lv
 have a2:=ho.le
 have a3:=ho.len
 refine ⟨h1,h2,by simp [Told.tbl]; omega,by simp [Told.tbl]; omega,?_,sgn_range _,ho.fin.2.2.2,?_,?_⟩
 ·show -9223372036854775808 ≤ (t.levels:Int) ∧ (t.levels:Int) < 9223372036854775808
  omega
 ·intro x hx
  obtain ⟨p,_,rfl⟩:=List.mem_map.1 hx
  exact sgn_range _
 ·intro x hx
  obtain ⟨p,hp,rfl⟩:=List.mem_map.1 hx
  exact ⟨sgn_range _,(ho.prs p (List.mem_of_mem_drop hp)).2⟩
abbrev zer5:Array Value:=#[.int .i64 0,.slice none 0 0,.slice none 0 0,.int .i64 0,.int .u64 0]
structure Mid4 (w wx:World) (t:Tbl) (q:Nat):Prop where
 tbl:∃ so sr co cr,wx.heap[q]? = some (.cells (tblC t so sr co cr) 26 (0,0)) ∧ TblAt wx t so sr ∧ (∀ a,so = some a → w.heap.size ≤ a.block ∧ a.block ≠ w.heap.size) ∧ ∀ a,sr = some a → w.heap.size ≤ a.block ∧ a.block ≠ w.heap.size
 touch:Tc [] w wx
 res:wx.heap[w.heap.size]? = some (.cells zer5 26 (0,0))
 ne:q ≠ w.heap.size
theorem box5 {w2:World} {b:Nat} {t:TypeId} {u0 u1 u2 u3 u4:Value} (hr:w2.heap[b]? = some (.cells #[u0,u1,u2,u3,u4] t (0,0))) (v0 v1 v2 v3 v4:Value) :
  ∃ W2,W2 = ((((w2.setCell ⟨b,0,none⟩ v0).setCell ⟨b,1,none⟩ v1).setCell ⟨b,2,none⟩ v2).setCell ⟨b,3,none⟩ v3).setCell ⟨b,4,none⟩ v4 ∧
   W2.heap[b]? = some (.cells #[v0,v1,v2,v3,v4] t (0,0)) ∧ Tc [b] w2 W2:=by
 refine ⟨_,rfl,?_,?_⟩
 ·have h0:=sRw hr 0 v0
  have h1:=sRw h0 1 v1
  have h2:=sRw h1 2 v2
  have h3:=sRw h2 3 v3
  have h4:=sRw h3 4 v4
  simpa using h4
 ·exact (((((Tc.refl [b] w2).setCell (by simp) _).setCell (by simp) _).setCell (by simp) _).setCell (by simp) _).setCell (by simp) _
section
variable {w w':World} {tb:Nat} {gl:List Nat} {t:Told}
theorem mid4_store {W:World} {q:Nat} {tt:Tbl} {vv:Int} (hvv:vv = tt.vars) {so sr:Option Addr} {co cr:Nat} {u0 u1 u2 u3 u4:Value} (HT:Tc [] w W) (HB:W.heap[w.heap.size]? = some (.cells zer5 26 (0,0))) (HQ:W.heap[q]? = some (.cells #[u0,u1,u2,u3,u4] 26 (0,0))) (hq:w.heap.size < q)
  (h:TblAt W tt so sr) (h1:∀ a,so = some a → w.heap.size < a.block ∧ a.block ≠ q) (h2:∀ a,sr = some a → w.heap.size < a.block ∧ a.block ≠ q) :
  Mid4 w (((((W.setCell ⟨q,0,none⟩ (.int .i64 vv)).setCell ⟨q,1,none⟩ (.slice so tt.order.length co)).setCell ⟨q,2,none⟩ (.slice sr tt.rows.length cr)).setCell ⟨q,3,none⟩ (.int .i64 tt.next)).setCell ⟨q,4,none⟩ (.int .u64 (tt.nf:Int))) tt q:=by
 subst hvv
 obtain ⟨W2,e,hr,ht⟩:=box5 HQ (.int .i64 tt.vars) (.slice so tt.order.length co) (.slice sr tt.rows.length cr) (.int .i64 tt.next) (.int .u64 (tt.nf:Int))
 rw [← e]
 refine ⟨⟨so,sr,co,cr,hr,h.touch ht (fun a ha=>by simpa using (h1 a ha).2) (fun a ha=>by simpa using (h2 a ha).2),fun a ha=>⟨by have:=(h1 a ha).1; omega,by have:=(h1 a ha).1; omega⟩,fun a ha=>⟨by have:=(h2 a ha).1; omega,by have:=(h2 a ha).1; omega⟩⟩,HT.trans ht (fun y hy=>by simp at hy; subst hy; exact .inr (by omega)),(ht.block _ (ltB HB) (by simp; omega)).trans HB,by omega⟩
set_option maxHeartbeats 8000000 in
theorem table_lt {g cap:Nat} (hb:w.heap[tb]? = some (.cells #[Value.slice (some ⟨g,0,none⟩) t.list.length cap,.int .i64 (t.levels:Int),.int .u64 (t.fin.1:Int),.int .u64 (t.fin.2.1:Int),.int .u64 (t.fin.2.2.1:Int),.int .u64 (t.fin.2.2.2:Int),.bool t.none] 186 (0,0))) (p1:PairsAt w (some ⟨g,0,none⟩) (t.list.take t.levels)) (p2:PairsAt w (some ⟨g,t.levels * 2,none⟩) (t.list.drop t.levels)) (hcap:t.list.length ≤ cap) (ho:t.Ok) (gen:Nat) (hg:gen < 18446744073709551616) (he:t.fin.2.1 = gen) (hne:t.levels < t.list.length) :
  Calls Tryz.prog 110 #[ptr tb,.int .u64 (gen:Int)] w fun e w'=>∃ v,e = .returned (.tuple #[v,.bool (t.tableB gen).2]) ∧ NewTbl w' w.heap.size (t.tableB gen).1 v ∧ Tc [] w w':=by
 have HR:=hid (show t.tableB gen = (t.tbl,fmB t.tbl) by unfold Told.tableB; rw [if_pos he])
 subst he
 have hlt:tb < w.heap.size:=ltB hb
 have hlv:=ho.lv
 have hle:=ho.le
 have hln:=ho.len
 have HO:=hid ho
 have i0:(0:Int) ≤ (t.levels:Int):=by omega
 have i1:(t.levels:Int) ≤ (cap:Int):=by omega
 have i2:(t.levels:Int) ≤ (t.list.length:Int):=by omega
 have i3:(t.list.length:Int) ≤ (cap:Int):=by omega
 have i4:(0:Int) ≤ (t.list.length:Int):=by omega
 have hl1:(t.list.take t.levels).length = t.levels:=by rw [List.length_take]; omega
 have hl2:(t.list.drop t.levels).length = (t.list.length - t.levels):=by first | exact List.length_drop | (rw [List.length_drop]; omega)
 have hl3:t.tbl.order.length = t.levels:=by simp only [Told.tbl,List.length_map]; exact hl1
 have hl4:t.tbl.rows.length = (t.list.length - t.levels):=by simp only [Told.tbl,List.length_map]; exact hl2
 have H1:Hid (∀ W,Tc [] w W → Calls Tryz.prog 160 #[.slice (some ⟨g,0,none⟩) t.levels t.levels] W fun e w'=>∃ so co,e = .returned (.slice so t.tbl.order.length co) ∧ IntsAt w' so t.tbl.order ∧ (∀ a,so = some a → W.heap.size ≤ a.block ∧ a.block < w'.heap.size) ∧ Tc [] W w'):=fun W ht=>by
  have:=orderOf_any (c:=t.levels) (p1.touch ht (by simp)) (by omega)
  rw [hl1] at this
  refine (show Calls Tryz.prog 160 _ W _ from this).mono fun e w2 ⟨v,e1,o,tt⟩=>?_
  obtain ⟨so,co,rfl⟩:=oSC o
  obtain ⟨i1,i2⟩:=ints_of_own (l:=t.tbl.order) (by rw [hl3]; exact o)
  exact ⟨so,co,by rw [e1,hl3],i1,i2,tt⟩
 have H2:Hid (∀ W,Tc [] w W → Calls Tryz.prog 161 #[.slice (some ⟨g,t.levels * 2,none⟩) (t.list.length - t.levels) (t.list.length - t.levels)] W fun e w'=>∃ so co,e = .returned (.slice so t.tbl.rows.length co) ∧ RowsAt w' so t.tbl.rows ∧ (∀ a,so = some a → W.heap.size ≤ a.block ∧ a.block < w'.heap.size) ∧ Tc [] W w'):=fun W ht=>by
  have:=rowsOf_any (c:=(t.list.length - t.levels)) (p2.touch ht (by simp)) (by omega)
  rw [hl2] at this
  refine (show Calls Tryz.prog 161 _ W _ from this).mono fun e w2 ⟨v,e1,o,tt⟩=>?_
  obtain ⟨so,co,rfl⟩:=oSC o
  obtain ⟨i1,i2⟩:=rows_of_own (l:=t.tbl.rows) (by rw [hl4]; exact o)
  exact ⟨so,co,by rw [e1,hl4],i1,i2,tt⟩
 have HTB:=hid (fun wx so sr (h1:IntsAt wx so t.tbl.order) (h2:RowsAt wx sr t.tbl.rows)=>HO.out.tbl h1 h2)
 have HL3:=hid hl3
 have HVV:Hid ((t.levels:Int) = t.tbl.vars):=rfl
 have HL4:=hid hl4
 have hfin:=ho.fin
 have c:=fun i=>cRw hb i
 have HC:=hid (fun W (ht:Tc [] w W)=>fun i=>cRw ((ht.block tb hlt (by simp)).trans hb) i)
 have HT0:=hid ((Tc.refl [] w).alloc (.cells zer5 26))
 have HB0:=hid (heap_alloc_new w (.cells zer5 26))
 clear hb ho p1 p2 hl1 hl2 hl3 hl4
 go_enter Tryz.func110,Tryz.ntmps110
 go_wp2_with fail
 go_quiet (fail)
 generalize w.alloc (.cells zer5 26) = W0 at *
 obtain ⟨W1,hW1⟩:∃ W1,W1 = W0.drewN nq:=⟨_,rfl⟩
 have ht1:Tc [] w W1:=by rw [hW1]; exact HT0.out.drewN _
 have hb1:W1.heap[w.heap.size]? = some (.cells zer5 26 (0,0)):=by rw [hW1]; exact HB0.out
 rw [← hW1]
 have HT1:=hid ht1
 have HB1:=hid hb1
 clear hW1 ht1 hb1 c HT0 HB0
 go_wp2_with fail
 go_cut [8] (fun v8 wx=>∃ q,v8 = ptr q ∧ Hid (Mid4 w wx t.tbl q))
 case first =>
  have HT:=hid HT1.out.drew
  have HB:=hid (show W1.drew.heap[w.heap.size]? = some (.cells zer5 26 (0,0)) from HB1.out)
  clear HT1 HB1
  have cf0:=HC.out W1.drew HT.out
  refine wp_region_noPanic ?_
  refine wp_region_held_drew (S:=fun W=>(∀ i,W.cell? ⟨tb,i,none⟩ = #[Value.slice (some ⟨g,0,none⟩) t.list.length cap,.int .i64 (t.levels:Int),.int .u64 (t.fin.1:Int),.int .u64 (t.fin.2.1:Int),.int .u64 (t.fin.2.2.1:Int),.int .u64 (t.fin.2.2.2:Int),.bool t.none][i]?)) (by kernel_rfl) cf0 (fun hHeld=>?_)
  generalize W1.drew = Y at *
  refine wpAnyH_take (i:=0) (v:=?_) (by simp only [List.getElem?_toArray,List.getElem?_cons_zero]; rfl) (by kernel_rfl) (by kernel_rfl) (by kernel_rfl) (fun _ _ _ h=>h) (Or.inl ⟨by rfl,?_⟩) (by assumption) ?_
  rotate_left 1
  ·intro w hSw; (try dsimp only at hSw); go_simp; (try with_reducible rfl)
  try simp only [Act.put,List.setIfInBounds_toArray,List.set_cons_zero,List.set_cons_succ]
  refine wpAnyH_take (i:=1) (v:=?_) (by simp only [List.getElem?_toArray,List.getElem?_cons_succ,List.getElem?_cons_zero]; rfl) (by kernel_rfl) (by kernel_rfl) (by kernel_rfl) (fun _ _ _ h=>h) (Or.inl ⟨by rfl,?_⟩) (by assumption) ?_
  rotate_left 1
  ·intro w hSw; (try dsimp only at hSw); go_simp; (try with_reducible rfl)
  try simp only [Act.put,List.setIfInBounds_toArray,List.set_cons_zero,List.set_cons_succ]
  refine wpAnyH_take (i:=2) (v:=?_) (by simp only [List.getElem?_toArray,List.getElem?_cons_succ,List.getElem?_cons_zero]; rfl) (by kernel_rfl) (by kernel_rfl) (by kernel_rfl) (fun _ _ _ h=>h) (Or.inl ⟨by rfl,?_⟩) (by assumption) ?_
  rotate_left 1
  ·intro w hSw; (try dsimp only at hSw); go_simp; (try with_reducible rfl)
  try simp only [Act.put,List.setIfInBounds_toArray,List.set_cons_zero,List.set_cons_succ]
  refine wpAnyH_take (i:=3) (v:=?_) (by simp only [List.getElem?_toArray,List.getElem?_cons_succ,List.getElem?_cons_zero]; rfl) (by kernel_rfl) (by kernel_rfl) (by kernel_rfl) (fun _ _ _ h=>h) (Or.inl ⟨by rfl,?_⟩) (by assumption) ?_
  rotate_left 1
  ·intro w hSw; (try dsimp only at hSw); go_simp; (try with_reducible rfl)
  try simp only [Act.put,List.setIfInBounds_toArray,List.set_cons_zero,List.set_cons_succ]
  refine wpAnyH_take (i:=4) (v:=?_) (by simp only [List.getElem?_toArray,List.getElem?_cons_succ,List.getElem?_cons_zero]; rfl) (by kernel_rfl) (by kernel_rfl) (by kernel_rfl) (fun _ _ _ h=>h) (Or.inl ⟨by rfl,?_⟩) (by assumption) ?_
  rotate_left 1
  ·intro w hSw; (try dsimp only at hSw); go_simp; (try with_reducible rfl)
  try simp only [Act.put,List.setIfInBounds_toArray,List.set_cons_zero,List.set_cons_succ]
  refine wpAnyH_take (i:=5) (v:=?_) (by simp only [List.getElem?_toArray,List.getElem?_cons_succ,List.getElem?_cons_zero]; rfl) (by kernel_rfl) (by kernel_rfl) (by kernel_rfl) (fun _ _ _ h=>h) (Or.inl ⟨by rfl,?_⟩) (by assumption) ?_
  rotate_left 1
  ·intro w hSw; (try dsimp only at hSw); go_simp; (try with_reducible rfl)
  try simp only [Act.put,List.setIfInBounds_toArray,List.set_cons_zero,List.set_cons_succ]
  refine wpAnyH_take (i:=6) (v:=?_) (by simp only [List.getElem?_toArray,List.getElem?_cons_succ,List.getElem?_cons_zero]; rfl) (by kernel_rfl) (by kernel_rfl) (by kernel_rfl) (fun _ _ _ h=>h) (Or.inl ⟨by rfl,?_⟩) (by assumption) ?_
  rotate_left 1
  ·intro w hSw; (try dsimp only at hSw); go_simp; (try with_reducible rfl)
  try simp only [Act.put,List.setIfInBounds_toArray,List.set_cons_zero,List.set_cons_succ]
  refine wpAnyH_take (i:=7) (v:=?_) (by simp only [List.getElem?_toArray,List.getElem?_cons_succ,List.getElem?_cons_zero]; rfl) (by kernel_rfl) (by kernel_rfl) (by kernel_rfl) (fun _ _ _ h=>h) (Or.inl ⟨by rfl,?_⟩) (by assumption) ?_
  rotate_left 1
  ·intro w hSw; (try dsimp only at hSw); go_simp; (try with_reducible rfl)
  try simp only [Act.put,List.setIfInBounds_toArray,List.set_cons_zero,List.set_cons_succ]
  refine wpAnyH_take (i:=9) (v:=?_) (by simp only [List.getElem?_toArray,List.getElem?_cons_succ,List.getElem?_cons_zero]; rfl) (by kernel_rfl) (by kernel_rfl) (by kernel_rfl) (fun _ _ _ h=>h) (Or.inl ⟨by rfl,?_⟩) (by assumption) ?_
  rotate_left 1
  ·intro w hSw; (try dsimp only at hSw); go_simp; (try with_reducible rfl)
  try simp only [Act.put,List.setIfInBounds_toArray,List.set_cons_zero,List.set_cons_succ]
  refine wpAnyH_take (i:=10) (v:=?_) (by simp only [List.getElem?_toArray,List.getElem?_cons_succ,List.getElem?_cons_zero]; rfl) (by kernel_rfl) (by kernel_rfl) (by kernel_rfl) (fun _ _ _ h=>h) (Or.inl ⟨by rfl,?_⟩) (by assumption) ?_
  rotate_left 1
  ·intro w hSw; (try dsimp only at hSw); go_simp; (try with_reducible rfl)
  try simp only [Act.put,List.setIfInBounds_toArray,List.set_cons_zero,List.set_cons_succ]
  refine wpAnyH_take (i:=11) (v:=?_) (by simp only [List.getElem?_toArray,List.getElem?_cons_succ,List.getElem?_cons_zero]; rfl) (by kernel_rfl) (by kernel_rfl) (by kernel_rfl) (fun _ _ _ h=>h) (Or.inl ⟨by rfl,?_⟩) (by assumption) ?_
  rotate_left 1
  ·intro w hSw; (try dsimp only at hSw); go_simp; (try with_reducible rfl)
  try simp only [Act.put,List.setIfInBounds_toArray,List.set_cons_zero,List.set_cons_succ]
  refine wpAnyH_take (i:=12) (v:=?_) (by simp only [List.getElem?_toArray,List.getElem?_cons_succ,List.getElem?_cons_zero]; rfl) (by kernel_rfl) (by kernel_rfl) (by kernel_rfl) (fun _ _ _ h=>h) (Or.inl ⟨by rfl,?_⟩) (by assumption) ?_
  rotate_left 1
  ·intro w hSw; (try dsimp only at hSw); go_simp; (try with_reducible rfl)
  try simp only [Act.put,List.setIfInBounds_toArray,List.set_cons_zero,List.set_cons_succ]
  refine wpAnyH_take (i:=13) (v:=?_) (by simp only [List.getElem?_toArray,List.getElem?_cons_succ,List.getElem?_cons_zero]; rfl) (by kernel_rfl) (by kernel_rfl) (by kernel_rfl) (fun _ _ _ h=>h) (Or.inl ⟨by rfl,?_⟩) (by assumption) ?_
  rotate_left 1
  ·intro w hSw; (try dsimp only at hSw); go_simp; (try with_reducible rfl)
  try simp only [Act.put,List.setIfInBounds_toArray,List.set_cons_zero,List.set_cons_succ]
  refine wpAnyH_take (i:=14) (v:=?_) (by simp only [List.getElem?_toArray,List.getElem?_cons_succ,List.getElem?_cons_zero]; rfl) (by kernel_rfl) (by kernel_rfl) (by kernel_rfl) (fun _ _ _ h=>h) (Or.inl ⟨by rfl,?_⟩) (by assumption) ?_
  rotate_left 1
  ·intro w hSw; (try dsimp only at hSw); go_simp; (try with_reducible rfl)
  try simp only [Act.put,List.setIfInBounds_toArray,List.set_cons_zero,List.set_cons_succ]
  refine wpAnyH_take (i:=15) (v:=?_) (by simp only [List.getElem?_toArray,List.getElem?_cons_succ,List.getElem?_cons_zero]; rfl) (by kernel_rfl) (by kernel_rfl) (by kernel_rfl) (fun _ _ _ h=>h) (Or.inl ⟨by rfl,?_⟩) (by assumption) ?_
  rotate_left 1
  ·intro w hSw; (try dsimp only at hSw); go_simp; (try with_reducible rfl)
  try simp only [Act.put,List.setIfInBounds_toArray,List.set_cons_zero,List.set_cons_succ]
  refine wpAnyH_take (i:=16) (v:=?_) (by simp only [List.getElem?_toArray,List.getElem?_cons_succ,List.getElem?_cons_zero]; rfl) (by kernel_rfl) (by kernel_rfl) (by kernel_rfl) (fun _ _ _ h=>h) (Or.inl ⟨by rfl,?_⟩) (by assumption) ?_
  rotate_left 1
  ·intro w hSw; (try dsimp only at hSw); go_simp; (try with_reducible rfl)
  try simp only [Act.put,List.setIfInBounds_toArray,List.set_cons_zero,List.set_cons_succ]
  refine wpAnyH_take (i:=18) (v:=?_) (by simp only [List.getElem?_toArray,List.getElem?_cons_succ,List.getElem?_cons_zero]; rfl) (by kernel_rfl) (by kernel_rfl) (by kernel_rfl) (fun _ _ _ h=>h) (Or.inl ⟨by rfl,?_⟩) (by assumption) ?_
  rotate_left 1
  ·intro w hSw; (try dsimp only at hSw); go_simp; (try with_reducible rfl)
  try simp only [Act.put,List.setIfInBounds_toArray,List.set_cons_zero,List.set_cons_succ]
  refine wpAnyH_take (i:=19) (v:=?_) (by simp only [List.getElem?_toArray,List.getElem?_cons_succ,List.getElem?_cons_zero]; rfl) (by kernel_rfl) (by kernel_rfl) (by kernel_rfl) (fun _ _ _ h=>h) (Or.inl ⟨by rfl,?_⟩) (by assumption) ?_
  rotate_left 1
  ·intro w hSw; (try dsimp only at hSw); go_simp; (try with_reducible rfl)
  try simp only [Act.put,List.setIfInBounds_toArray,List.set_cons_zero,List.set_cons_succ]
  refine wpAnyH_take (i:=20) (v:=?_) (by simp only [List.getElem?_toArray,List.getElem?_cons_succ,List.getElem?_cons_zero]; rfl) (by kernel_rfl) (by kernel_rfl) (by kernel_rfl) (fun _ _ _ h=>h) (Or.inl ⟨by rfl,?_⟩) (by assumption) ?_
  rotate_left 1
  ·intro w hSw; (try dsimp only at hSw); go_simp; (try with_reducible rfl)
  try simp only [Act.put,List.setIfInBounds_toArray,List.set_cons_zero,List.set_cons_succ]
  refine wpAnyH_take (i:=21) (v:=?_) (by simp only [List.getElem?_toArray,List.getElem?_cons_succ,List.getElem?_cons_zero]; rfl) (by kernel_rfl) (by kernel_rfl) (by kernel_rfl) (fun _ _ _ h=>h) (Or.inl ⟨by rfl,?_⟩) (by assumption) ?_
  rotate_left 1
  ·intro w hSw; (try dsimp only at hSw); go_simp; (try with_reducible rfl)
  try simp only [Act.put,List.setIfInBounds_toArray,List.set_cons_zero,List.set_cons_succ]
  refine wpAnyH_take (i:=22) (v:=?_) (by simp only [List.getElem?_toArray,List.getElem?_cons_succ,List.getElem?_cons_zero]; rfl) (by kernel_rfl) (by kernel_rfl) (by kernel_rfl) (fun _ _ _ h=>h) (Or.inl ⟨by rfl,?_⟩) (by assumption) ?_
  rotate_left 1
  ·intro w hSw; (try dsimp only at hSw); go_simp; (try with_reducible rfl)
  try simp only [Act.put,List.setIfInBounds_toArray,List.set_cons_zero,List.set_cons_succ]
  refine wpAnyH_take (i:=23) (v:=.int .i64 (sgn t.fin.2.2.1)) (by simp only [List.getElem?_toArray,List.getElem?_cons_succ,List.getElem?_cons_zero]; rfl) (by kernel_rfl) (by kernel_rfl) (by kernel_rfl) (fun _ _ _ h=>h) (Or.inl ⟨by rfl,?_⟩) (by assumption) ?_
  ·intro w hSw; (try dsimp only at hSw); (try go_simp); (first | done | (unfold sgn wrap64; rw [IntKind.wrap_i64]))
  try simp only [Act.put,List.setIfInBounds_toArray,List.set_cons_zero,List.set_cons_succ]
  refine wpAnyH_take (i:=24) (v:=?_) (by simp only [List.getElem?_toArray,List.getElem?_cons_succ,List.getElem?_cons_zero]; rfl) (by kernel_rfl) (by kernel_rfl) (by kernel_rfl) (fun _ _ _ h=>h) (Or.inl ⟨by rfl,?_⟩) (by assumption) ?_
  rotate_left 1
  ·intro w hSw; (try dsimp only at hSw); go_simp; (try with_reducible rfl)
  try simp only [Act.put,List.setIfInBounds_toArray,List.set_cons_zero,List.set_cons_succ]
  refine wpAnyH_take (i:=25) (v:=?_) (by simp only [List.getElem?_toArray,List.getElem?_cons_succ,List.getElem?_cons_zero]; rfl) (by kernel_rfl) (by kernel_rfl) (by kernel_rfl) (fun _ _ _ h=>h) (Or.inl ⟨by rfl,?_⟩) (by assumption) ?_
  rotate_left 1
  ·intro w hSw; (try dsimp only at hSw); go_simp; (try with_reducible rfl)
  try simp only [Act.put,List.setIfInBounds_toArray,List.set_cons_zero,List.set_cons_succ]
  refine wpAnyH_take (i:=26) (v:=?_) (by simp only [List.getElem?_toArray,List.getElem?_cons_succ,List.getElem?_cons_zero]; rfl) (by kernel_rfl) (by kernel_rfl) (by kernel_rfl) (fun _ _ _ h=>h) (Or.inl ⟨by rfl,?_⟩) (by assumption) ?_
  rotate_left 1
  ·intro w hSw; (try dsimp only at hSw); go_simp; (try with_reducible rfl)
  try simp only [Act.put,List.setIfInBounds_toArray,List.set_cons_zero,List.set_cons_succ]
  refine wpAnyH_take (i:=27) (v:=?_) (by simp only [List.getElem?_toArray,List.getElem?_cons_succ,List.getElem?_cons_zero]; rfl) (by kernel_rfl) (by kernel_rfl) (by kernel_rfl) (fun _ _ _ h=>h) (Or.inl ⟨by rfl,?_⟩) (by assumption) ?_
  rotate_left 1
  ·intro w hSw; (try dsimp only at hSw); go_simp; (try with_reducible rfl)
  try simp only [Act.put,List.setIfInBounds_toArray,List.set_cons_zero,List.set_cons_succ]
  refine wpAnyH_take (i:=28) (v:=?_) (by simp only [List.getElem?_toArray,List.getElem?_cons_succ,List.getElem?_cons_zero]; rfl) (by kernel_rfl) (by kernel_rfl) (by kernel_rfl) (fun _ _ _ h=>h) (Or.inl ⟨by rfl,?_⟩) (by assumption) ?_
  rotate_left 1
  ·intro w hSw; (try dsimp only at hSw); go_simp; (try with_reducible rfl)
  try simp only [Act.put,List.setIfInBounds_toArray,List.set_cons_zero,List.set_cons_succ]
  refine wpAnyH_ready (rs:=[8,30]) (by kernel_rfl) (by simp) ?_
  refine AllReadyH.cons (by simp only [List.getElem?_toArray,List.getElem?_cons_succ,List.getElem?_cons_zero]; rfl) (fun K hK=>?_) (AllReadyH.cons (by simp only [List.getElem?_toArray,List.getElem?_cons_succ,List.getElem?_cons_zero]; rfl) (fun K hK=>?_) AllReadyH.nil)
  ·go_simp
   go_at_call 160
   with_reducible refine (H1.out _ HT.out).mono ?_
   rintro e w2 ⟨so,co,rfl,hi,hb8,ht⟩
   have hb9:=ltB HB.out
   have HI:=hid (And.intro hi (fun a ha=>And.intro (show w.heap.size < a.block by have:=(hb8 a ha).1; omega) (hb8 a ha).2))
   clear hi hb8 hb9
   replace HB:=hid ((ht.block _ (ltB HB.out) (by simp)).trans HB.out)
   replace HT:=hid (HT.out.trans ht (by simp))
   replace cf0:=HC.out _ HT.out
   clear ht
   go_wp2_with fail
   clear hHeld
   refine hK.out _ _ cf0 (fun hHeld=>?_)
   clear hK K
   try simp only [Act.put,List.setIfInBounds_toArray,List.set_cons_zero,List.set_cons_succ]
   refine wpAnyH_ready (rs:=[17,30]) (by kernel_rfl) (by simp) ?_
   refine AllReadyH.cons (by simp only [List.getElem?_toArray,List.getElem?_cons_succ,List.getElem?_cons_zero]; rfl) (fun K hK=>?_) (AllReadyH.cons (by simp only [List.getElem?_toArray,List.getElem?_cons_succ,List.getElem?_cons_zero]; rfl) (fun K hK=>?_) AllReadyH.nil)
   ·go_simp
    go_at_call 161
    with_reducible refine (H2.out _ HT.out).mono ?_
    rintro e w3 ⟨sr,cr,rfl,hi,hb8,ht⟩
    have hb9:=ltB HB.out
    have HW:=hid (And.intro hi (fun a ha=>And.intro (show w.heap.size < a.block by have:=(hb8 a ha).1; omega) (hb8 a ha).2))
    clear hi hb8 hb9
    replace HB:=hid ((ht.block _ (ltB HB.out) (by simp)).trans HB.out)
    replace HI:=hid (And.intro (HI.out.1.touch ht (by simp)) (fun a ha=>And.intro (HI.out.2 a ha).1 (Nat.lt_of_lt_of_le (HI.out.2 a ha).2 ht.size)))
    replace HT:=hid (HT.out.trans ht (by simp))
    replace cf0:=HC.out _ HT.out
    clear ht
    go_wp2_with fail
    clear hHeld
    refine hK.out _ _ cf0 (fun hHeld=>?_)
    clear hK K
    try simp only [Act.put,List.setIfInBounds_toArray,List.set_cons_zero,List.set_cons_succ]
    refine wpAnyH_take (i:=29) (v:=?_) (by simp only [List.getElem?_toArray,List.getElem?_cons_succ,List.getElem?_cons_zero]; rfl) (by kernel_rfl) (by kernel_rfl) (by kernel_rfl) (fun _ _ _ h=>h) (Or.inl ⟨by rfl,?_⟩) (by assumption) ?_
    rotate_left 1
    ·intro w hSw; (try dsimp only at hSw); go_simp; (try with_reducible rfl)
    try simp only [Act.put,List.setIfInBounds_toArray,List.set_cons_zero,List.set_cons_succ]
    refine wpAnyH_ready (rs:=[30]) (by kernel_rfl) (by simp) ?_
    refine AllReadyH.cons (by simp only [List.getElem?_toArray,List.getElem?_cons_succ,List.getElem?_cons_zero]; rfl) (fun K hK=>?_) AllReadyH.nil
    go_simp
    have ht:=(Tc.refl [] w3).alloc (.cells zer5 26)
    have hq:=heap_alloc_new w3 (.cells zer5 26)
    have hql:=ltB HB.out
    have HDO:Hid (∀ a,so = some a → a.block ≠ w3.heap.size):=fun a ha=>by have:=(HI.out.2 a ha).2; omega
    have HDR:Hid (∀ a,sr = some a → a.block ≠ w3.heap.size):=fun a ha=>by have:=(HW.out.2 a ha).2; omega
    replace HB:=hid ((ht.block _ (ltB HB.out) (by simp)).trans HB.out)
    replace HI:=hid (And.intro (HI.out.1.touch ht (by simp)) (fun a ha=>And.intro (HI.out.2 a ha).1 (Nat.lt_of_lt_of_le (HI.out.2 a ha).2 ht.size)))
    replace HW:=hid (And.intro (HW.out.1.touch ht (by simp)) (fun a ha=>And.intro (HW.out.2 a ha).1 (Nat.lt_of_lt_of_le (HW.out.2 a ha).2 ht.size)))
    replace HT:=hid (HT.out.trans ht (by simp))
    replace cf0:=HC.out _ HT.out
    clear ht
    have HQ:=hid hq
    clear hq
    generalize w3.alloc (.cells zer5 26) = WQ at *
    generalize w3.heap.size = q at *
    clear hHeld
    refine hK.out _ _ cf0 (fun hHeld=>?_)
    clear hK K
    try simp only [Act.put,List.setIfInBounds_toArray,List.set_cons_zero,List.set_cons_succ]
    have hcq:=fun i=>cRw HQ.out i
    have huq:=fun i=>uRw HQ.out i
    refine wpAnyH_ready (rs:=[31]) (by kernel_rfl) (by simp) ?_
    refine AllReadyH.cons (by simp only [List.getElem?_toArray,List.getElem?_cons_succ,List.getElem?_cons_zero]; rfl) (fun K hK=>?_) AllReadyH.nil
    go_simp
    have M:=hid (mid4_store (vv:=(t.levels:Int)) HVV.out (co:=co) (cr:=cr) HT.out HB.out HQ.out hql (HTB.out _ _ _ HI.out.1 HW.out.1) (fun a ha=>⟨(HI.out.2 a ha).1,HDO.out a ha⟩) (fun a ha=>⟨(HW.out.2 a ha).1,HDR.out a ha⟩))
    replace cf0:=HC.out _ M.out.touch
    clear hHeld
    refine hK.out _ _ cf0 (fun hHeld=>?_)
    clear hK K
    try simp only [Act.put,List.setIfInBounds_toArray,List.set_cons_zero,List.set_cons_succ]
    refine wpAnyH_done (by kernel_rfl) ?_ _
    refine NoPanic.normal ?_
    go_wp2_with fail
    go_meet
    exact ⟨q,rfl,M⟩
   ·go_simp
    have ht:=(Tc.refl [] w2).alloc (.cells zer5 26)
    have hq:=heap_alloc_new w2 (.cells zer5 26)
    have hql:=ltB HB.out
    have HDO:Hid (∀ a,so = some a → a.block ≠ w2.heap.size):=fun a ha=>by have:=(HI.out.2 a ha).2; omega
    replace HB:=hid ((ht.block _ (ltB HB.out) (by simp)).trans HB.out)
    replace HI:=hid (And.intro (HI.out.1.touch ht (by simp)) (fun a ha=>And.intro (HI.out.2 a ha).1 (Nat.lt_of_lt_of_le (HI.out.2 a ha).2 ht.size)))
    replace HT:=hid (HT.out.trans ht (by simp))
    replace cf0:=HC.out _ HT.out
    clear ht
    have HQ:=hid hq
    clear hq
    generalize w2.alloc (.cells zer5 26) = WQ at *
    generalize w2.heap.size = q at *
    clear hHeld
    refine hK.out _ _ cf0 (fun hHeld=>?_)
    clear hK K
    try simp only [Act.put,List.setIfInBounds_toArray,List.set_cons_zero,List.set_cons_succ]
    refine wpAnyH_ready (rs:=[17]) (by kernel_rfl) (by simp) ?_
    refine AllReadyH.cons (by simp only [List.getElem?_toArray,List.getElem?_cons_succ,List.getElem?_cons_zero]; rfl) (fun K hK=>?_) AllReadyH.nil
    go_simp
    go_at_call 161
    with_reducible refine (H2.out _ HT.out).mono ?_
    rintro e w3 ⟨sr,cr,rfl,hi,hb8,ht⟩
    have hb9:=ltB HB.out
    have HW:=hid (And.intro hi (fun a ha=>And.intro (show w.heap.size < a.block by have:=(hb8 a ha).1; omega) (hb8 a ha).2))
    have HDR:Hid (∀ a,sr = some a → a.block ≠ q):=fun a ha=>by have:=(hb8 a ha).1; have:=ltB HQ.out; omega
    clear hi hb8 hb9
    replace HB:=hid ((ht.block _ (ltB HB.out) (by simp)).trans HB.out)
    replace HI:=hid (And.intro (HI.out.1.touch ht (by simp)) (fun a ha=>And.intro (HI.out.2 a ha).1 (Nat.lt_of_lt_of_le (HI.out.2 a ha).2 ht.size)))
    replace HQ:=hid ((ht.block _ (ltB HQ.out) (by simp)).trans HQ.out)
    replace HT:=hid (HT.out.trans ht (by simp))
    replace cf0:=HC.out _ HT.out
    clear ht
    go_wp2_with fail
    clear hHeld
    refine hK.out _ _ cf0 (fun hHeld=>?_)
    clear hK K
    try simp only [Act.put,List.setIfInBounds_toArray,List.set_cons_zero,List.set_cons_succ]
    refine wpAnyH_take (i:=29) (v:=?_) (by simp only [List.getElem?_toArray,List.getElem?_cons_succ,List.getElem?_cons_zero]; rfl) (by kernel_rfl) (by kernel_rfl) (by kernel_rfl) (fun _ _ _ h=>h) (Or.inl ⟨by rfl,?_⟩) (by assumption) ?_
    rotate_left 1
    ·intro w hSw; (try dsimp only at hSw); go_simp; (try with_reducible rfl)
    try simp only [Act.put,List.setIfInBounds_toArray,List.set_cons_zero,List.set_cons_succ]
    have hcq:=fun i=>cRw HQ.out i
    have huq:=fun i=>uRw HQ.out i
    refine wpAnyH_ready (rs:=[31]) (by kernel_rfl) (by simp) ?_
    refine AllReadyH.cons (by simp only [List.getElem?_toArray,List.getElem?_cons_succ,List.getElem?_cons_zero]; rfl) (fun K hK=>?_) AllReadyH.nil
    go_simp
    have M:=hid (mid4_store (vv:=(t.levels:Int)) HVV.out (co:=co) (cr:=cr) HT.out HB.out HQ.out hql (HTB.out _ _ _ HI.out.1 HW.out.1) (fun a ha=>⟨(HI.out.2 a ha).1,HDO.out a ha⟩) (fun a ha=>⟨(HW.out.2 a ha).1,HDR.out a ha⟩))
    replace cf0:=HC.out _ M.out.touch
    clear hHeld
    refine hK.out _ _ cf0 (fun hHeld=>?_)
    clear hK K
    try simp only [Act.put,List.setIfInBounds_toArray,List.set_cons_zero,List.set_cons_succ]
    refine wpAnyH_done (by kernel_rfl) ?_ _
    refine NoPanic.normal ?_
    go_wp2_with fail
    go_meet
    exact ⟨q,rfl,M⟩
  ·go_simp
   have ht:=(Tc.refl [] Y).alloc (.cells zer5 26)
   have hq:=heap_alloc_new Y (.cells zer5 26)
   have hql:=ltB HB.out
   replace HB:=hid ((ht.block _ (ltB HB.out) (by simp)).trans HB.out)
   replace HT:=hid (HT.out.trans ht (by simp))
   replace cf0:=HC.out _ HT.out
   clear ht
   have HQ:=hid hq
   clear hq
   generalize Y.alloc (.cells zer5 26) = WQ at *
   generalize Y.heap.size = q at *
   clear hHeld
   refine hK.out _ _ cf0 (fun hHeld=>?_)
   clear hK K
   try simp only [Act.put,List.setIfInBounds_toArray,List.set_cons_zero,List.set_cons_succ]
   refine wpAnyH_ready (rs:=[8]) (by kernel_rfl) (by simp) ?_
   refine AllReadyH.cons (by simp only [List.getElem?_toArray,List.getElem?_cons_succ,List.getElem?_cons_zero]; rfl) (fun K hK=>?_) AllReadyH.nil
   go_simp
   go_at_call 160
   with_reducible refine (H1.out _ HT.out).mono ?_
   rintro e w2 ⟨so,co,rfl,hi,hb8,ht⟩
   have hb9:=ltB HB.out
   have HI:=hid (And.intro hi (fun a ha=>And.intro (show w.heap.size < a.block by have:=(hb8 a ha).1; omega) (hb8 a ha).2))
   have HDO:Hid (∀ a,so = some a → a.block ≠ q):=fun a ha=>by have:=(hb8 a ha).1; have:=ltB HQ.out; omega
   clear hi hb8 hb9
   replace HB:=hid ((ht.block _ (ltB HB.out) (by simp)).trans HB.out)
   replace HQ:=hid ((ht.block _ (ltB HQ.out) (by simp)).trans HQ.out)
   replace HT:=hid (HT.out.trans ht (by simp))
   replace cf0:=HC.out _ HT.out
   clear ht
   go_wp2_with fail
   clear hHeld
   refine hK.out _ _ cf0 (fun hHeld=>?_)
   clear hK K
   try simp only [Act.put,List.setIfInBounds_toArray,List.set_cons_zero,List.set_cons_succ]
   refine wpAnyH_ready (rs:=[17]) (by kernel_rfl) (by simp) ?_
   refine AllReadyH.cons (by simp only [List.getElem?_toArray,List.getElem?_cons_succ,List.getElem?_cons_zero]; rfl) (fun K hK=>?_) AllReadyH.nil
   go_simp
   go_at_call 161
   with_reducible refine (H2.out _ HT.out).mono ?_
   rintro e w3 ⟨sr,cr,rfl,hi,hb8,ht⟩
   have hb9:=ltB HB.out
   have HW:=hid (And.intro hi (fun a ha=>And.intro (show w.heap.size < a.block by have:=(hb8 a ha).1; omega) (hb8 a ha).2))
   have HDR:Hid (∀ a,sr = some a → a.block ≠ q):=fun a ha=>by have:=(hb8 a ha).1; have:=ltB HQ.out; omega
   clear hi hb8 hb9
   replace HB:=hid ((ht.block _ (ltB HB.out) (by simp)).trans HB.out)
   replace HI:=hid (And.intro (HI.out.1.touch ht (by simp)) (fun a ha=>And.intro (HI.out.2 a ha).1 (Nat.lt_of_lt_of_le (HI.out.2 a ha).2 ht.size)))
   replace HQ:=hid ((ht.block _ (ltB HQ.out) (by simp)).trans HQ.out)
   replace HT:=hid (HT.out.trans ht (by simp))
   replace cf0:=HC.out _ HT.out
   clear ht
   go_wp2_with fail
   clear hHeld
   refine hK.out _ _ cf0 (fun hHeld=>?_)
   clear hK K
   try simp only [Act.put,List.setIfInBounds_toArray,List.set_cons_zero,List.set_cons_succ]
   refine wpAnyH_take (i:=29) (v:=?_) (by simp only [List.getElem?_toArray,List.getElem?_cons_succ,List.getElem?_cons_zero]; rfl) (by kernel_rfl) (by kernel_rfl) (by kernel_rfl) (fun _ _ _ h=>h) (Or.inl ⟨by rfl,?_⟩) (by assumption) ?_
   rotate_left 1
   ·intro w hSw; (try dsimp only at hSw); go_simp; (try with_reducible rfl)
   try simp only [Act.put,List.setIfInBounds_toArray,List.set_cons_zero,List.set_cons_succ]
   have hcq:=fun i=>cRw HQ.out i
   have huq:=fun i=>uRw HQ.out i
   refine wpAnyH_ready (rs:=[31]) (by kernel_rfl) (by simp) ?_
   refine AllReadyH.cons (by simp only [List.getElem?_toArray,List.getElem?_cons_succ,List.getElem?_cons_zero]; rfl) (fun K hK=>?_) AllReadyH.nil
   go_simp
   have M:=hid (mid4_store (vv:=(t.levels:Int)) HVV.out (co:=co) (cr:=cr) HT.out HB.out HQ.out hql (HTB.out _ _ _ HI.out.1 HW.out.1) (fun a ha=>⟨(HI.out.2 a ha).1,HDO.out a ha⟩) (fun a ha=>⟨(HW.out.2 a ha).1,HDR.out a ha⟩))
   replace cf0:=HC.out _ M.out.touch
   clear hHeld
   refine hK.out _ _ cf0 (fun hHeld=>?_)
   clear hK K
   try simp only [Act.put,List.setIfInBounds_toArray,List.set_cons_zero,List.set_cons_succ]
   refine wpAnyH_done (by kernel_rfl) ?_ _
   refine NoPanic.normal ?_
   go_wp2_with fail
   go_meet
   exact ⟨q,rfl,M⟩
 case rest =>
  obtain ⟨q,rfl,M⟩:=hcut
  obtain ⟨so,sr,co,cr,hq,hT,h1,h2⟩:=M.out.tbl
  have hres:=M.out.res
  have hne9:=M.out.ne
  have hql:=ltB hq
  have HF:=hid (fun W (tt:Tc [] wc W)=>formed_any (co:=co) (cr:=cr) (hT.touch tt (by simp) (by simp)))
  have HH:=hid (And.intro hT (And.intro h1 h2))
  have HMT:=hid M.out.touch
  have HQ5:=hid (fun W (tt:Tc [] wc W)=>fun i=>cRw ((tt.block q (ltB hq) (by simp)).trans hq) i)
  have HR5:=hid (fun W (tt:Tc [] wc W)=>(tt.block w.heap.size (ltB hres) (by simp)).trans hres)
  clear hT h1 h2 hq hres M HC H1 H2 HTB
  simp only [tblV,tblC] at *
  have HT5:=hid (Tc.refl [] wc).drew
  have cf0:=HQ5.out wc.drew HT5.out
  have HQL:=hid hql
  clear hql
  go_wp2_with fail
  refine wp_region_noPanic ?_
  refine wp_region_held_drew (S:=fun W=>(∀ i,W.cell? ⟨q,i,none⟩ = #[Value.int .i64 t.tbl.vars,.slice so t.tbl.order.length co,.slice sr t.tbl.rows.length cr,.int .i64 t.tbl.next,.int .u64 (t.tbl.nf:Int)][i]?)) (by kernel_rfl) cf0 (fun hHeld=>?_)
  generalize wc.drew = Y at *
  refine wpAnyH_take (i:=0) (v:=?_) (by simp only [List.getElem?_toArray,List.getElem?_cons_zero]; rfl) (by kernel_rfl) (by kernel_rfl) (by kernel_rfl) (fun _ _ _ h=>h) (Or.inl ⟨by rfl,?_⟩) (by assumption) ?_
  rotate_left 1
  ·intro w hSw; (try dsimp only at hSw); go_simp; (try with_reducible rfl)
  try simp only [Act.put,List.setIfInBounds_toArray,List.set_cons_zero,List.set_cons_succ]
  refine wpAnyH_take (i:=1) (v:=?_) (by simp only [List.getElem?_toArray,List.getElem?_cons_succ,List.getElem?_cons_zero]; rfl) (by kernel_rfl) (by kernel_rfl) (by kernel_rfl) (fun _ _ _ h=>h) (Or.inl ⟨by rfl,?_⟩) (by assumption) ?_
  rotate_left 1
  ·intro w hSw; (try dsimp only at hSw); go_simp; (try with_reducible rfl)
  try simp only [Act.put,List.setIfInBounds_toArray,List.set_cons_zero,List.set_cons_succ]
  refine wpAnyH_ready (rs:=[2]) (by kernel_rfl) (by simp) ?_
  refine AllReadyH.cons (by simp only [List.getElem?_toArray,List.getElem?_cons_succ,List.getElem?_cons_zero]; rfl) (fun K hK=>?_) AllReadyH.nil
  go_simp
  go_at_call 11
  with_reducible refine (HF.out _ HT5.out).mono ?_
  rintro e w5 ⟨rfl,ht5⟩
  replace HT5:=hid (HT5.out.trans ht5 (by simp))
  clear ht5
  replace cf0:=HQ5.out _ HT5.out
  go_wp2_with fail
  clear hHeld
  refine hK.out _ _ cf0 (fun hHeld=>?_)
  clear hK K
  try simp only [Act.put,List.setIfInBounds_toArray,List.set_cons_zero,List.set_cons_succ]
  have hr5:=HR5.out _ HT5.out
  have c5:=fun i=>cRw hr5 i
  have u5:=fun i=>uRw hr5 i
  obtain ⟨W6,e6,hr6,t6⟩:=box5 hr5 (.int .i64 t.tbl.vars) (.slice so t.tbl.order.length co) (.slice sr t.tbl.rows.length cr) (.int .i64 t.tbl.next) (.int .u64 (t.tbl.nf:Int))
  have HT6:=hid t6
  have HE6:=hid e6
  clear t6 e6
  have HB6:=hid (Nat.lt_of_lt_of_le HQL.out HT5.out.size)
  refine wpAnyH_ready (rs:=[3]) (by kernel_rfl) (by simp) ?_
  refine AllReadyH.cons (by simp only [List.getElem?_toArray,List.getElem?_cons_succ,List.getElem?_cons_zero]; rfl) (fun K hK=>?_) AllReadyH.nil
  go_simp
  rw [← HE6.out]
  have cf6:(∀ i,W6.cell? ⟨q,i,none⟩ = #[Value.int .i64 t.tbl.vars,.slice so t.tbl.order.length co,.slice sr t.tbl.rows.length cr,.int .i64 t.tbl.next,.int .u64 (t.tbl.nf:Int)][i]?):=fun i=>(HT6.out.cell (p:=⟨q,i,none⟩) HB6.out (by simpa using hne9)).trans (cf0 i)
  clear hHeld
  refine hK.out _ _ cf6 (fun hHeld=>?_)
  clear hK K
  try simp only [Act.put,List.setIfInBounds_toArray,List.set_cons_zero,List.set_cons_succ]
  refine wpAnyH_take (i:=4) (v:=?_) (by simp only [List.getElem?_toArray,List.getElem?_cons_succ,List.getElem?_cons_zero]; rfl) (by kernel_rfl) (by kernel_rfl) (by kernel_rfl) (fun _ _ _ h=>h) (Or.inl ⟨by rfl,?_⟩) (by assumption) ?_
  rotate_left 1
  ·intro w hSw; (try dsimp only at hSw); go_simp; (try with_reducible rfl)
  try simp only [Act.put,List.setIfInBounds_toArray,List.set_cons_zero,List.set_cons_succ]
  refine wpAnyH_done (by kernel_rfl) ?_ _
  refine NoPanic.normal ?_
  go_wp2_with fail
  have c6:=fun i=>cRw hr6 i
  refine bodyPost_ret (v:=.tuple #[tblV t.tbl so sr co cr,.bool (fmB t.tbl)]) (by simp [results,Tryz.results110,go_sem,c6,tblV]) rfl ?_
  rw [HR.out]
  have tt6:Tc [] w W6:=(HMT.out.trans HT5.out (by simp)).trans HT6.out (fun y hy=>by simp at hy; exact .inr (by omega))
  have tt7:Tc [w.heap.size] wc W6:=(HT5.out.mono (by simp)).trans HT6.out (fun y hy=>.inl hy)
  exact ⟨_,rfl,⟨so,sr,co,cr,rfl,HH.out.1.touch tt7 (fun a ha=>by simpa using (HH.out.2.1 a ha).2) (fun a ha=>by simpa using (HH.out.2.2 a ha).2),fun a ha=>(HH.out.2.1 a ha).1,fun a ha=>(HH.out.2.2 a ha).1⟩,tt6⟩
end
def recsN (t:Tbl) (gen:Nat):List (Nat × Nat × Nat × Nat):=
 (t.order.zipIdx.map fun x=>(x.2,(x.1 % 18446744073709551616).toNat,0,1)) ++ (t.rows.map fun r=>((r.1 % 18446744073709551616).toNat,r.2,0,2)) ++ [(18446744073709551615,gen,(t.next % 18446744073709551616).toNat,t.nf)]
section
variable {w:World}
theorem records_any (t:Tbl) (so sr:Option Addr) (co cr gen:Nat) :
  Calls Tryz.prog 100 #[tblV t so sr co cr,.int .u64 (gen:Int)] w fun e w' =>
   e = .returned (.func (.func 147) #[] #[ptr w.heap.size,ptr (w.heap.size + 1)]) ∧ w' = (w.alloc (.cells (tblC t so sr co cr) 26)).alloc (.cells #[.int .u64 (gen:Int)] 24):=by
 simp only [tblV,tblC]
 go_enter Tryz.func100,Tryz.ntmps100
 go_wp2
 go_ret
 exact ⟨by simp [ptr],rfl⟩
end
def u64N (x:Int):Nat:=(x % 18446744073709551616).toNat
theorem recsN_len (t:Tbl) (gen:Nat):(recsN t gen).length = t.order.length + t.rows.length + 1:=by simp [recsN]; omega
theorem get_of {α:Type} {l m:List α} (e:l = m) {k:Nat} (h:k < l.length) {a:α} (h2:m[k]? = some a):l[k] = a:=by
 subst e
 rw [List.getElem?_eq_getElem h] at h2
 exact Option.some.inj h2
theorem recsN_ord {t:Tbl} {gen k:Nat} (h:k < t.order.length) (h2:k < (recsN t gen).length):(recsN t gen)[k] = (k,u64N t.order[k],0,1):=by
 refine get_of rfl h2 ?_
 unfold recsN
 rw [List.append_assoc,List.getElem?_append_left (by simpa using h)]
 simp [u64N,h]
theorem recsN_row {t:Tbl} {gen k:Nat} (h:k < t.rows.length) (h2:t.order.length + k < (recsN t gen).length):(recsN t gen)[t.order.length + k] = (u64N t.rows[k].1,t.rows[k].2,0,2):=by
 refine get_of rfl h2 ?_
 unfold recsN
 rw [List.append_assoc,List.getElem?_append_right (by simp),List.getElem?_append_left (by simpa using h)]
 simp [u64N,h]
theorem recsN_end {t:Tbl} {gen:Nat} (h2:t.order.length + t.rows.length < (recsN t gen).length):(recsN t gen)[t.order.length + t.rows.length] = (18446744073709551615,gen,u64N t.next,t.nf):=by
 refine get_of rfl h2 ?_
 unfold recsN
 rw [List.append_assoc,List.getElem?_append_right (by simp),List.getElem?_append_right (by simp)]
 simp [u64N]
section
variable {W:World} {t:Tbl} {so sr:Option Addr} {co cr gen b1 b2 L m:Nat} {J:Nat → World → Prop} {St:World → Prop}
set_option maxHeartbeats 4000000 in
theorem recs1_any (ht:∀ j X,J j X → X.heap[b1]? = some (.cells (tblC t so sr co cr) 26 (0,0)) ∧ X.heap[b2]? = some (.cells #[.int .u64 (gen:Int)] 24 (0,0)) ∧ TblAt X t so sr)
  (hq:∀ j X X',J j X → Tc [] X X' → J j X') (h0:J 0 W)
  (hY:∀ m' j (hj:j < (recsN t gen).length) X,J j X → YieldAt Fence.wide m' Tryz.prog L #[Rc.val (recsN t gen)[j]] X fun e X2=>(e = .returned (.bool true) ∧ J (j + 1) X2) ∨ (e = .returned (.bool false) ∧ St X2)) :
  CallsIn Fence.wide m Tryz.prog 147 #[.func (.yield L) #[] #[],ptr b1,ptr b2] W fun e w'=>(∃ v,e = .returned v) ∧ (J (recsN t gen).length w' ∨ St w'):=by
 have hlen:=recsN_len t gen
 have hol:=(ht 0 W h0).2.2.ol
 have hrl:=(ht 0 W h0).2.2.rl
 have HT:=hid ht
 have HQ:=hid hq
 have H0:=hid h0
 have HYY:=hid hY
 have c1:=cRw (ht 0 W h0).1 1
 simp only [tblC,List.getElem?_toArray,List.getElem?_cons_zero,List.getElem?_cons_succ] at c1
 clear ht hq h0 hY
 refine callsIn_of_wp Tryz.func147 rfl trivial (wpIn_wide.2 ?_)
 simp only [Tryz.ntmps147,List.size_toArray,List.length_cons,List.length_nil,Nat.reduceAdd,Nat.reduceSub,Array.replicate_succ,Array.replicate_zero,List.push_toArray,List.append_toArray,List.nil_append,List.cons_append]
 go_wp2_with fail
 go_loopw [11] (fun i X=>∃ k:Nat,k ≤ t.order.length ∧ i = .int .i64 k ∧ Hid (J k X)) (fun i _=>t.order.length - (intOf i).toNat)
 case atStart=>exact ⟨0,Nat.zero_le _,rfl,H0⟩
 case round =>
  obtain ⟨k,hk,rfl,hJ⟩:=hrel
  by_cases hlt:k < t.order.length
  ·obtain ⟨a,rfl,hab,c⟩:=(HT.out k wr hJ.out).2.2.ints.at_ k hlt
   have hj2:k < (recsN t gen).length:=by omega
   have HY1:Hid (∀ X,J k X → YieldAt Fence.wide (m - 1) Tryz.prog L #[.agg #[.int .u64 (k:Int),.int .u64 (u64N t.order[k]:Int),.int .u64 0,.int .u64 1]] X fun e X2=>(e = .returned (.bool true) ∧ J (k + 1) X2) ∨ (e = .returned (.bool false) ∧ St X2)):=fun X hX=>by
    have:=HYY.out (m - 1) k hj2 X hX
    rw [recsN_ord hlt hj2] at this
    exact this
   go_upto_region 3 with fail
   refine (wpIn_wide (n:=m)).1 ?_
   obtain ⟨fn,tm,asg,bd,hy,hRd⟩:=HY1.out wr hJ.out
   have HRd:=hid hRd
   clear hRd
   have hcv1:IntKind.u64.wrap (k:Int) = (k:Int):=by simp [IntKind.wrap,IntKind.signed,IntKind.bits]; omega
   have hcv2:IntKind.u64.wrap t.order[k] = ((u64N t.order[k]:Nat):Int):=by simp [IntKind.wrap,IntKind.signed,IntKind.bits,u64N]; omega
   gi_wp2
   refine ⟨fun h=>(by cases h),HRd.out.mono ?_⟩
   rintro e W4 (⟨rfl,hJ4⟩ | ⟨rfl,hS4⟩)
   ·have H4:=hid hJ4
    clear hJ4
    gi_wp2
    go_wp2_with fail
    exact ⟨⟨k + 1,hlt,rfl,H4⟩,by simp [intOf]; omega⟩
   ·have H4:=hid hS4
    clear hS4
    gi_wp2
    go_wp2_with fail
    refine bodyPost_ret (v:=.tuple #[]) (by simp [results,Tryz.results147]) rfl ⟨⟨_,rfl⟩,.inr H4.out⟩
  ·obtain rfl:k = t.order.length:=by omega
   have c2:=cRw (HT.out _ wr hJ.out).1 2
   simp only [tblC,List.getElem?_toArray,List.getElem?_cons_zero,List.getElem?_cons_succ] at c2
   go_wp2_with fail
   clear c1 c2
   go_loopw [28] (fun i X=>∃ k:Nat,k ≤ t.rows.length ∧ i = .int .i64 k ∧ Hid (J (t.order.length + k) X)) (fun i _=>t.rows.length - (intOf i).toNat)
   case atStart=>exact ⟨0,Nat.zero_le _,rfl,hJ⟩
   case round =>
    clear hJ
    obtain ⟨k,hk,rfl,hJ⟩:=hrel
    by_cases hlt:k < t.rows.length
    ·obtain ⟨a,rfl,hab,c,d⟩:=(HT.out _ wr hJ.out).2.2.rows.at_ k hlt
     have hj2:t.order.length + k < (recsN t gen).length:=by omega
     have HY1:Hid (∀ X,J (t.order.length + k) X → YieldAt Fence.wide (m - 1) Tryz.prog L #[.agg #[.int .u64 (u64N t.rows[k].1:Int),.int .u64 (t.rows[k].2:Int),.int .u64 0,.int .u64 2]] X fun e X2=>(e = .returned (.bool true) ∧ J (t.order.length + k + 1) X2) ∨ (e = .returned (.bool false) ∧ St X2)):=fun X hX=>by
      have:=HYY.out (m - 1) _ hj2 X hX
      rw [recsN_row hlt hj2] at this
      exact this
     generalize t.rows[k] = r at *
     obtain ⟨r0,r1⟩:=r
     dsimp only at c d HY1
     go_upto_region 8 with fail
     obtain ⟨W3,hW3⟩:∃ W3,W3 = wr.alloc (.cells #[.int .i64 r0,.int .u64 (r1:Int)] 45):=⟨_,rfl⟩
     have hb3:W3.heap[wr.heap.size]? = some (.cells #[.int .i64 r0,.int .u64 (r1:Int)] 45):=by rw [hW3]; exact heap_alloc_new wr _
     have H3:=hid (HQ.out _ _ W3 hJ.out (by rw [hW3]; exact (Tc.refl [] wr).alloc _))
     rw [← hW3]
     have q0:=cRw hb3 0
     have q1:=cRw hb3 1
     simp only [List.getElem?_toArray,List.getElem?_cons_zero,List.getElem?_cons_succ] at q0 q1
     generalize wr.heap.size = ob at q0 q1 ⊢
     clear hW3 hb3
     refine (wpIn_wide (n:=m)).1 ?_
     obtain ⟨fn,tm,asg,bd,hy,hRd⟩:=HY1.out W3 H3.out
     have HRd:=hid hRd
     clear hRd
     have hcv2:IntKind.u64.wrap r0 = ((u64N r0:Nat):Int):=by simp [IntKind.wrap,IntKind.signed,IntKind.bits,u64N]; omega
     gi_wp2
     refine ⟨fun h=>(by cases h),HRd.out.mono ?_⟩
     rintro e W4 (⟨rfl,hJ4⟩ | ⟨rfl,hS4⟩)
     ·have H4:=hid hJ4
      clear hJ4
      gi_wp2
      go_wp2_with fail
      exact ⟨⟨k + 1,hlt,rfl,H4⟩,by simp [intOf]; omega⟩
     ·have H4:=hid hS4
      clear hS4
      gi_wp2
      go_wp2_with fail
      refine bodyPost_ret (v:=.tuple #[]) (by simp [results,Tryz.results147]) rfl ⟨⟨_,rfl⟩,.inr H4.out⟩
    ·obtain rfl:k = t.rows.length:=by omega
     have hj2:t.order.length + t.rows.length < (recsN t gen).length:=by omega
     have c3:=cRw (HT.out _ wr hJ.out).1 3
     have c4:=cRw (HT.out _ wr hJ.out).1 4
     have d0:=cRw (HT.out _ wr hJ.out).2.1 0
     simp only [tblC,List.getElem?_toArray,List.getElem?_cons_zero,List.getElem?_cons_succ] at c3 c4 d0
     have HY1:Hid (∀ X,J (t.order.length + t.rows.length) X → YieldAt Fence.wide (m - 1) Tryz.prog L #[.agg #[.int .u64 18446744073709551615,.int .u64 (gen:Int),.int .u64 (u64N t.next:Int),.int .u64 (t.nf:Int)]] X fun e X2=>(e = .returned (.bool true) ∧ J (t.order.length + t.rows.length + 1) X2) ∨ (e = .returned (.bool false) ∧ St X2)):=fun X hX=>by
      have:=HYY.out (m - 1) _ hj2 X hX
      rw [recsN_end hj2] at this
      exact this
     have hcv2:IntKind.u64.wrap t.next = ((u64N t.next:Nat):Int):=by simp [IntKind.wrap,IntKind.signed,IntKind.bits,u64N]; omega
     go_upto_region 10 with fail
     refine (wpIn_wide (n:=m)).1 ?_
     obtain ⟨fn,tm,asg,bd,hy,hRd⟩:=HY1.out wr hJ.out
     have HRd:=hid hRd
     clear hRd
     gi_wp2
     refine ⟨fun h=>(by cases h),HRd.out.mono ?_⟩
     rintro e W4 (⟨rfl,hJ4⟩ | ⟨rfl,hS4⟩)
     ·have H4:=hid hJ4
      clear hJ4
      gi_wp2
      go_end0
      exact ⟨⟨_,rfl⟩,.inl (by rw [hlen]; exact H4.out)⟩
     ·have H4:=hid hS4
      clear hS4
      gi_wp2
      go_end0
      exact ⟨⟨_,rfl⟩,.inr H4.out⟩
end
end Go.Proofs.YthehcjjckabljaaGreatDoor
