import Derived.Deep.DeepCutAuto
import Derived.RangeFuncNested
import Derived.RangeFuncBound
import Derived.RangeFuncCalls
import Derived.RangeFuncLeaves
import Derived.Shelf.RegionOpen
import Derived.Test.YthehcjjckabljaaGreatDoorC17
namespace Go.Proofs.YthehcjjckabljaaGreatDoor
open Go.RowKit Go.Deep
set_option maxRecDepth 100000
set_option linter.unusedSimpArgs false
set_option linter.unusedVariables false
section
variable {w w':World} {tb:Nat} {gl:List Nat} {t:Told}
set_option maxHeartbeats 8000000 in
theorem table_nil {g cap:Nat} (hb:w.heap[tb]? = some (.cells #[Value.slice Option.none 0 0,.int .i64 0,.int .u64 (t.fin.1:Int),.int .u64 (t.fin.2.1:Int),.int .u64 (t.fin.2.2.1:Int),.int .u64 (t.fin.2.2.2:Int),.bool t.none] 186 (0,0))) (p1:PairsAt w Option.none (t.list.take t.levels)) (p2:PairsAt w Option.none (t.list.drop t.levels)) (hcap:t.list.length ≤ cap) (ho:t.Ok) (gen:Nat) (hg:gen < 18446744073709551616) (he:t.fin.2.1 = gen) (hnil:t.list = []) :
  Calls Tryz.prog 110 #[ptr tb,.int .u64 (gen:Int)] w fun e w'=>∃ v,e = .returned (.tuple #[v,.bool (t.tableB gen).2]) ∧ NewTbl w' w.heap.size (t.tableB gen).1 v ∧ Tc [] w w':=by
 have HR:=hid (show t.tableB gen = (t.tbl,fmB t.tbl) by unfold Told.tableB; rw [if_pos he])
 subst he
 have hlt:tb < w.heap.size:=ltB hb
 have hlv:=ho.lv
 have hle:=ho.le
 have hln:=ho.len
 have HO:=hid ho
 have hz:t.list.length = 0:=by rw [hnil]; rfl
 have hz2:t.levels = 0:=by omega
 have hl1:(t.list.take t.levels).length = 0:=by rw [List.length_take]; omega
 have hl2:(t.list.drop t.levels).length = 0:=by first | exact List.length_drop | (rw [List.length_drop]; omega)
 have hl3:t.tbl.order.length = 0:=by simp only [Told.tbl,List.length_map]; exact hl1
 have hl4:t.tbl.rows.length = 0:=by simp only [Told.tbl,List.length_map]; exact hl2
 have H1:Hid (∀ W,Tc [] w W → Calls Tryz.prog 160 #[.slice Option.none 0 0] W fun e w'=>∃ so co,e = .returned (.slice so t.tbl.order.length co) ∧ IntsAt w' so t.tbl.order ∧ (∀ a,so = some a → W.heap.size ≤ a.block ∧ a.block < w'.heap.size) ∧ Tc [] W w'):=fun W ht=>by
  have:=orderOf_any (c:=0) (p1.touch ht (by simp)) (by omega)
  rw [hl1] at this
  refine (show Calls Tryz.prog 160 _ W _ from this).mono fun e w2 ⟨v,e1,o,tt⟩=>?_
  obtain ⟨so,co,rfl⟩:=oSC o
  obtain ⟨i1,i2⟩:=ints_of_own (l:=t.tbl.order) (by rw [hl3]; exact o)
  exact ⟨so,co,by rw [e1,hl3],i1,i2,tt⟩
 have H2:Hid (∀ W,Tc [] w W → Calls Tryz.prog 161 #[.slice Option.none 0 0] W fun e w'=>∃ so co,e = .returned (.slice so t.tbl.rows.length co) ∧ RowsAt w' so t.tbl.rows ∧ (∀ a,so = some a → W.heap.size ≤ a.block ∧ a.block < w'.heap.size) ∧ Tc [] W w'):=fun W ht=>by
  have:=rowsOf_any (c:=0) (p2.touch ht (by simp)) (by omega)
  rw [hl2] at this
  refine (show Calls Tryz.prog 161 _ W _ from this).mono fun e w2 ⟨v,e1,o,tt⟩=>?_
  obtain ⟨so,co,rfl⟩:=oSC o
  obtain ⟨i1,i2⟩:=rows_of_own (l:=t.tbl.rows) (by rw [hl4]; exact o)
  exact ⟨so,co,by rw [e1,hl4],i1,i2,tt⟩
 have HTB:=hid (fun wx so sr (h1:IntsAt wx so t.tbl.order) (h2:RowsAt wx sr t.tbl.rows)=>HO.out.tbl h1 h2)
 have HL3:=hid hl3
 have HVV:Hid (0 = t.tbl.vars):=by simp only [Told.tbl,hz2]; rfl
 have HL4:=hid hl4
 have hfin:=ho.fin
 have c:=fun i=>cRw hb i
 have HC:=hid (fun W (ht:Tc [] w W)=>fun i=>cRw ((ht.block tb hlt (by simp)).trans hb) i)
 have HT0:=hid ((Tc.refl [] w).alloc (.cells zer5 26))
 have HB0:=hid (heap_alloc_new w (.cells zer5 26))
 clear hz hz2 hnil hle hln hlv hcap hb ho p1 p2 hl1 hl2 hl3 hl4
 go_enter Tryz.func110,Tryz.ntmps110
 go_wp2_with fail
 go_quiet (fail)
 generalize w.alloc (.cells zer5 26) = W0 at *
 obtain ⟨W1,hW1⟩:∃ W1,W1 = W0.drewN nq:=⟨_,rfl⟩
 have ht1:Tc [] w W1:=by rw [hW1]; exact HT0.out.drewN _
 have hb1:W1.heap[w.heap.size]? = some (.cells zer5 26 (0,0)):=by rw [hW1]; exact HB0.out
 rw [← hW1]
 have HT1:=hid ht1
 have HB1:=hid hb1
 clear hW1 ht1 hb1 c HT0 HB0
 go_wp2_with fail
 go_cut [8] (fun v8 wx=>∃ q,v8 = ptr q ∧ Hid (Mid4 w wx t.tbl q))
 case first =>
  have HT:=hid HT1.out.drew
  have HB:=hid (show W1.drew.heap[w.heap.size]? = some (.cells zer5 26 (0,0)) from HB1.out)
  clear HT1 HB1
  have cf0:=HC.out W1.drew HT.out
  refine wp_region_noPanic ?_
  refine wp_region_held_drew (S:=fun W=>(∀ i,W.cell? ⟨tb,i,none⟩ = #[Value.slice Option.none 0 0,.int .i64 0,.int .u64 (t.fin.1:Int),.int .u64 (t.fin.2.1:Int),.int .u64 (t.fin.2.2.1:Int),.int .u64 (t.fin.2.2.2:Int),.bool t.none][i]?)) (by kernel_rfl) cf0 (fun hHeld=>?_)
  generalize W1.drew = Y at *
  refine wpAnyH_take (i:=0) (v:=?_) (by simp only [List.getElem?_toArray,List.getElem?_cons_zero]; rfl) (by kernel_rfl) (by kernel_rfl) (by kernel_rfl) (fun _ _ _ h=>h) (Or.inl ⟨by rfl,?_⟩) (by assumption) ?_
  rotate_left 1
  ·intro w hSw; (try dsimp only at hSw); go_simp; (try with_reducible rfl)
  try simp only [Act.put,List.setIfInBounds_toArray,List.set_cons_zero,List.set_cons_succ]
  refine wpAnyH_take (i:=1) (v:=?_) (by simp only [List.getElem?_toArray,List.getElem?_cons_succ,List.getElem?_cons_zero]; rfl) (by kernel_rfl) (by kernel_rfl) (by kernel_rfl) (fun _ _ _ h=>h) (Or.inl ⟨by rfl,?_⟩) (by assumption) ?_
  rotate_left 1
  ·intro w hSw; (try dsimp only at hSw); go_simp; (try with_reducible rfl)
  try simp only [Act.put,List.setIfInBounds_toArray,List.set_cons_zero,List.set_cons_succ]
  refine wpAnyH_take (i:=2) (v:=?_) (by simp only [List.getElem?_toArray,List.getElem?_cons_succ,List.getElem?_cons_zero]; rfl) (by kernel_rfl) (by kernel_rfl) (by kernel_rfl) (fun _ _ _ h=>h) (Or.inl ⟨by rfl,?_⟩) (by assumption) ?_
  rotate_left 1
  ·intro w hSw; (try dsimp only at hSw); go_simp; (try with_reducible rfl)
  try simp only [Act.put,List.setIfInBounds_toArray,List.set_cons_zero,List.set_cons_succ]
  refine wpAnyH_take (i:=3) (v:=?_) (by simp only [List.getElem?_toArray,List.getElem?_cons_succ,List.getElem?_cons_zero]; rfl) (by kernel_rfl) (by kernel_rfl) (by kernel_rfl) (fun _ _ _ h=>h) (Or.inl ⟨by rfl,?_⟩) (by assumption) ?_
  rotate_left 1
  ·intro w hSw; (try dsimp only at hSw); go_simp; (try with_reducible rfl)
  try simp only [Act.put,List.setIfInBounds_toArray,List.set_cons_zero,List.set_cons_succ]
  refine wpAnyH_take (i:=4) (v:=?_) (by simp only [List.getElem?_toArray,List.getElem?_cons_succ,List.getElem?_cons_zero]; rfl) (by kernel_rfl) (by kernel_rfl) (by kernel_rfl) (fun _ _ _ h=>h) (Or.inl ⟨by rfl,?_⟩) (by assumption) ?_
  rotate_left 1
  ·intro w hSw; (try dsimp only at hSw); go_simp; (try with_reducible rfl)
  try simp only [Act.put,List.setIfInBounds_toArray,List.set_cons_zero,List.set_cons_succ]
  refine wpAnyH_take (i:=5) (v:=?_) (by simp only [List.getElem?_toArray,List.getElem?_cons_succ,List.getElem?_cons_zero]; rfl) (by kernel_rfl) (by kernel_rfl) (by kernel_rfl) (fun _ _ _ h=>h) (Or.inl ⟨by rfl,?_⟩) (by assumption) ?_
  rotate_left 1
  ·intro w hSw; (try dsimp only at hSw); go_simp; (try with_reducible rfl)
  try simp only [Act.put,List.setIfInBounds_toArray,List.set_cons_zero,List.set_cons_succ]
  refine wpAnyH_take (i:=6) (v:=?_) (by simp only [List.getElem?_toArray,List.getElem?_cons_succ,List.getElem?_cons_zero]; rfl) (by kernel_rfl) (by kernel_rfl) (by kernel_rfl) (fun _ _ _ h=>h) (Or.inl ⟨by rfl,?_⟩) (by assumption) ?_
  rotate_left 1
  ·intro w hSw; (try dsimp only at hSw); go_simp; (try with_reducible rfl)
  try simp only [Act.put,List.setIfInBounds_toArray,List.set_cons_zero,List.set_cons_succ]
  refine wpAnyH_take (i:=7) (v:=?_) (by simp only [List.getElem?_toArray,List.getElem?_cons_succ,List.getElem?_cons_zero]; rfl) (by kernel_rfl) (by kernel_rfl) (by kernel_rfl) (fun _ _ _ h=>h) (Or.inl ⟨by rfl,?_⟩) (by assumption) ?_
  rotate_left 1
  ·intro w hSw; (try dsimp only at hSw); go_simp; (try with_reducible rfl)
  try simp only [Act.put,List.setIfInBounds_toArray,List.set_cons_zero,List.set_cons_succ]
  refine wpAnyH_take (i:=9) (v:=?_) (by simp only [List.getElem?_toArray,List.getElem?_cons_succ,List.getElem?_cons_zero]; rfl) (by kernel_rfl) (by kernel_rfl) (by kernel_rfl) (fun _ _ _ h=>h) (Or.inl ⟨by rfl,?_⟩) (by assumption) ?_
  rotate_left 1
  ·intro w hSw; (try dsimp only at hSw); go_simp; (try with_reducible rfl)
  try simp only [Act.put,List.setIfInBounds_toArray,List.set_cons_zero,List.set_cons_succ]
  refine wpAnyH_take (i:=10) (v:=?_) (by simp only [List.getElem?_toArray,List.getElem?_cons_succ,List.getElem?_cons_zero]; rfl) (by kernel_rfl) (by kernel_rfl) (by kernel_rfl) (fun _ _ _ h=>h) (Or.inl ⟨by rfl,?_⟩) (by assumption) ?_
  rotate_left 1
  ·intro w hSw; (try dsimp only at hSw); go_simp; (try with_reducible rfl)
  try simp only [Act.put,List.setIfInBounds_toArray,List.set_cons_zero,List.set_cons_succ]
  refine wpAnyH_take (i:=11) (v:=?_) (by simp only [List.getElem?_toArray,List.getElem?_cons_succ,List.getElem?_cons_zero]; rfl) (by kernel_rfl) (by kernel_rfl) (by kernel_rfl) (fun _ _ _ h=>h) (Or.inl ⟨by rfl,?_⟩) (by assumption) ?_
  rotate_left 1
  ·intro w hSw; (try dsimp only at hSw); go_simp; (try with_reducible rfl)
  try simp only [Act.put,List.setIfInBounds_toArray,List.set_cons_zero,List.set_cons_succ]
  refine wpAnyH_take (i:=12) (v:=?_) (by simp only [List.getElem?_toArray,List.getElem?_cons_succ,List.getElem?_cons_zero]; rfl) (by kernel_rfl) (by kernel_rfl) (by kernel_rfl) (fun _ _ _ h=>h) (Or.inl ⟨by rfl,?_⟩) (by assumption) ?_
  rotate_left 1
  ·intro w hSw; (try dsimp only at hSw); go_simp; (try with_reducible rfl)
  try simp only [Act.put,List.setIfInBounds_toArray,List.set_cons_zero,List.set_cons_succ]
  refine wpAnyH_take (i:=13) (v:=?_) (by simp only [List.getElem?_toArray,List.getElem?_cons_succ,List.getElem?_cons_zero]; rfl) (by kernel_rfl) (by kernel_rfl) (by kernel_rfl) (fun _ _ _ h=>h) (Or.inl ⟨by rfl,?_⟩) (by assumption) ?_
  rotate_left 1
  ·intro w hSw; (try dsimp only at hSw); go_simp; (try with_reducible rfl)
  try simp only [Act.put,List.setIfInBounds_toArray,List.set_cons_zero,List.set_cons_succ]
  refine wpAnyH_take (i:=14) (v:=?_) (by simp only [List.getElem?_toArray,List.getElem?_cons_succ,List.getElem?_cons_zero]; rfl) (by kernel_rfl) (by kernel_rfl) (by kernel_rfl) (fun _ _ _ h=>h) (Or.inl ⟨by rfl,?_⟩) (by assumption) ?_
  rotate_left 1
  ·intro w hSw; (try dsimp only at hSw); go_simp; (try with_reducible rfl)
  try simp only [Act.put,List.setIfInBounds_toArray,List.set_cons_zero,List.set_cons_succ]
  refine wpAnyH_take (i:=15) (v:=?_) (by simp only [List.getElem?_toArray,List.getElem?_cons_succ,List.getElem?_cons_zero]; rfl) (by kernel_rfl) (by kernel_rfl) (by kernel_rfl) (fun _ _ _ h=>h) (Or.inl ⟨by rfl,?_⟩) (by assumption) ?_
  rotate_left 1
  ·intro w hSw; (try dsimp only at hSw); go_simp; (try with_reducible rfl)
  try simp only [Act.put,List.setIfInBounds_toArray,List.set_cons_zero,List.set_cons_succ]
  refine wpAnyH_take (i:=16) (v:=?_) (by simp only [List.getElem?_toArray,List.getElem?_cons_succ,List.getElem?_cons_zero]; rfl) (by kernel_rfl) (by kernel_rfl) (by kernel_rfl) (fun _ _ _ h=>h) (Or.inl ⟨by rfl,?_⟩) (by assumption) ?_
  rotate_left 1
  ·intro w hSw; (try dsimp only at hSw); go_simp; (try with_reducible rfl)
  try simp only [Act.put,List.setIfInBounds_toArray,List.set_cons_zero,List.set_cons_succ]
  refine wpAnyH_take (i:=18) (v:=?_) (by simp only [List.getElem?_toArray,List.getElem?_cons_succ,List.getElem?_cons_zero]; rfl) (by kernel_rfl) (by kernel_rfl) (by kernel_rfl) (fun _ _ _ h=>h) (Or.inl ⟨by rfl,?_⟩) (by assumption) ?_
  rotate_left 1
  ·intro w hSw; (try dsimp only at hSw); go_simp; (try with_reducible rfl)
  try simp only [Act.put,List.setIfInBounds_toArray,List.set_cons_zero,List.set_cons_succ]
  refine wpAnyH_take (i:=19) (v:=?_) (by simp only [List.getElem?_toArray,List.getElem?_cons_succ,List.getElem?_cons_zero]; rfl) (by kernel_rfl) (by kernel_rfl) (by kernel_rfl) (fun _ _ _ h=>h) (Or.inl ⟨by rfl,?_⟩) (by assumption) ?_
  rotate_left 1
  ·intro w hSw; (try dsimp only at hSw); go_simp; (try with_reducible rfl)
  try simp only [Act.put,List.setIfInBounds_toArray,List.set_cons_zero,List.set_cons_succ]
  refine wpAnyH_take (i:=20) (v:=?_) (by simp only [List.getElem?_toArray,List.getElem?_cons_succ,List.getElem?_cons_zero]; rfl) (by kernel_rfl) (by kernel_rfl) (by kernel_rfl) (fun _ _ _ h=>h) (Or.inl ⟨by rfl,?_⟩) (by assumption) ?_
  rotate_left 1
  ·intro w hSw; (try dsimp only at hSw); go_simp; (try with_reducible rfl)
  try simp only [Act.put,List.setIfInBounds_toArray,List.set_cons_zero,List.set_cons_succ]
  refine wpAnyH_take (i:=21) (v:=?_) (by simp only [List.getElem?_toArray,List.getElem?_cons_succ,List.getElem?_cons_zero]; rfl) (by kernel_rfl) (by kernel_rfl) (by kernel_rfl) (fun _ _ _ h=>h) (Or.inl ⟨by rfl,?_⟩) (by assumption) ?_
  rotate_left 1
  ·intro w hSw; (try dsimp only at hSw); go_simp; (try with_reducible rfl)
  try simp only [Act.put,List.setIfInBounds_toArray,List.set_cons_zero,List.set_cons_succ]
  refine wpAnyH_take (i:=22) (v:=?_) (by simp only [List.getElem?_toArray,List.getElem?_cons_succ,List.getElem?_cons_zero]; rfl) (by kernel_rfl) (by kernel_rfl) (by kernel_rfl) (fun _ _ _ h=>h) (Or.inl ⟨by rfl,?_⟩) (by assumption) ?_
  rotate_left 1
  ·intro w hSw; (try dsimp only at hSw); go_simp; (try with_reducible rfl)
  try simp only [Act.put,List.setIfInBounds_toArray,List.set_cons_zero,List.set_cons_succ]
  refine wpAnyH_take (i:=23) (v:=.int .i64 (sgn t.fin.2.2.1)) (by simp only [List.getElem?_toArray,List.getElem?_cons_succ,List.getElem?_cons_zero]; rfl) (by kernel_rfl) (by kernel_rfl) (by kernel_rfl) (fun _ _ _ h=>h) (Or.inl ⟨by rfl,?_⟩) (by assumption) ?_
  ·intro w hSw; (try dsimp only at hSw); (try go_simp); (first | done | (unfold sgn wrap64; rw [IntKind.wrap_i64]))
  try simp only [Act.put,List.setIfInBounds_toArray,List.set_cons_zero,List.set_cons_succ]
  refine wpAnyH_take (i:=24) (v:=?_) (by simp only [List.getElem?_toArray,List.getElem?_cons_succ,List.getElem?_cons_zero]; rfl) (by kernel_rfl) (by kernel_rfl) (by kernel_rfl) (fun _ _ _ h=>h) (Or.inl ⟨by rfl,?_⟩) (by assumption) ?_
  rotate_left 1
  ·intro w hSw; (try dsimp only at hSw); go_simp; (try with_reducible rfl)
  try simp only [Act.put,List.setIfInBounds_toArray,List.set_cons_zero,List.set_cons_succ]
  refine wpAnyH_take (i:=25) (v:=?_) (by simp only [List.getElem?_toArray,List.getElem?_cons_succ,List.getElem?_cons_zero]; rfl) (by kernel_rfl) (by kernel_rfl) (by kernel_rfl) (fun _ _ _ h=>h) (Or.inl ⟨by rfl,?_⟩) (by assumption) ?_
  rotate_left 1
  ·intro w hSw; (try dsimp only at hSw); go_simp; (try with_reducible rfl)
  try simp only [Act.put,List.setIfInBounds_toArray,List.set_cons_zero,List.set_cons_succ]
  refine wpAnyH_take (i:=26) (v:=?_) (by simp only [List.getElem?_toArray,List.getElem?_cons_succ,List.getElem?_cons_zero]; rfl) (by kernel_rfl) (by kernel_rfl) (by kernel_rfl) (fun _ _ _ h=>h) (Or.inl ⟨by rfl,?_⟩) (by assumption) ?_
  rotate_left 1
  ·intro w hSw; (try dsimp only at hSw); go_simp; (try with_reducible rfl)
  try simp only [Act.put,List.setIfInBounds_toArray,List.set_cons_zero,List.set_cons_succ]
  refine wpAnyH_take (i:=27) (v:=?_) (by simp only [List.getElem?_toArray,List.getElem?_cons_succ,List.getElem?_cons_zero]; rfl) (by kernel_rfl) (by kernel_rfl) (by kernel_rfl) (fun _ _ _ h=>h) (Or.inl ⟨by rfl,?_⟩) (by assumption) ?_
  rotate_left 1
  ·intro w hSw; (try dsimp only at hSw); go_simp; (try with_reducible rfl)
  try simp only [Act.put,List.setIfInBounds_toArray,List.set_cons_zero,List.set_cons_succ]
  refine wpAnyH_take (i:=28) (v:=?_) (by simp only [List.getElem?_toArray,List.getElem?_cons_succ,List.getElem?_cons_zero]; rfl) (by kernel_rfl) (by kernel_rfl) (by kernel_rfl) (fun _ _ _ h=>h) (Or.inl ⟨by rfl,?_⟩) (by assumption) ?_
  rotate_left 1
  ·intro w hSw; (try dsimp only at hSw); go_simp; (try with_reducible rfl)
  try simp only [Act.put,List.setIfInBounds_toArray,List.set_cons_zero,List.set_cons_succ]
  refine wpAnyH_ready (rs:=[8,30]) (by kernel_rfl) (by simp) ?_
  refine AllReadyH.cons (by simp only [List.getElem?_toArray,List.getElem?_cons_succ,List.getElem?_cons_zero]; rfl) (fun K hK=>?_) (AllReadyH.cons (by simp only [List.getElem?_toArray,List.getElem?_cons_succ,List.getElem?_cons_zero]; rfl) (fun K hK=>?_) AllReadyH.nil)
  ·go_simp
   go_at_call 160
   with_reducible refine (H1.out _ HT.out).mono ?_
   rintro e w2 ⟨so,co,rfl,hi,hb8,ht⟩
   have hb9:=ltB HB.out
   have HI:=hid (And.intro hi (fun a ha=>And.intro (show w.heap.size < a.block by have:=(hb8 a ha).1; omega) (hb8 a ha).2))
   clear hi hb8 hb9
   replace HB:=hid ((ht.block _ (ltB HB.out) (by simp)).trans HB.out)
   replace HT:=hid (HT.out.trans ht (by simp))
   replace cf0:=HC.out _ HT.out
   clear ht
   go_wp2_with fail
   clear hHeld
   refine hK.out _ _ cf0 (fun hHeld=>?_)
   clear hK K
   try simp only [Act.put,List.setIfInBounds_toArray,List.set_cons_zero,List.set_cons_succ]
   refine wpAnyH_ready (rs:=[17,30]) (by kernel_rfl) (by simp) ?_
   refine AllReadyH.cons (by simp only [List.getElem?_toArray,List.getElem?_cons_succ,List.getElem?_cons_zero]; rfl) (fun K hK=>?_) (AllReadyH.cons (by simp only [List.getElem?_toArray,List.getElem?_cons_succ,List.getElem?_cons_zero]; rfl) (fun K hK=>?_) AllReadyH.nil)
   ·go_simp
    go_at_call 161
    with_reducible refine (H2.out _ HT.out).mono ?_
    rintro e w3 ⟨sr,cr,rfl,hi,hb8,ht⟩
    have hb9:=ltB HB.out
    have HW:=hid (And.intro hi (fun a ha=>And.intro (show w.heap.size < a.block by have:=(hb8 a ha).1; omega) (hb8 a ha).2))
    clear hi hb8 hb9
    replace HB:=hid ((ht.block _ (ltB HB.out) (by simp)).trans HB.out)
    replace HI:=hid (And.intro (HI.out.1.touch ht (by simp)) (fun a ha=>And.intro (HI.out.2 a ha).1 (Nat.lt_of_lt_of_le (HI.out.2 a ha).2 ht.size)))
    replace HT:=hid (HT.out.trans ht (by simp))
    replace cf0:=HC.out _ HT.out
    clear ht
    go_wp2_with fail
    clear hHeld
    refine hK.out _ _ cf0 (fun hHeld=>?_)
    clear hK K
    try simp only [Act.put,List.setIfInBounds_toArray,List.set_cons_zero,List.set_cons_succ]
    refine wpAnyH_take (i:=29) (v:=?_) (by simp only [List.getElem?_toArray,List.getElem?_cons_succ,List.getElem?_cons_zero]; rfl) (by kernel_rfl) (by kernel_rfl) (by kernel_rfl) (fun _ _ _ h=>h) (Or.inl ⟨by rfl,?_⟩) (by assumption) ?_
    rotate_left 1
    ·intro w hSw; (try dsimp only at hSw); go_simp; (try with_reducible rfl)
    try simp only [Act.put,List.setIfInBounds_toArray,List.set_cons_zero,List.set_cons_succ]
    refine wpAnyH_ready (rs:=[30]) (by kernel_rfl) (by simp) ?_
    refine AllReadyH.cons (by simp only [List.getElem?_toArray,List.getElem?_cons_succ,List.getElem?_cons_zero]; rfl) (fun K hK=>?_) AllReadyH.nil
    go_simp
    have ht:=(Tc.refl [] w3).alloc (.cells zer5 26)
    have hq:=heap_alloc_new w3 (.cells zer5 26)
    have hql:=ltB HB.out
    have HDO:Hid (∀ a,so = some a → a.block ≠ w3.heap.size):=fun a ha=>by have:=(HI.out.2 a ha).2; omega
    have HDR:Hid (∀ a,sr = some a → a.block ≠ w3.heap.size):=fun a ha=>by have:=(HW.out.2 a ha).2; omega
    replace HB:=hid ((ht.block _ (ltB HB.out) (by simp)).trans HB.out)
    replace HI:=hid (And.intro (HI.out.1.touch ht (by simp)) (fun a ha=>And.intro (HI.out.2 a ha).1 (Nat.lt_of_lt_of_le (HI.out.2 a ha).2 ht.size)))
    replace HW:=hid (And.intro (HW.out.1.touch ht (by simp)) (fun a ha=>And.intro (HW.out.2 a ha).1 (Nat.lt_of_lt_of_le (HW.out.2 a ha).2 ht.size)))
    replace HT:=hid (HT.out.trans ht (by simp))
    replace cf0:=HC.out _ HT.out
    clear ht
    have HQ:=hid hq
    clear hq
    generalize w3.alloc (.cells zer5 26) = WQ at *
    generalize w3.heap.size = q at *
    clear hHeld
    refine hK.out _ _ cf0 (fun hHeld=>?_)
    clear hK K
    try simp only [Act.put,List.setIfInBounds_toArray,List.set_cons_zero,List.set_cons_succ]
    have hcq:=fun i=>cRw HQ.out i
    have huq:=fun i=>uRw HQ.out i
    refine wpAnyH_ready (rs:=[31]) (by kernel_rfl) (by simp) ?_
    refine AllReadyH.cons (by simp only [List.getElem?_toArray,List.getElem?_cons_succ,List.getElem?_cons_zero]; rfl) (fun K hK=>?_) AllReadyH.nil
    go_simp
    have M:=hid (mid4_store (vv:=0) HVV.out (co:=co) (cr:=cr) HT.out HB.out HQ.out hql (HTB.out _ _ _ HI.out.1 HW.out.1) (fun a ha=>⟨(HI.out.2 a ha).1,HDO.out a ha⟩) (fun a ha=>⟨(HW.out.2 a ha).1,HDR.out a ha⟩))
    replace cf0:=HC.out _ M.out.touch
    clear hHeld
    refine hK.out _ _ cf0 (fun hHeld=>?_)
    clear hK K
    try simp only [Act.put,List.setIfInBounds_toArray,List.set_cons_zero,List.set_cons_succ]
    refine wpAnyH_done (by kernel_rfl) ?_ _
    refine NoPanic.normal ?_
    go_wp2_with fail
    go_meet
    exact ⟨q,rfl,M⟩
   ·go_simp
    have ht:=(Tc.refl [] w2).alloc (.cells zer5 26)
    have hq:=heap_alloc_new w2 (.cells zer5 26)
    have hql:=ltB HB.out
    have HDO:Hid (∀ a,so = some a → a.block ≠ w2.heap.size):=fun a ha=>by have:=(HI.out.2 a ha).2; omega
    replace HB:=hid ((ht.block _ (ltB HB.out) (by simp)).trans HB.out)
    replace HI:=hid (And.intro (HI.out.1.touch ht (by simp)) (fun a ha=>And.intro (HI.out.2 a ha).1 (Nat.lt_of_lt_of_le (HI.out.2 a ha).2 ht.size)))
    replace HT:=hid (HT.out.trans ht (by simp))
    replace cf0:=HC.out _ HT.out
    clear ht
    have HQ:=hid hq
    clear hq
    generalize w2.alloc (.cells zer5 26) = WQ at *
    generalize w2.heap.size = q at *
    clear hHeld
    refine hK.out _ _ cf0 (fun hHeld=>?_)
    clear hK K
    try simp only [Act.put,List.setIfInBounds_toArray,List.set_cons_zero,List.set_cons_succ]
    refine wpAnyH_ready (rs:=[17]) (by kernel_rfl) (by simp) ?_
    refine AllReadyH.cons (by simp only [List.getElem?_toArray,List.getElem?_cons_succ,List.getElem?_cons_zero]; rfl) (fun K hK=>?_) AllReadyH.nil
    go_simp
    go_at_call 161
    with_reducible refine (H2.out _ HT.out).mono ?_
    rintro e w3 ⟨sr,cr,rfl,hi,hb8,ht⟩
    have hb9:=ltB HB.out
    have HW:=hid (And.intro hi (fun a ha=>And.intro (show w.heap.size < a.block by have:=(hb8 a ha).1; omega) (hb8 a ha).2))
    have HDR:Hid (∀ a,sr = some a → a.block ≠ q):=fun a ha=>by have:=(hb8 a ha).1; have:=ltB HQ.out; omega
    clear hi hb8 hb9
    replace HB:=hid ((ht.block _ (ltB HB.out) (by simp)).trans HB.out)
    replace HI:=hid (And.intro (HI.out.1.touch ht (by simp)) (fun a ha=>And.intro (HI.out.2 a ha).1 (Nat.lt_of_lt_of_le (HI.out.2 a ha).2 ht.size)))
    replace HQ:=hid ((ht.block _ (ltB HQ.out) (by simp)).trans HQ.out)
    replace HT:=hid (HT.out.trans ht (by simp))
    replace cf0:=HC.out _ HT.out
    clear ht
    go_wp2_with fail
    clear hHeld
    refine hK.out _ _ cf0 (fun hHeld=>?_)
    clear hK K
    try simp only [Act.put,List.setIfInBounds_toArray,List.set_cons_zero,List.set_cons_succ]
    refine wpAnyH_take (i:=29) (v:=?_) (by simp only [List.getElem?_toArray,List.getElem?_cons_succ,List.getElem?_cons_zero]; rfl) (by kernel_rfl) (by kernel_rfl) (by kernel_rfl) (fun _ _ _ h=>h) (Or.inl ⟨by rfl,?_⟩) (by assumption) ?_
    rotate_left 1
    ·intro w hSw; (try dsimp only at hSw); go_simp; (try with_reducible rfl)
    try simp only [Act.put,List.setIfInBounds_toArray,List.set_cons_zero,List.set_cons_succ]
    have hcq:=fun i=>cRw HQ.out i
    have huq:=fun i=>uRw HQ.out i
    refine wpAnyH_ready (rs:=[31]) (by kernel_rfl) (by simp) ?_
    refine AllReadyH.cons (by simp only [List.getElem?_toArray,List.getElem?_cons_succ,List.getElem?_cons_zero]; rfl) (fun K hK=>?_) AllReadyH.nil
    go_simp
    have M:=hid (mid4_store (vv:=0) HVV.out (co:=co) (cr:=cr) HT.out HB.out HQ.out hql (HTB.out _ _ _ HI.out.1 HW.out.1) (fun a ha=>⟨(HI.out.2 a ha).1,HDO.out a ha⟩) (fun a ha=>⟨(HW.out.2 a ha).1,HDR.out a ha⟩))
    replace cf0:=HC.out _ M.out.touch
    clear hHeld
    refine hK.out _ _ cf0 (fun hHeld=>?_)
    clear hK K
    try simp only [Act.put,List.setIfInBounds_toArray,List.set_cons_zero,List.set_cons_succ]
    refine wpAnyH_done (by kernel_rfl) ?_ _
    refine NoPanic.normal ?_
    go_wp2_with fail
    go_meet
    exact ⟨q,rfl,M⟩
  ·go_simp
   have ht:=(Tc.refl [] Y).alloc (.cells zer5 26)
   have hq:=heap_alloc_new Y (.cells zer5 26)
   have hql:=ltB HB.out
   replace HB:=hid ((ht.block _ (ltB HB.out) (by simp)).trans HB.out)
   replace HT:=hid (HT.out.trans ht (by simp))
   replace cf0:=HC.out _ HT.out
   clear ht
   have HQ:=hid hq
   clear hq
   generalize Y.alloc (.cells zer5 26) = WQ at *
   generalize Y.heap.size = q at *
   clear hHeld
   refine hK.out _ _ cf0 (fun hHeld=>?_)
   clear hK K
   try simp only [Act.put,List.setIfInBounds_toArray,List.set_cons_zero,List.set_cons_succ]
   refine wpAnyH_ready (rs:=[8]) (by kernel_rfl) (by simp) ?_
   refine AllReadyH.cons (by simp only [List.getElem?_toArray,List.getElem?_cons_succ,List.getElem?_cons_zero]; rfl) (fun K hK=>?_) AllReadyH.nil
   go_simp
   go_at_call 160
   with_reducible refine (H1.out _ HT.out).mono ?_
   rintro e w2 ⟨so,co,rfl,hi,hb8,ht⟩
   have hb9:=ltB HB.out
   have HI:=hid (And.intro hi (fun a ha=>And.intro (show w.heap.size < a.block by have:=(hb8 a ha).1; omega) (hb8 a ha).2))
   have HDO:Hid (∀ a,so = some a → a.block ≠ q):=fun a ha=>by have:=(hb8 a ha).1; have:=ltB HQ.out; omega
   clear hi hb8 hb9
   replace HB:=hid ((ht.block _ (ltB HB.out) (by simp)).trans HB.out)
   replace HQ:=hid ((ht.block _ (ltB HQ.out) (by simp)).trans HQ.out)
   replace HT:=hid (HT.out.trans ht (by simp))
   replace cf0:=HC.out _ HT.out
   clear ht
   go_wp2_with fail
   clear hHeld
   refine hK.out _ _ cf0 (fun hHeld=>?_)
   clear hK K
   try simp only [Act.put,List.setIfInBounds_toArray,List.set_cons_zero,List.set_cons_succ]
   refine wpAnyH_ready (rs:=[17]) (by kernel_rfl) (by simp) ?_
   refine AllReadyH.cons (by simp only [List.getElem?_toArray,List.getElem?_cons_succ,List.getElem?_cons_zero]; rfl) (fun K hK=>?_) AllReadyH.nil
   go_simp
   go_at_call 161
   with_reducible refine (H2.out _ HT.out).mono ?_
   rintro e w3 ⟨sr,cr,rfl,hi,hb8,ht⟩
   have hb9:=ltB HB.out
   have HW:=hid (And.intro hi (fun a ha=>And.intro (show w.heap.size < a.block by have:=(hb8 a ha).1; omega) (hb8 a ha).2))
   have HDR:Hid (∀ a,sr = some a → a.block ≠ q):=fun a ha=>by have:=(hb8 a ha).1; have:=ltB HQ.out; omega
   clear hi hb8 hb9
   replace HB:=hid ((ht.block _ (ltB HB.out) (by simp)).trans HB.out)
   replace HI:=hid (And.intro (HI.out.1.touch ht (by simp)) (fun a ha=>And.intro (HI.out.2 a ha).1 (Nat.lt_of_lt_of_le (HI.out.2 a ha).2 ht.size)))
   replace HQ:=hid ((ht.block _ (ltB HQ.out) (by simp)).trans HQ.out)
   replace HT:=hid (HT.out.trans ht (by simp))
   replace cf0:=HC.out _ HT.out
   clear ht
   go_wp2_with fail
   clear hHeld
   refine hK.out _ _ cf0 (fun hHeld=>?_)
   clear hK K
   try simp only [Act.put,List.setIfInBounds_toArray,List.set_cons_zero,List.set_cons_succ]
   refine wpAnyH_take (i:=29) (v:=?_) (by simp only [List.getElem?_toArray,List.getElem?_cons_succ,List.getElem?_cons_zero]; rfl) (by kernel_rfl) (by kernel_rfl) (by kernel_rfl) (fun _ _ _ h=>h) (Or.inl ⟨by rfl,?_⟩) (by assumption) ?_
   rotate_left 1
   ·intro w hSw; (try dsimp only at hSw); go_simp; (try with_reducible rfl)
   try simp only [Act.put,List.setIfInBounds_toArray,List.set_cons_zero,List.set_cons_succ]
   have hcq:=fun i=>cRw HQ.out i
   have huq:=fun i=>uRw HQ.out i
   refine wpAnyH_ready (rs:=[31]) (by kernel_rfl) (by simp) ?_
   refine AllReadyH.cons (by simp only [List.getElem?_toArray,List.getElem?_cons_succ,List.getElem?_cons_zero]; rfl) (fun K hK=>?_) AllReadyH.nil
   go_simp
   have M:=hid (mid4_store (vv:=0) HVV.out (co:=co) (cr:=cr) HT.out HB.out HQ.out hql (HTB.out _ _ _ HI.out.1 HW.out.1) (fun a ha=>⟨(HI.out.2 a ha).1,HDO.out a ha⟩) (fun a ha=>⟨(HW.out.2 a ha).1,HDR.out a ha⟩))
   replace cf0:=HC.out _ M.out.touch
   clear hHeld
   refine hK.out _ _ cf0 (fun hHeld=>?_)
   clear hK K
   try simp only [Act.put,List.setIfInBounds_toArray,List.set_cons_zero,List.set_cons_succ]
   refine wpAnyH_done (by kernel_rfl) ?_ _
   refine NoPanic.normal ?_
   go_wp2_with fail
   go_meet
   exact ⟨q,rfl,M⟩
 case rest =>
  obtain ⟨q,rfl,M⟩:=hcut
  obtain ⟨so,sr,co,cr,hq,hT,h1,h2⟩:=M.out.tbl
  have hres:=M.out.res
  have hne9:=M.out.ne
  have hql:=ltB hq
  have HF:=hid (fun W (tt:Tc [] wc W)=>formed_any (co:=co) (cr:=cr) (hT.touch tt (by simp) (by simp)))
  have HH:=hid (And.intro hT (And.intro h1 h2))
  have HMT:=hid M.out.touch
  have HQ5:=hid (fun W (tt:Tc [] wc W)=>fun i=>cRw ((tt.block q (ltB hq) (by simp)).trans hq) i)
  have HR5:=hid (fun W (tt:Tc [] wc W)=>(tt.block w.heap.size (ltB hres) (by simp)).trans hres)
  clear hT h1 h2 hq hres M HC H1 H2 HTB
  simp only [tblV,tblC] at *
  have HT5:=hid (Tc.refl [] wc).drew
  have cf0:=HQ5.out wc.drew HT5.out
  have HQL:=hid hql
  clear hql
  go_wp2_with fail
  refine wp_region_noPanic ?_
  refine wp_region_held_drew (S:=fun W=>(∀ i,W.cell? ⟨q,i,none⟩ = #[Value.int .i64 t.tbl.vars,.slice so t.tbl.order.length co,.slice sr t.tbl.rows.length cr,.int .i64 t.tbl.next,.int .u64 (t.tbl.nf:Int)][i]?)) (by kernel_rfl) cf0 (fun hHeld=>?_)
  generalize wc.drew = Y at *
  refine wpAnyH_take (i:=0) (v:=?_) (by simp only [List.getElem?_toArray,List.getElem?_cons_zero]; rfl) (by kernel_rfl) (by kernel_rfl) (by kernel_rfl) (fun _ _ _ h=>h) (Or.inl ⟨by rfl,?_⟩) (by assumption) ?_
  rotate_left 1
  ·intro w hSw; (try dsimp only at hSw); go_simp; (try with_reducible rfl)
  try simp only [Act.put,List.setIfInBounds_toArray,List.set_cons_zero,List.set_cons_succ]
  refine wpAnyH_take (i:=1) (v:=?_) (by simp only [List.getElem?_toArray,List.getElem?_cons_succ,List.getElem?_cons_zero]; rfl) (by kernel_rfl) (by kernel_rfl) (by kernel_rfl) (fun _ _ _ h=>h) (Or.inl ⟨by rfl,?_⟩) (by assumption) ?_
  rotate_left 1
  ·intro w hSw; (try dsimp only at hSw); go_simp; (try with_reducible rfl)
  try simp only [Act.put,List.setIfInBounds_toArray,List.set_cons_zero,List.set_cons_succ]
  refine wpAnyH_ready (rs:=[2]) (by kernel_rfl) (by simp) ?_
  refine AllReadyH.cons (by simp only [List.getElem?_toArray,List.getElem?_cons_succ,List.getElem?_cons_zero]; rfl) (fun K hK=>?_) AllReadyH.nil
  go_simp
  go_at_call 11
  with_reducible refine (HF.out _ HT5.out).mono ?_
  rintro e w5 ⟨rfl,ht5⟩
  replace HT5:=hid (HT5.out.trans ht5 (by simp))
  clear ht5
  replace cf0:=HQ5.out _ HT5.out
  go_wp2_with fail
  clear hHeld
  refine hK.out _ _ cf0 (fun hHeld=>?_)
  clear hK K
  try simp only [Act.put,List.setIfInBounds_toArray,List.set_cons_zero,List.set_cons_succ]
  have hr5:=HR5.out _ HT5.out
  have c5:=fun i=>cRw hr5 i
  have u5:=fun i=>uRw hr5 i
  obtain ⟨W6,e6,hr6,t6⟩:=box5 hr5 (.int .i64 t.tbl.vars) (.slice so t.tbl.order.length co) (.slice sr t.tbl.rows.length cr) (.int .i64 t.tbl.next) (.int .u64 (t.tbl.nf:Int))
  have HT6:=hid t6
  have HE6:=hid e6
  clear t6 e6
  have HB6:=hid (Nat.lt_of_lt_of_le HQL.out HT5.out.size)
  refine wpAnyH_ready (rs:=[3]) (by kernel_rfl) (by simp) ?_
  refine AllReadyH.cons (by simp only [List.getElem?_toArray,List.getElem?_cons_succ,List.getElem?_cons_zero]; rfl) (fun K hK=>?_) AllReadyH.nil
  go_simp
  rw [← HE6.out]
  have cf6:(∀ i,W6.cell? ⟨q,i,none⟩ = #[Value.int .i64 t.tbl.vars,.slice so t.tbl.order.length co,.slice sr t.tbl.rows.length cr,.int .i64 t.tbl.next,.int .u64 (t.tbl.nf:Int)][i]?):=fun i=>(HT6.out.cell (p:=⟨q,i,none⟩) HB6.out (by simpa using hne9)).trans (cf0 i)
  clear hHeld
  refine hK.out _ _ cf6 (fun hHeld=>?_)
  clear hK K
  try simp only [Act.put,List.setIfInBounds_toArray,List.set_cons_zero,List.set_cons_succ]
  refine wpAnyH_take (i:=4) (v:=?_) (by simp only [List.getElem?_toArray,List.getElem?_cons_succ,List.getElem?_cons_zero]; rfl) (by kernel_rfl) (by kernel_rfl) (by kernel_rfl) (fun _ _ _ h=>h) (Or.inl ⟨by rfl,?_⟩) (by assumption) ?_
  rotate_left 1
  ·intro w hSw; (try dsimp only at hSw); go_simp; (try with_reducible rfl)
  try simp only [Act.put,List.setIfInBounds_toArray,List.set_cons_zero,List.set_cons_succ]
  refine wpAnyH_done (by kernel_rfl) ?_ _
  refine NoPanic.normal ?_
  go_wp2_with fail
  have c6:=fun i=>cRw hr6 i
  refine bodyPost_ret (v:=.tuple #[tblV t.tbl so sr co cr,.bool (fmB t.tbl)]) (by simp [results,Tryz.results110,go_sem,c6,tblV]) rfl ?_
  rw [HR.out]
  have tt6:Tc [] w W6:=(HMT.out.trans HT5.out (by simp)).trans HT6.out (fun y hy=>by simp at hy; exact .inr (by omega))
  have tt7:Tc [w.heap.size] wc W6:=(HT5.out.mono (by simp)).trans HT6.out (fun y hy=>.inl hy)
  exact ⟨_,rfl,⟨so,sr,co,cr,rfl,HH.out.1.touch tt7 (fun a ha=>by simpa using (HH.out.2.1 a ha).2) (fun a ha=>by simpa using (HH.out.2.2 a ha).2),fun a ha=>(HH.out.2.1 a ha).1,fun a ha=>(HH.out.2.2 a ha).1⟩,tt6⟩
end
section
variable {w:World} {tb:Nat} {gl:List Nat} {t:Told}
theorem table_any (h:ToldAt w tb gl t) (ho:t.Ok) (gen:Nat) (hg:gen < 18446744073709551616) :
  Calls Tryz.prog 110 #[ptr tb,.int .u64 (gen:Int)] w fun e w'=>∃ v,e = .returned (.tuple #[v,.bool (t.tableB gen).2]) ∧ NewTbl w' w.heap.size (t.tableB gen).1 v ∧ Tc [] w w':=by
 by_cases he:t.fin.2.1 = gen
 ·obtain ⟨v,hb,hown,hgl,htg⟩:=h
  rcases hown.2 with ⟨rfl,h0⟩ | ⟨g,cap,cur,rfl,-,hgg,hcap,-⟩
  ·have hl:t.list = []:=List.eq_nil_of_length_eq_zero h0
   have hz:t.levels = 0:=by have:=ho.le; omega
   refine table_nil (g:=0) (cap:=0) (by rw [hb]; simp [hz]) ?_ ?_ (by omega) ho gen hg he hl
   ·rw [hl]; exact ⟨fun k hk=>absurd hk (by simp)⟩
   ·rw [hl]; exact ⟨fun k hk=>absurd hk (by simp)⟩
  ·obtain ⟨p1,p2⟩:=own_pairs hown ho.le
   by_cases hlt:t.levels < t.list.length
   ·exact table_lt hb p1 p2 hcap ho gen hg he hlt
   ·have heq:t.levels = t.list.length:=by have:=ho.le; omega
    refine table_eq (by rw [heq]; exact heq ▸ hb) p1 ?_ hcap ho gen hg he heq
    rw [heq,List.drop_length]
    exact ⟨fun k hk=>absurd hk (by simp)⟩
 ·exact table_other h gen hg he
end
theorem Tc.putObj {F:List Nat} {a w:World} (h:Tc F a w) {r:Nat} (o:Obj) (hr:r ∈ F ∨ a.heap.size ≤ r):Tc F a (w.putObj r o):=
 ⟨h.os,h.tape,h.output,Nat.le_trans h.size (by simp),fun k hk hF=>(World.putObj_heap_other (fun e=>by subst e; rcases hr with h1 | h1; exact hF h1; omega)).trans (h.block k hk hF)⟩
structure RfRec where
 fn:FuncId
 tmps:Array Value
 ps:Array Tmp
 assign:Code
 body:Code
 D:Nat
def RfRec.at (q:RfRec) (st:LoopState) (pe:Option Code):Loop:={ state:=st,pending:=pe,fn:=q.fn,tmps:=q.tmps,params:=q.ps,assign:=q.assign,body:=q.body,defers:=q.D }
section
variable {P:Program} {m:Nat}
theorem wp_range {g:Operand} {ps:Array Tmp} {assign body:Code} {Q:Exit → Act → World → Prop} {a:Act} {w:World} {gf:Nat} {lb:Array Value} (hg:a.eval g = .func (.func gf) #[] lb) (eg:∀ args w,(callFunc gf args).run P w = .ok (.enter gf args) w)
  (H:∀ (q:RfRec) (W1:World),q.tmps = a.tmps → q.ps = ps → q.assign = assign → q.body = body → W1.heap[w.heap.size + 1]? = some (.loop (q.at .ready none)) → W1.heap[w.heap.size]? = some (.deferred (some [])) → Tc [] w W1 → W1.heap.size = w.heap.size + 2 →
   CallsIn Fence.wide m P gf (#[.func (.yield (w.heap.size + 1)) #[] #[]] ++ lb) W1 fun e W2=>(∃ v,e = .returned v) ∧ ∃ st pe,st ≠ .busy ∧ W2.heap[w.heap.size + 1]? = some (.loop (q.at st pe)) ∧
    ∀ W3,W3 = W2.putObj (w.heap.size + 1) (.loop (q.at .exhausted pe)) → (match pe with
     | none=>Q .normal { a with defers:={ target:=.collected w.heap.size,args:=#[] } :: a.defers } W3
     | some c=>c.wp P Q { a with defers:={ target:=.collected w.heap.size,args:=#[] } :: a.defers } W3)) :
  (Code.rangeFunc g ps assign body).wp P Q a w:=by
 refine (wpIn_wide (n:=m + 1)).1 (wpIn_rangeFunc ?_)
 intro fn hfn
 obtain ⟨q,hq⟩:∃ q:RfRec,q = ⟨fn,a.tmps,ps,assign,body,w.heap.size⟩:=⟨_,rfl⟩
 obtain ⟨W1,hW1⟩:∃ W1,(w.alloc (.deferred (some []))).alloc (.loop (q.at .ready none)) = W1:=⟨_,rfl⟩
 have hL1:W1.heap[w.heap.size + 1]? = some (.loop (q.at .ready none)):=by
  rw [← hW1]; have:=World.alloc_heap_new (w.alloc (.deferred (some []))) (.loop (q.at .ready none)); rwa [World.size_alloc] at this
 have hK1:W1.heap[w.heap.size]? = some (.deferred (some [])):=by
  rw [← hW1]; exact (Below.heap_alloc _ _ _ (by simp)).trans (World.alloc_heap_new w _)
 refine ⟨w.heap.size + 1,[{ target:=.collected w.heap.size,args:=#[] }],W1,{ target:=.fn (.func gf) lb,args:=#[.func (.yield (w.heap.size + 1)) #[] #[]] },W1,gf,
  #[.func (.yield (w.heap.size + 1)) #[] #[]] ++ lb,W1,?_,?_,fun _ _=>trivial,?_,fun h=>(by cases h),?_⟩
 ·rw [← hW1,hq]; exact run_enterLoop_outer _ _ _ _ _
 ·simp only [resolve,hg]
  simp [go_sem]
 ·simp [invoke,go_sem,eg]
 ·refine ⟨trivial,(H q W1 (by rw [hq]) (by rw [hq]) (by rw [hq]) (by rw [hq]) hL1 hK1 (by rw [← hW1]; exact ((Tc.refl [] w).alloc _).alloc _) (by rw [← hW1]; simp)).2 |> fun h=>?_⟩
  intro cs hr
  obtain ⟨e,w',fr,⟨⟨v,rfl⟩,st,pe,hst,hl,hQ⟩,hs,hx⟩:=h cs hr
  refine ⟨.returned v,w',fr,⟨pe,w'.putObj (w.heap.size + 1) (.loop (q.at .exhausted pe)),run_endLoop hl hst,?_⟩,hs,hx⟩
  have:=hQ _ rfl
  cases pe with
  | none=>exact this
  | some c=>exact wpIn_wide.2 this
theorem yield_round {q:RfRec} {L:Nat} {X:World} {args:Array Value} {R:Ending → World → Prop} (hl:X.heap[L]? = some (.loop (q.at .ready none))) (hs:args.size = q.ps.size)
  (H:q.assign.wpIn (Fence.wide.inRound L) m P (Exit.then (fun a₁ w₁=>w₁.heap[L]? = some (.loop (q.at .ready none)) ∧ q.body.wpIn (Fence.wide.inRound L) m P (roundPost P L R) a₁ (w₁.putObj L (.loop (q.at .busy none)))) (fun _ _ _=>False)) { tmps:=(q.ps.zip args).foldl (fun t (p,v)=>t.setIfInBounds p v) q.tmps,defers:=[] } X) :
  YieldAt Fence.wide m P L args X R:=by
 refine ⟨q.fn,_,q.assign,q.body,run_yield hl hs,roundIn_of_wpIn trivial (wpIn_mono H ?_)⟩
 intro e a1 w1 h
 cases e with
 | normal=>exact ⟨_,run_beginRound h.1 rfl,h.2⟩
 | _=>exact h.elim
theorem round_on {q:RfRec} {L:Nat} {X:World} {a:Act} {R:Ending → World → Prop} (hl:X.heap[L]? = some (.loop (q.at .busy none))) (h:R (.returned (.bool true)) (X.putObj L (.loop (q.at .ready none)))):roundPost P L R .normal a X:=
 ⟨_,_,run_endRound none hl,h⟩
end
theorem Told.Ok.fold {l:List Rc}:∀ {t:Told},t.Ok → (∀ r ∈ l,Rc.Ok r) → (l.foldl Told.take t).Ok:=by
 induction l with
 | nil=>intro t h _; exact h
 | cons r l ih=>intro t h hr; exact ih (h.take (hr r (by simp))) (fun x hx=>hr x (by simp [hx]))
theorem Told.Ok.new:Told.new.Ok:=⟨by decide,by decide,by decide,⟨by decide,by decide,by decide,by decide⟩,fun p hp=>by cases hp⟩
structure TeO (b:Bn) (kb tb r4 r5 L D:Nat) (rec:Loop) (l:List Rc) (G:List Nat) (j:Nat) (X:World):Prop where
 told:∃ gl,ToldAt X tb gl ((l.take j).foldl Told.take Told.new) ∧ G = [tb,r4,r5,L,D] ++ gl ∧ ∀ y ∈ gl,y ∉ [tb,r4,r5,L,D]
 h4:X.heap[r4]? = some (.cells zer5 26 (0,0))
 h5:X.heap[r5]? = some (.cells #[.int .i64 0] 46 (0,0))
 hl:X.heap[L]? = some (.loop rec)
 hd:X.heap[D]? = some (.deferred (some []))
 base:∀ y ∈ G,y < X.heap.size ∧ b.lo ≤ y ∧ y ≠ kb
section
variable {w w' X X':World} {b:Bn} {kb tb r4 r5 L D:Nat} {rec rec':Loop} {l:List Rc} {G:List Nat} {j:Nat} {t:Told} {gl:List Nat}
theorem ToldAt.touch2 {Q:List Nat} (h:ToldAt X tb gl t) (q:Tc Q X X') (h1:tb ∉ Q) (h2:∀ y ∈ gl,y ∉ Q):ToldAt X' tb gl t:=by
 obtain ⟨v,hb,hown,hgl,htg⟩:=h
 refine ⟨v,(q.block _ (ltB hb) h1).trans hb,?_,hgl,htg⟩
 refine ⟨hown.1,?_⟩
 rcases hown.2 with hn | ⟨g,cap,cur,hv,hb,hr,rest⟩
 ·exact .inl hn
 ·refine .inr ⟨g,cap,cur,hv,hb,(q.block g (ltB hr) (h2 g ?_)).trans hr,rest⟩
  rw [hgl,hv]
  simp [Value.ownBlock]
theorem ToldAt.uniq {gl':List Nat} {t':Told} (h:ToldAt X tb gl t) (h':ToldAt X tb gl' t'):gl = gl':=by
 obtain ⟨v,hb,-,hgl,-⟩:=h
 obtain ⟨v',hb',-,hgl',-⟩:=h'
 rw [hb] at hb'
 simp only [Option.some.injEq,Obj.cells.injEq,Array.mk.injEq,List.cons.injEq] at hb'
 rw [hgl,hgl',hb'.1.1]
theorem TeO.ok:OwX b kb (TeO b kb tb r4 r5 L D rec l) where
 kept G j W1 W2 Q o q hQ:=by
  obtain ⟨gl,h1,h2,h3⟩:=o.told
  have h:∀ y ∈ G,y ∉ Q:=fun y hy hx=>hQ y hx hy
  have m:∀ y ∈ [tb,r4,r5,L,D],y ∉ Q:=fun y hy=>h y (by rw [h2]; exact List.mem_append_left _ hy)
  exact ⟨⟨gl,h1.touch2 q (m _ (by simp)) (fun y hy=>h y (by rw [h2]; exact List.mem_append_right _ hy)),h2,h3⟩,(q.block _ (ltB o.h4) (m _ (by simp))).trans o.h4,(q.block _ (ltB o.h5) (m _ (by simp))).trans o.h5,(q.block _ (ltB o.hl) (m _ (by simp))).trans o.hl,(q.block _ (ltB o.hd) (m _ (by simp))).trans o.hd,fun y hy=>⟨Nat.lt_of_lt_of_le (o.base y hy).1 q.size,(o.base y hy).2⟩⟩
 lt G j W o:=o.base
theorem TeO.loop (o:TeO b kb tb r4 r5 L D rec l G j X) (hn:L ∉ [tb,r4,r5,D]):TeO b kb tb r4 r5 L D rec' l G j (X.putObj L (.loop rec')):=by
 have q:Tc [L] X (X.putObj L (.loop rec')):=(Tc.refl [L] X).putObj _ (by simp)
 obtain ⟨gl,h1,h2,h3⟩:=o.told
 have m:∀ y ∈ [tb,r4,r5,D],y ∉ [L]:=fun y hy hx=>by simp at hx; subst hx; exact hn hy
 refine ⟨⟨gl,h1.touch2 q (m _ (by simp)) (fun y hy hx=>?_),h2,h3⟩,(q.block _ (ltB o.h4) (m _ (by simp))).trans o.h4,(q.block _ (ltB o.h5) (m _ (by simp))).trans o.h5,World.putObj_heap_same (ltB o.hl),(q.block _ (ltB o.hd) (m _ (by simp))).trans o.hd,fun y hy=>⟨Nat.lt_of_lt_of_le (o.base y hy).1 q.size,(o.base y hy).2⟩⟩
 simp at hx
 subst hx
 exact h3 _ hy (by simp)
theorem TeO.took (o:TeO b kb tb r4 r5 L D rec l G j X) (hj:j < l.length) {gl:List Nat} (hg:ToldAt X tb gl ((l.take j).foldl Told.take Told.new)) (h:Took X X' tb gl (((l.take j).foldl Told.take Told.new).take l[j])) (hb:b.lo ≤ X.heap.size ∧ kb < X.heap.size) (hn:tb ∉ [r4,r5,L,D]) :
  ∃ G2,TeO b kb tb r4 r5 L D rec l G2 (j + 1) X' ∧ Tc G X X' ∧ ∀ y ∈ G2,y ∈ G ∨ X.heap.size ≤ y:=by
 obtain ⟨gl0,h1,h2,h3⟩:=o.told
 obtain rfl:=hg.uniq h1
 obtain ⟨gl2,k1,q,k3⟩:=h
 have m:∀ y ∈ [r4,r5,L,D],y ∉ tb :: gl:=fun y hy hx=>by
  simp only [List.mem_cons] at hx
  rcases hx with rfl | hx
  ·exact hn hy
  ·exact h3 y hx (List.mem_cons_of_mem _ hy)
 have lt:∀ y ∈ [tb,r4,r5,L,D],y < X.heap.size:=fun y hy=>(o.base y (by rw [h2]; exact List.mem_append_left _ hy)).1
 have hst:(l.take (j + 1)).foldl Told.take Told.new = ((l.take j).foldl Told.take Told.new).take l[j]:=by rw [List.take_succ_eq_append_getElem hj,List.foldl_append]; rfl
 refine ⟨[tb,r4,r5,L,D] ++ gl2,⟨⟨gl2,by rw [hst]; exact k1,rfl,fun y hy hx=>?_⟩,(q.block _ (ltB o.h4) (m _ (by simp))).trans o.h4,(q.block _ (ltB o.h5) (m _ (by simp))).trans o.h5,(q.block _ (ltB o.hl) (m _ (by simp))).trans o.hl,(q.block _ (ltB o.hd) (m _ (by simp))).trans o.hd,fun y hy=>?_⟩,q.mono (fun y hy=>?_),fun y hy=>?_⟩
 ·rcases k3 y hy with h | h
  ·exact h3 y h hx
  ·have:=lt y hx; omega
 ·rcases List.mem_append.1 hy with h | h
  ·have h5:=o.base y (by rw [h2]; exact List.mem_append_left _ h)
   exact ⟨Nat.lt_of_lt_of_le h5.1 q.size,h5.2⟩
  ·have hlt:y < X'.heap.size:=by
    obtain ⟨v,-,hown,hgl,-⟩:=k1
    rw [hgl] at h
    rcases hown.2 with ⟨hv,_⟩ | ⟨g,cap,cur,hv,hb,hr,rest⟩
    ·rw [hv] at h; simp [Value.ownBlock] at h
    ·rw [hv] at h; simp [Value.ownBlock] at h; subst h; exact ltB hr
   rcases k3 y h with h6 | h6
   ·have h5:=o.base y (by rw [h2]; exact List.mem_append_right _ h6)
    exact ⟨hlt,h5.2⟩
   ·exact ⟨hlt,by omega,by omega⟩
 ·rw [h2]
  simp only [List.mem_cons] at hy
  rcases hy with rfl | hy
  ·simp
  ·exact List.mem_append_right _ hy
 ·rcases List.mem_append.1 hy with h | h
  ·exact .inl (by rw [h2]; exact List.mem_append_left _ h)
  ·rcases k3 y h with h6 | h6
   ·exact .inl (by rw [h2]; exact List.mem_append_right _ h6)
   ·exact .inr h6
end
end Go.Proofs.YthehcjjckabljaaGreatDoor
