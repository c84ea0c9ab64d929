import Derived.Deep.DeepCutAuto
import Derived.Test.YthehcjjckabljaaGreatDoorC16
namespace Go.Proofs.YthehcjjckabljaaGreatDoor
open Go.RowKit Go.Deep
set_option linter.unusedSimpArgs false
set_option linter.unusedVariables false
theorem sgn_u64 {x:Int} (h:-9223372036854775808 ≤ x ∧ x < 9223372036854775808):sgn (u64N x) = x:=by
 unfold sgn u64N wrap64
 omega
theorem u64N_lt (x:Int):u64N x < 18446744073709551616:=by unfold u64N; omega
theorem u64N_small {x:Int} (h:0 ≤ x ∧ x < 18446744073709551616):(u64N x:Int) = x:=by unfold u64N; omega
structure Tbl.Num (t:Tbl):Prop where
 vars:-9223372036854775808 ≤ t.vars ∧ t.vars < 9223372036854775808
 next:-9223372036854775808 ≤ t.next ∧ t.next < 9223372036854775808
 nf:t.nf < 18446744073709551616
 oi:∀ x ∈ t.order,-9223372036854775808 ≤ x ∧ x < 9223372036854775808
 ri:∀ x ∈ t.rows,(-9223372036854775808 ≤ x.1 ∧ x.1 < 9223372036854775808) ∧ x.2 < 18446744073709551616
theorem TblAt.num {w:World} {t:Tbl} {so sr:Option Addr} (h:TblAt w t so sr):t.Num:=⟨h.vars,h.next,h.nf,h.oi,h.ri⟩
def ordP (o:List Int) (k:Nat):List (Nat × Nat):=(o.zipIdx k).map fun x=>(x.2,u64N x.1)
def rowP (l:List (Int × Nat)):List (Nat × Nat):=l.map fun r=>(u64N r.1,r.2)
theorem ordP_len (o:List Int) (k:Nat):(ordP o k).length = o.length:=by simp [ordP]
theorem fold_levels:∀ (o:List Int) (T:Told),T.none = false → T.fin.1 = 0 → T.levels = T.list.length → T.levels + o.length ≤ 65536 →
  ((o.zipIdx T.levels).map fun x=>((x.2,u64N x.1,0,1):Rc)).foldl Told.take T = ⟨T.list ++ ordP o T.levels,T.levels + o.length,T.fin,false⟩
 | [],T,h,h1,h2,h3=>by obtain ⟨a,b,c,d⟩:=T; simp at h; simp [ordP,h]
 | v :: o,T,h,h1,h2,h3=>by
  rw [List.zipIdx_cons,List.map_cons,List.foldl_cons]
  simp only [List.length_cons] at h3
  have hl:isLevelB T (T.levels,u64N v,0,1) = true:=by
   simp only [isLevelB]
   simp [← h2]
   omega
  rw [Told.take_level h (by omega) (by show T.levels ≠ 18446744073709551615; omega) hl]
  have:=fold_levels o { T with levels:=T.levels + 1,list:=T.list ++ [(T.levels,u64N v)] } h h1 (by simp [h2]) (by show T.levels + 1 + o.length ≤ 65536; omega)
  refine Eq.trans this ?_
  simp [ordP,List.zipIdx_cons]
  omega
theorem fold_rows:∀ (l:List (Int × Nat)) (T:Told),T.none = false → T.fin.1 = 0 → T.list.length + l.length ≤ T.levels + 1024 → (∀ r ∈ l,u64N r.1 ≠ 18446744073709551615) →
  (l.map fun r=>((u64N r.1,r.2,0,2):Rc)).foldl Told.take T = ⟨T.list ++ rowP l,T.levels,T.fin,false⟩
 | [],T,h,h1,h2,h3=>by obtain ⟨a,b,c,d⟩:=T; simp at h; simp [rowP,h]
 | r :: l,T,h,h1,h2,h3=>by
  rw [List.map_cons,List.foldl_cons]
  simp only [List.length_cons] at h2
  have hl:isLevelB T (u64N r.1,r.2,0,2) = false:=by simp [isLevelB]
  have hr:isRowB T (u64N r.1,r.2,0,2) = true:=by simp [isRowB]; omega
  rw [Told.take_row h (by omega) (h3 r (by simp)) hl hr]
  have:=fold_rows l { T with list:=T.list ++ [(u64N r.1,r.2)] } h h1 (by simp; omega) (fun x hx=>h3 x (by simp [hx]))
  refine Eq.trans this ?_
  simp [rowP]
theorem riseL_bounds:∀ {next:Int} {nf:Nat} {l:List (Int × Nat)} {last:Int},riseL next nf last l = true → ∀ r ∈ l,last < r.1 ∧ r.1 < next ∧ r.2 < nf
 | next,nf,[],last,h,r,hr=>by cases hr
 | next,nf,x :: l,last,h,r,hr=>by
  unfold riseL at h
  split at h
  ·cases h
  ·next hx =>
   rcases List.mem_cons.1 hr with rfl | hr
   ·omega
   ·have:=riseL_bounds h r hr
    omega
structure FormedIs (t:Tbl):Prop where
 next:1 ≤ t.next ∧ t.next ≤ 2147483648
 vars:(t.order.length:Int) = t.vars ∧ t.order.length ≤ 65536
 rows:t.rows.length ≤ 1024
 handles:∀ r ∈ t.rows,0 < r.1 ∧ r.1 < t.next ∧ r.2 < t.nf
theorem formed_is {t:Tbl} (h:fmB t = true):FormedIs t:=by
 unfold fmB at h
 simp only [Bool.and_eq_true,decide_eq_true_eq] at h
 obtain ⟨⟨⟨h1,h2⟩,h3⟩,h4⟩:=h
 unfold isOrderB at h3
 split at h3
 ·cases h3
 ·unfold riseB at h4
  split at h4
  ·cases h4
  ·exact ⟨⟨h1,h2⟩,by omega,by omega,riseL_bounds h4⟩
def endR (t:Tbl) (gen:Nat):Rc:=(18446744073709551615,gen,u64N t.next,t.nf)
def toldOf (t:Tbl) (gen:Nat):Told:=⟨ordP t.order 0 ++ rowP t.rows,t.order.length,endR t gen,false⟩
theorem recsN_eq (t:Tbl) (gen:Nat):recsN t gen = ((t.order.zipIdx 0).map fun x=>((x.2,u64N x.1,0,1):Rc)) ++ (t.rows.map fun r=>((u64N r.1,r.2,0,2):Rc)) ++ [endR t gen]:=rfl
theorem told_all {t:Tbl} {gen:Nat} (h:FormedIs t):(recsN t gen).foldl Told.take Told.new = toldOf t gen:=by
 rw [recsN_eq,List.foldl_append,List.foldl_append]
 have h1:=fold_levels t.order Told.new rfl rfl rfl (by simp [Told.new]; exact h.vars.2)
 rw [show ((t.order.zipIdx 0).map fun x=>((x.2,u64N x.1,0,1):Rc)).foldl Told.take Told.new = _ from h1]
 have h2:=fold_rows t.rows ⟨Told.new.list ++ ordP t.order Told.new.levels,Told.new.levels + t.order.length,Told.new.fin,false⟩ rfl rfl (by simp [Told.new,ordP_len]; exact h.rows) (fun r hr=>by
  have:=h.handles r hr
  have h3:=h.next
  have h4:=u64N_small (x:=r.1) (by omega)
  omega)
 rw [h2]
 rw [List.foldl_cons,List.foldl_nil,Told.take_mark rfl (by simp [Told.new]) rfl]
 simp [toldOf,Told.new]
theorem told_tbl {t:Tbl} {gen:Nat} (h:FormedIs t) (hn:t.Num):(toldOf t gen).tableB gen = (t,fmB t):=by
 have e:(toldOf t gen).tbl = t:=by
  have h1:(ordP t.order 0 ++ rowP t.rows).take t.order.length = ordP t.order 0:=by
   rw [List.take_append_of_le_length (by rw [ordP_len]; exact Nat.le_refl _),List.take_of_length_le (by rw [ordP_len]; exact Nat.le_refl _)]
  have h2:(ordP t.order 0 ++ rowP t.rows).drop t.order.length = rowP t.rows:=by
   rw [List.drop_append_of_le_length (by rw [ordP_len]; exact Nat.le_refl _),List.drop_of_length_le (by rw [ordP_len]; exact Nat.le_refl _)]
   rfl
  have h3:(ordP t.order 0).map (fun p=>sgn p.2) = t.order:=by
   apply List.ext_getElem
   ·simp [ordP]
   ·intro i hi hi2
    simp only [ordP,List.getElem_map,List.getElem_zipIdx]
    exact sgn_u64 (hn.oi _ (List.getElem_mem _))
  have h4:(rowP t.rows).map (fun p=>(sgn p.1,p.2)) = t.rows:=by
   apply List.ext_getElem
   ·simp [rowP]
   ·intro i hi hi2
    simp only [rowP,List.getElem_map]
    rw [sgn_u64 (hn.ri _ (List.getElem_mem _)).1]
  have h5:=sgn_u64 hn.next
  have h6:=h.vars.1
  unfold Told.tbl toldOf
  simp only [h1,h2,h3,h4,endR,h5]
  obtain ⟨a,b,c,d,f⟩:=t
  simp only at h6
  simp [h6]
 unfold Told.tableB
 rw [if_pos (show (toldOf t gen).fin.2.1 = gen from rfl),e]
theorem recs_small {t:Tbl} {gen:Nat} (hn:t.Num) (hg:gen < 18446744073709551616) (hl:t.order.length ≤ 1048576):smallR (recsN t gen):=by
 intro y hy
 unfold flatR at hy
 obtain ⟨r,hr,hy⟩:=List.mem_flatMap.1 hy
 rw [recsN_eq] at hr
 simp only [List.mem_append,List.mem_map,List.mem_singleton] at hr
 rcases hr with (⟨p,hp,rfl⟩ | ⟨p,hp,rfl⟩) | rfl
 ·have h1:p.2 < t.order.length:=by
   have:=List.snd_lt_of_mem_zipIdx hp
   simpa using this
  have h2:=u64N_lt p.1
  simp [Rc.words] at hy
  omega
 ·have h2:=u64N_lt p.1
  have h3:=(hn.ri p hp).2
  simp [Rc.words] at hy
  omega
 ·have h2:=u64N_lt t.next
  have h3:=hn.nf
  simp [Rc.words,endR] at hy
  omega
theorem recs_ok {t:Tbl} {gen:Nat} (h:smallR (recsN t gen)):∀ r ∈ recsN t gen,Rc.Ok r:=by
 intro r hr
 have h1:=fun y (hy:y ∈ Rc.words r)=>h y (List.mem_flatMap.2 ⟨r,hr,hy⟩)
 exact ⟨h1 _ (by simp [Rc.words]),h1 _ (by simp [Rc.words]),h1 _ (by simp [Rc.words]),h1 _ (by simp [Rc.words])⟩
set_option maxRecDepth 100000
section
variable {w w':World} {tb:Nat} {gl:List Nat} {t:Told}
set_option maxHeartbeats 8000000 in
theorem table_eq {g cap:Nat} (hb:w.heap[tb]? = some (.cells #[Value.slice (some ⟨g,0,none⟩) t.levels cap,.int .i64 (t.levels:Int),.int .u64 (t.fin.1:Int),.int .u64 (t.fin.2.1:Int),.int .u64 (t.fin.2.2.1:Int),.int .u64 (t.fin.2.2.2:Int),.bool t.none] 186 (0,0))) (p1:PairsAt w (some ⟨g,0,none⟩) (t.list.take t.levels)) (p2:PairsAt w (some ⟨g,0,none⟩) (t.list.drop t.levels)) (hcap:t.list.length ≤ cap) (ho:t.Ok) (gen:Nat) (hg:gen < 18446744073709551616) (he:t.fin.2.1 = gen) (hne:t.levels = t.list.length) :
  Calls Tryz.prog 110 #[ptr tb,.int .u64 (gen:Int)] w fun e w'=>∃ v,e = .returned (.tuple #[v,.bool (t.tableB gen).2]) ∧ NewTbl w' w.heap.size (t.tableB gen).1 v ∧ Tc [] w w':=by
 have HR:=hid (show t.tableB gen = (t.tbl,fmB t.tbl) by unfold Told.tableB; rw [if_pos he])
 subst he
 have hlt:tb < w.heap.size:=ltB hb
 have hlv:=ho.lv
 have hle:=ho.le
 have hln:=ho.len
 have HO:=hid ho
 have i0:(0:Int) ≤ (t.levels:Int):=by omega
 have i1:(t.levels:Int) ≤ (cap:Int):=by omega
 have hl1:(t.list.take t.levels).length = t.levels:=by rw [List.length_take]; omega
 have hl2:(t.list.drop t.levels).length = 0:=by first | exact List.length_drop | (rw [List.length_drop]; omega)
 have hl3:t.tbl.order.length = t.levels:=by simp only [Told.tbl,List.length_map]; exact hl1
 have hl4:t.tbl.rows.length = 0:=by simp only [Told.tbl,List.length_map]; exact hl2
 have H1:Hid (∀ W,Tc [] w W → Calls Tryz.prog 160 #[.slice (some ⟨g,0,none⟩) t.levels t.levels] W fun e w'=>∃ so co,e = .returned (.slice so t.tbl.order.length co) ∧ IntsAt w' so t.tbl.order ∧ (∀ a,so = some a → W.heap.size ≤ a.block ∧ a.block < w'.heap.size) ∧ Tc [] W w'):=fun W ht=>by
  have:=orderOf_any (c:=t.levels) (p1.touch ht (by simp)) (by omega)
  rw [hl1] at this
  refine (show Calls Tryz.prog 160 _ W _ from this).mono fun e w2 ⟨v,e1,o,tt⟩=>?_
  obtain ⟨so,co,rfl⟩:=oSC o
  obtain ⟨i1,i2⟩:=ints_of_own (l:=t.tbl.order) (by rw [hl3]; exact o)
  exact ⟨so,co,by rw [e1,hl3],i1,i2,tt⟩
 have H2:Hid (∀ W,Tc [] w W → Calls Tryz.prog 161 #[.slice (some ⟨g,0,none⟩) 0 0] W fun e w'=>∃ so co,e = .returned (.slice so t.tbl.rows.length co) ∧ RowsAt w' so t.tbl.rows ∧ (∀ a,so = some a → W.heap.size ≤ a.block ∧ a.block < w'.heap.size) ∧ Tc [] W w'):=fun W ht=>by
  have:=rowsOf_any (c:=0) (p2.touch ht (by simp)) (by omega)
  rw [hl2] at this
  refine (show Calls Tryz.prog 161 _ W _ from this).mono fun e w2 ⟨v,e1,o,tt⟩=>?_
  obtain ⟨so,co,rfl⟩:=oSC o
  obtain ⟨i1,i2⟩:=rows_of_own (l:=t.tbl.rows) (by rw [hl4]; exact o)
  exact ⟨so,co,by rw [e1,hl4],i1,i2,tt⟩
 have HTB:=hid (fun wx so sr (h1:IntsAt wx so t.tbl.order) (h2:RowsAt wx sr t.tbl.rows)=>HO.out.tbl h1 h2)
 have HL3:=hid hl3
 have HVV:Hid ((t.levels:Int) = t.tbl.vars):=rfl
 have HL4:=hid hl4
 have hfin:=ho.fin
 have c:=fun i=>cRw hb i
 have HC:=hid (fun W (ht:Tc [] w W)=>fun i=>cRw ((ht.block tb hlt (by simp)).trans hb) i)
 have HT0:=hid ((Tc.refl [] w).alloc (.cells zer5 26))
 have HB0:=hid (heap_alloc_new w (.cells zer5 26))
 clear hne hle hln hcap hb ho p1 p2 hl1 hl2 hl3 hl4
 go_enter Tryz.func110,Tryz.ntmps110
 go_wp2_with fail
 go_quiet (fail)
 generalize w.alloc (.cells zer5 26) = W0 at *
 obtain ⟨W1,hW1⟩:∃ W1,W1 = W0.drewN nq:=⟨_,rfl⟩
 have ht1:Tc [] w W1:=by rw [hW1]; exact HT0.out.drewN _
 have hb1:W1.heap[w.heap.size]? = some (.cells zer5 26 (0,0)):=by rw [hW1]; exact HB0.out
 rw [← hW1]
 have HT1:=hid ht1
 have HB1:=hid hb1
 clear hW1 ht1 hb1 c HT0 HB0
 go_wp2_with fail
 go_cut [8] (fun v8 wx=>∃ q,v8 = ptr q ∧ Hid (Mid4 w wx t.tbl q))
 case first =>
  have HT:=hid HT1.out.drew
  have HB:=hid (show W1.drew.heap[w.heap.size]? = some (.cells zer5 26 (0,0)) from HB1.out)
  clear HT1 HB1
  have cf0:=HC.out W1.drew HT.out
  refine wp_region_noPanic ?_
  refine wp_region_held_drew (S:=fun W=>(∀ i,W.cell? ⟨tb,i,none⟩ = #[Value.slice (some ⟨g,0,none⟩) t.levels cap,.int .i64 (t.levels:Int),.int .u64 (t.fin.1:Int),.int .u64 (t.fin.2.1:Int),.int .u64 (t.fin.2.2.1:Int),.int .u64 (t.fin.2.2.2:Int),.bool t.none][i]?)) (by kernel_rfl) cf0 (fun hHeld=>?_)
  generalize W1.drew = Y at *
  refine wpAnyH_take (i:=0) (v:=?_) (by simp only [List.getElem?_toArray,List.getElem?_cons_zero]; rfl) (by kernel_rfl) (by kernel_rfl) (by kernel_rfl) (fun _ _ _ h=>h) (Or.inl ⟨by rfl,?_⟩) (by assumption) ?_
  rotate_left 1
  ·intro w hSw; (try dsimp only at hSw); go_simp; (try with_reducible rfl)
  try simp only [Act.put,List.setIfInBounds_toArray,List.set_cons_zero,List.set_cons_succ]
  refine wpAnyH_take (i:=1) (v:=?_) (by simp only [List.getElem?_toArray,List.getElem?_cons_succ,List.getElem?_cons_zero]; rfl) (by kernel_rfl) (by kernel_rfl) (by kernel_rfl) (fun _ _ _ h=>h) (Or.inl ⟨by rfl,?_⟩) (by assumption) ?_
  rotate_left 1
  ·intro w hSw; (try dsimp only at hSw); go_simp; (try with_reducible rfl)
  try simp only [Act.put,List.setIfInBounds_toArray,List.set_cons_zero,List.set_cons_succ]
  refine wpAnyH_take (i:=2) (v:=?_) (by simp only [List.getElem?_toArray,List.getElem?_cons_succ,List.getElem?_cons_zero]; rfl) (by kernel_rfl) (by kernel_rfl) (by kernel_rfl) (fun _ _ _ h=>h) (Or.inl ⟨by rfl,?_⟩) (by assumption) ?_
  rotate_left 1
  ·intro w hSw; (try dsimp only at hSw); go_simp; (try with_reducible rfl)
  try simp only [Act.put,List.setIfInBounds_toArray,List.set_cons_zero,List.set_cons_succ]
  refine wpAnyH_take (i:=3) (v:=?_) (by simp only [List.getElem?_toArray,List.getElem?_cons_succ,List.getElem?_cons_zero]; rfl) (by kernel_rfl) (by kernel_rfl) (by kernel_rfl) (fun _ _ _ h=>h) (Or.inl ⟨by rfl,?_⟩) (by assumption) ?_
  rotate_left 1
  ·intro w hSw; (try dsimp only at hSw); go_simp; (try with_reducible rfl)
  try simp only [Act.put,List.setIfInBounds_toArray,List.set_cons_zero,List.set_cons_succ]
  refine wpAnyH_take (i:=4) (v:=?_) (by simp only [List.getElem?_toArray,List.getElem?_cons_succ,List.getElem?_cons_zero]; rfl) (by kernel_rfl) (by kernel_rfl) (by kernel_rfl) (fun _ _ _ h=>h) (Or.inl ⟨by rfl,?_⟩) (by assumption) ?_
  rotate_left 1
  ·intro w hSw; (try dsimp only at hSw); go_simp; (try with_reducible rfl)
  try simp only [Act.put,List.setIfInBounds_toArray,List.set_cons_zero,List.set_cons_succ]
  refine wpAnyH_take (i:=5) (v:=?_) (by simp only [List.getElem?_toArray,List.getElem?_cons_succ,List.getElem?_cons_zero]; rfl) (by kernel_rfl) (by kernel_rfl) (by kernel_rfl) (fun _ _ _ h=>h) (Or.inl ⟨by rfl,?_⟩) (by assumption) ?_
  rotate_left 1
  ·intro w hSw; (try dsimp only at hSw); go_simp; (try with_reducible rfl)
  try simp only [Act.put,List.setIfInBounds_toArray,List.set_cons_zero,List.set_cons_succ]
  refine wpAnyH_take (i:=6) (v:=?_) (by simp only [List.getElem?_toArray,List.getElem?_cons_succ,List.getElem?_cons_zero]; rfl) (by kernel_rfl) (by kernel_rfl) (by kernel_rfl) (fun _ _ _ h=>h) (Or.inl ⟨by rfl,?_⟩) (by assumption) ?_
  rotate_left 1
  ·intro w hSw; (try dsimp only at hSw); go_simp; (try with_reducible rfl)
  try simp only [Act.put,List.setIfInBounds_toArray,List.set_cons_zero,List.set_cons_succ]
  refine wpAnyH_take (i:=7) (v:=?_) (by simp only [List.getElem?_toArray,List.getElem?_cons_succ,List.getElem?_cons_zero]; rfl) (by kernel_rfl) (by kernel_rfl) (by kernel_rfl) (fun _ _ _ h=>h) (Or.inl ⟨by rfl,?_⟩) (by assumption) ?_
  rotate_left 1
  ·intro w hSw; (try dsimp only at hSw); go_simp; (try with_reducible rfl)
  try simp only [Act.put,List.setIfInBounds_toArray,List.set_cons_zero,List.set_cons_succ]
  refine wpAnyH_take (i:=9) (v:=?_) (by simp only [List.getElem?_toArray,List.getElem?_cons_succ,List.getElem?_cons_zero]; rfl) (by kernel_rfl) (by kernel_rfl) (by kernel_rfl) (fun _ _ _ h=>h) (Or.inl ⟨by rfl,?_⟩) (by assumption) ?_
  rotate_left 1
  ·intro w hSw; (try dsimp only at hSw); go_simp; (try with_reducible rfl)
  try simp only [Act.put,List.setIfInBounds_toArray,List.set_cons_zero,List.set_cons_succ]
  refine wpAnyH_take (i:=10) (v:=?_) (by simp only [List.getElem?_toArray,List.getElem?_cons_succ,List.getElem?_cons_zero]; rfl) (by kernel_rfl) (by kernel_rfl) (by kernel_rfl) (fun _ _ _ h=>h) (Or.inl ⟨by rfl,?_⟩) (by assumption) ?_
  rotate_left 1
  ·intro w hSw; (try dsimp only at hSw); go_simp; (try with_reducible rfl)
  try simp only [Act.put,List.setIfInBounds_toArray,List.set_cons_zero,List.set_cons_succ]
  refine wpAnyH_take (i:=11) (v:=?_) (by simp only [List.getElem?_toArray,List.getElem?_cons_succ,List.getElem?_cons_zero]; rfl) (by kernel_rfl) (by kernel_rfl) (by kernel_rfl) (fun _ _ _ h=>h) (Or.inl ⟨by rfl,?_⟩) (by assumption) ?_
  rotate_left 1
  ·intro w hSw; (try dsimp only at hSw); go_simp; (try with_reducible rfl)
  try simp only [Act.put,List.setIfInBounds_toArray,List.set_cons_zero,List.set_cons_succ]
  refine wpAnyH_take (i:=12) (v:=?_) (by simp only [List.getElem?_toArray,List.getElem?_cons_succ,List.getElem?_cons_zero]; rfl) (by kernel_rfl) (by kernel_rfl) (by kernel_rfl) (fun _ _ _ h=>h) (Or.inl ⟨by rfl,?_⟩) (by assumption) ?_
  rotate_left 1
  ·intro w hSw; (try dsimp only at hSw); go_simp; (try with_reducible rfl)
  try simp only [Act.put,List.setIfInBounds_toArray,List.set_cons_zero,List.set_cons_succ]
  refine wpAnyH_take (i:=13) (v:=?_) (by simp only [List.getElem?_toArray,List.getElem?_cons_succ,List.getElem?_cons_zero]; rfl) (by kernel_rfl) (by kernel_rfl) (by kernel_rfl) (fun _ _ _ h=>h) (Or.inl ⟨by rfl,?_⟩) (by assumption) ?_
  rotate_left 1
  ·intro w hSw; (try dsimp only at hSw); go_simp; (try with_reducible rfl)
  try simp only [Act.put,List.setIfInBounds_toArray,List.set_cons_zero,List.set_cons_succ]
  refine wpAnyH_take (i:=14) (v:=?_) (by simp only [List.getElem?_toArray,List.getElem?_cons_succ,List.getElem?_cons_zero]; rfl) (by kernel_rfl) (by kernel_rfl) (by kernel_rfl) (fun _ _ _ h=>h) (Or.inl ⟨by rfl,?_⟩) (by assumption) ?_
  rotate_left 1
  ·intro w hSw; (try dsimp only at hSw); go_simp; (try with_reducible rfl)
  try simp only [Act.put,List.setIfInBounds_toArray,List.set_cons_zero,List.set_cons_succ]
  refine wpAnyH_take (i:=15) (v:=?_) (by simp only [List.getElem?_toArray,List.getElem?_cons_succ,List.getElem?_cons_zero]; rfl) (by kernel_rfl) (by kernel_rfl) (by kernel_rfl) (fun _ _ _ h=>h) (Or.inl ⟨by rfl,?_⟩) (by assumption) ?_
  rotate_left 1
  ·intro w hSw; (try dsimp only at hSw); go_simp; (try with_reducible rfl)
  try simp only [Act.put,List.setIfInBounds_toArray,List.set_cons_zero,List.set_cons_succ]
  refine wpAnyH_take (i:=16) (v:=?_) (by simp only [List.getElem?_toArray,List.getElem?_cons_succ,List.getElem?_cons_zero]; rfl) (by kernel_rfl) (by kernel_rfl) (by kernel_rfl) (fun _ _ _ h=>h) (Or.inl ⟨by rfl,?_⟩) (by assumption) ?_
  rotate_left 1
  ·intro w hSw; (try dsimp only at hSw); go_simp; (try with_reducible rfl)
  try simp only [Act.put,List.setIfInBounds_toArray,List.set_cons_zero,List.set_cons_succ]
  refine wpAnyH_take (i:=18) (v:=?_) (by simp only [List.getElem?_toArray,List.getElem?_cons_succ,List.getElem?_cons_zero]; rfl) (by kernel_rfl) (by kernel_rfl) (by kernel_rfl) (fun _ _ _ h=>h) (Or.inl ⟨by rfl,?_⟩) (by assumption) ?_
  rotate_left 1
  ·intro w hSw; (try dsimp only at hSw); go_simp; (try with_reducible rfl)
  try simp only [Act.put,List.setIfInBounds_toArray,List.set_cons_zero,List.set_cons_succ]
  refine wpAnyH_take (i:=19) (v:=?_) (by simp only [List.getElem?_toArray,List.getElem?_cons_succ,List.getElem?_cons_zero]; rfl) (by kernel_rfl) (by kernel_rfl) (by kernel_rfl) (fun _ _ _ h=>h) (Or.inl ⟨by rfl,?_⟩) (by assumption) ?_
  rotate_left 1
  ·intro w hSw; (try dsimp only at hSw); go_simp; (try with_reducible rfl)
  try simp only [Act.put,List.setIfInBounds_toArray,List.set_cons_zero,List.set_cons_succ]
  refine wpAnyH_take (i:=20) (v:=?_) (by simp only [List.getElem?_toArray,List.getElem?_cons_succ,List.getElem?_cons_zero]; rfl) (by kernel_rfl) (by kernel_rfl) (by kernel_rfl) (fun _ _ _ h=>h) (Or.inl ⟨by rfl,?_⟩) (by assumption) ?_
  rotate_left 1
  ·intro w hSw; (try dsimp only at hSw); go_simp; (try with_reducible rfl)
  try simp only [Act.put,List.setIfInBounds_toArray,List.set_cons_zero,List.set_cons_succ]
  refine wpAnyH_take (i:=21) (v:=?_) (by simp only [List.getElem?_toArray,List.getElem?_cons_succ,List.getElem?_cons_zero]; rfl) (by kernel_rfl) (by kernel_rfl) (by kernel_rfl) (fun _ _ _ h=>h) (Or.inl ⟨by rfl,?_⟩) (by assumption) ?_
  rotate_left 1
  ·intro w hSw; (try dsimp only at hSw); go_simp; (try with_reducible rfl)
  try simp only [Act.put,List.setIfInBounds_toArray,List.set_cons_zero,List.set_cons_succ]
  refine wpAnyH_take (i:=22) (v:=?_) (by simp only [List.getElem?_toArray,List.getElem?_cons_succ,List.getElem?_cons_zero]; rfl) (by kernel_rfl) (by kernel_rfl) (by kernel_rfl) (fun _ _ _ h=>h) (Or.inl ⟨by rfl,?_⟩) (by assumption) ?_
  rotate_left 1
  ·intro w hSw; (try dsimp only at hSw); go_simp; (try with_reducible rfl)
  try simp only [Act.put,List.setIfInBounds_toArray,List.set_cons_zero,List.set_cons_succ]
  refine wpAnyH_take (i:=23) (v:=.int .i64 (sgn t.fin.2.2.1)) (by simp only [List.getElem?_toArray,List.getElem?_cons_succ,List.getElem?_cons_zero]; rfl) (by kernel_rfl) (by kernel_rfl) (by kernel_rfl) (fun _ _ _ h=>h) (Or.inl ⟨by rfl,?_⟩) (by assumption) ?_
  ·intro w hSw; (try dsimp only at hSw); (try go_simp); (first | done | (unfold sgn wrap64; rw [IntKind.wrap_i64]))
  try simp only [Act.put,List.setIfInBounds_toArray,List.set_cons_zero,List.set_cons_succ]
  refine wpAnyH_take (i:=24) (v:=?_) (by simp only [List.getElem?_toArray,List.getElem?_cons_succ,List.getElem?_cons_zero]; rfl) (by kernel_rfl) (by kernel_rfl) (by kernel_rfl) (fun _ _ _ h=>h) (Or.inl ⟨by rfl,?_⟩) (by assumption) ?_
  rotate_left 1
  ·intro w hSw; (try dsimp only at hSw); go_simp; (try with_reducible rfl)
  try simp only [Act.put,List.setIfInBounds_toArray,List.set_cons_zero,List.set_cons_succ]
  refine wpAnyH_take (i:=25) (v:=?_) (by simp only [List.getElem?_toArray,List.getElem?_cons_succ,List.getElem?_cons_zero]; rfl) (by kernel_rfl) (by kernel_rfl) (by kernel_rfl) (fun _ _ _ h=>h) (Or.inl ⟨by rfl,?_⟩) (by assumption) ?_
  rotate_left 1
  ·intro w hSw; (try dsimp only at hSw); go_simp; (try with_reducible rfl)
  try simp only [Act.put,List.setIfInBounds_toArray,List.set_cons_zero,List.set_cons_succ]
  refine wpAnyH_take (i:=26) (v:=?_) (by simp only [List.getElem?_toArray,List.getElem?_cons_succ,List.getElem?_cons_zero]; rfl) (by kernel_rfl) (by kernel_rfl) (by kernel_rfl) (fun _ _ _ h=>h) (Or.inl ⟨by rfl,?_⟩) (by assumption) ?_
  rotate_left 1
  ·intro w hSw; (try dsimp only at hSw); go_simp; (try with_reducible rfl)
  try simp only [Act.put,List.setIfInBounds_toArray,List.set_cons_zero,List.set_cons_succ]
  refine wpAnyH_take (i:=27) (v:=?_) (by simp only [List.getElem?_toArray,List.getElem?_cons_succ,List.getElem?_cons_zero]; rfl) (by kernel_rfl) (by kernel_rfl) (by kernel_rfl) (fun _ _ _ h=>h) (Or.inl ⟨by rfl,?_⟩) (by assumption) ?_
  rotate_left 1
  ·intro w hSw; (try dsimp only at hSw); go_simp; (try with_reducible rfl)
  try simp only [Act.put,List.setIfInBounds_toArray,List.set_cons_zero,List.set_cons_succ]
  refine wpAnyH_take (i:=28) (v:=?_) (by simp only [List.getElem?_toArray,List.getElem?_cons_succ,List.getElem?_cons_zero]; rfl) (by kernel_rfl) (by kernel_rfl) (by kernel_rfl) (fun _ _ _ h=>h) (Or.inl ⟨by rfl,?_⟩) (by assumption) ?_
  rotate_left 1
  ·intro w hSw; (try dsimp only at hSw); go_simp; (try with_reducible rfl)
  try simp only [Act.put,List.setIfInBounds_toArray,List.set_cons_zero,List.set_cons_succ]
  refine wpAnyH_ready (rs:=[8,30]) (by kernel_rfl) (by simp) ?_
  refine AllReadyH.cons (by simp only [List.getElem?_toArray,List.getElem?_cons_succ,List.getElem?_cons_zero]; rfl) (fun K hK=>?_) (AllReadyH.cons (by simp only [List.getElem?_toArray,List.getElem?_cons_succ,List.getElem?_cons_zero]; rfl) (fun K hK=>?_) AllReadyH.nil)
  ·go_simp
   go_at_call 160
   with_reducible refine (H1.out _ HT.out).mono ?_
   rintro e w2 ⟨so,co,rfl,hi,hb8,ht⟩
   have hb9:=ltB HB.out
   have HI:=hid (And.intro hi (fun a ha=>And.intro (show w.heap.size < a.block by have:=(hb8 a ha).1; omega) (hb8 a ha).2))
   clear hi hb8 hb9
   replace HB:=hid ((ht.block _ (ltB HB.out) (by simp)).trans HB.out)
   replace HT:=hid (HT.out.trans ht (by simp))
   replace cf0:=HC.out _ HT.out
   clear ht
   go_wp2_with fail
   clear hHeld
   refine hK.out _ _ cf0 (fun hHeld=>?_)
   clear hK K
   try simp only [Act.put,List.setIfInBounds_toArray,List.set_cons_zero,List.set_cons_succ]
   refine wpAnyH_ready (rs:=[17,30]) (by kernel_rfl) (by simp) ?_
   refine AllReadyH.cons (by simp only [List.getElem?_toArray,List.getElem?_cons_succ,List.getElem?_cons_zero]; rfl) (fun K hK=>?_) (AllReadyH.cons (by simp only [List.getElem?_toArray,List.getElem?_cons_succ,List.getElem?_cons_zero]; rfl) (fun K hK=>?_) AllReadyH.nil)
   ·go_simp
    go_at_call 161
    with_reducible refine (H2.out _ HT.out).mono ?_
    rintro e w3 ⟨sr,cr,rfl,hi,hb8,ht⟩
    have hb9:=ltB HB.out
    have HW:=hid (And.intro hi (fun a ha=>And.intro (show w.heap.size < a.block by have:=(hb8 a ha).1; omega) (hb8 a ha).2))
    clear hi hb8 hb9
    replace HB:=hid ((ht.block _ (ltB HB.out) (by simp)).trans HB.out)
    replace HI:=hid (And.intro (HI.out.1.touch ht (by simp)) (fun a ha=>And.intro (HI.out.2 a ha).1 (Nat.lt_of_lt_of_le (HI.out.2 a ha).2 ht.size)))
    replace HT:=hid (HT.out.trans ht (by simp))
    replace cf0:=HC.out _ HT.out
    clear ht
    go_wp2_with fail
    clear hHeld
    refine hK.out _ _ cf0 (fun hHeld=>?_)
    clear hK K
    try simp only [Act.put,List.setIfInBounds_toArray,List.set_cons_zero,List.set_cons_succ]
    refine wpAnyH_take (i:=29) (v:=?_) (by simp only [List.getElem?_toArray,List.getElem?_cons_succ,List.getElem?_cons_zero]; rfl) (by kernel_rfl) (by kernel_rfl) (by kernel_rfl) (fun _ _ _ h=>h) (Or.inl ⟨by rfl,?_⟩) (by assumption) ?_
    rotate_left 1
    ·intro w hSw; (try dsimp only at hSw); go_simp; (try with_reducible rfl)
    try simp only [Act.put,List.setIfInBounds_toArray,List.set_cons_zero,List.set_cons_succ]
    refine wpAnyH_ready (rs:=[30]) (by kernel_rfl) (by simp) ?_
    refine AllReadyH.cons (by simp only [List.getElem?_toArray,List.getElem?_cons_succ,List.getElem?_cons_zero]; rfl) (fun K hK=>?_) AllReadyH.nil
    go_simp
    have ht:=(Tc.refl [] w3).alloc (.cells zer5 26)
    have hq:=heap_alloc_new w3 (.cells zer5 26)
    have hql:=ltB HB.out
    have HDO:Hid (∀ a,so = some a → a.block ≠ w3.heap.size):=fun a ha=>by have:=(HI.out.2 a ha).2; omega
    have HDR:Hid (∀ a,sr = some a → a.block ≠ w3.heap.size):=fun a ha=>by have:=(HW.out.2 a ha).2; omega
    replace HB:=hid ((ht.block _ (ltB HB.out) (by simp)).trans HB.out)
    replace HI:=hid (And.intro (HI.out.1.touch ht (by simp)) (fun a ha=>And.intro (HI.out.2 a ha).1 (Nat.lt_of_lt_of_le (HI.out.2 a ha).2 ht.size)))
    replace HW:=hid (And.intro (HW.out.1.touch ht (by simp)) (fun a ha=>And.intro (HW.out.2 a ha).1 (Nat.lt_of_lt_of_le (HW.out.2 a ha).2 ht.size)))
    replace HT:=hid (HT.out.trans ht (by simp))
    replace cf0:=HC.out _ HT.out
    clear ht
    have HQ:=hid hq
    clear hq
    generalize w3.alloc (.cells zer5 26) = WQ at *
    generalize w3.heap.size = q at *
    clear hHeld
    refine hK.out _ _ cf0 (fun hHeld=>?_)
    clear hK K
    try simp only [Act.put,List.setIfInBounds_toArray,List.set_cons_zero,List.set_cons_succ]
    have hcq:=fun i=>cRw HQ.out i
    have huq:=fun i=>uRw HQ.out i
    refine wpAnyH_ready (rs:=[31]) (by kernel_rfl) (by simp) ?_
    refine AllReadyH.cons (by simp only [List.getElem?_toArray,List.getElem?_cons_succ,List.getElem?_cons_zero]; rfl) (fun K hK=>?_) AllReadyH.nil
    go_simp
    have M:=hid (mid4_store (vv:=(t.levels:Int)) HVV.out (co:=co) (cr:=cr) HT.out HB.out HQ.out hql (HTB.out _ _ _ HI.out.1 HW.out.1) (fun a ha=>⟨(HI.out.2 a ha).1,HDO.out a ha⟩) (fun a ha=>⟨(HW.out.2 a ha).1,HDR.out a ha⟩))
    replace cf0:=HC.out _ M.out.touch
    clear hHeld
    refine hK.out _ _ cf0 (fun hHeld=>?_)
    clear hK K
    try simp only [Act.put,List.setIfInBounds_toArray,List.set_cons_zero,List.set_cons_succ]
    refine wpAnyH_done (by kernel_rfl) ?_ _
    refine NoPanic.normal ?_
    go_wp2_with fail
    go_meet
    exact ⟨q,rfl,M⟩
   ·go_simp
    have ht:=(Tc.refl [] w2).alloc (.cells zer5 26)
    have hq:=heap_alloc_new w2 (.cells zer5 26)
    have hql:=ltB HB.out
    have HDO:Hid (∀ a,so = some a → a.block ≠ w2.heap.size):=fun a ha=>by have:=(HI.out.2 a ha).2; omega
    replace HB:=hid ((ht.block _ (ltB HB.out) (by simp)).trans HB.out)
    replace HI:=hid (And.intro (HI.out.1.touch ht (by simp)) (fun a ha=>And.intro (HI.out.2 a ha).1 (Nat.lt_of_lt_of_le (HI.out.2 a ha).2 ht.size)))
    replace HT:=hid (HT.out.trans ht (by simp))
    replace cf0:=HC.out _ HT.out
    clear ht
    have HQ:=hid hq
    clear hq
    generalize w2.alloc (.cells zer5 26) = WQ at *
    generalize w2.heap.size = q at *
    clear hHeld
    refine hK.out _ _ cf0 (fun hHeld=>?_)
    clear hK K
    try simp only [Act.put,List.setIfInBounds_toArray,List.set_cons_zero,List.set_cons_succ]
    refine wpAnyH_ready (rs:=[17]) (by kernel_rfl) (by simp) ?_
    refine AllReadyH.cons (by simp only [List.getElem?_toArray,List.getElem?_cons_succ,List.getElem?_cons_zero]; rfl) (fun K hK=>?_) AllReadyH.nil
    go_simp
    go_at_call 161
    with_reducible refine (H2.out _ HT.out).mono ?_
    rintro e w3 ⟨sr,cr,rfl,hi,hb8,ht⟩
    have hb9:=ltB HB.out
    have HW:=hid (And.intro hi (fun a ha=>And.intro (show w.heap.size < a.block by have:=(hb8 a ha).1; omega) (hb8 a ha).2))
    have HDR:Hid (∀ a,sr = some a → a.block ≠ q):=fun a ha=>by have:=(hb8 a ha).1; have:=ltB HQ.out; omega
    clear hi hb8 hb9
    replace HB:=hid ((ht.block _ (ltB HB.out) (by simp)).trans HB.out)
    replace HI:=hid (And.intro (HI.out.1.touch ht (by simp)) (fun a ha=>And.intro (HI.out.2 a ha).1 (Nat.lt_of_lt_of_le (HI.out.2 a ha).2 ht.size)))
    replace HQ:=hid ((ht.block _ (ltB HQ.out) (by simp)).trans HQ.out)
    replace HT:=hid (HT.out.trans ht (by simp))
    replace cf0:=HC.out _ HT.out
    clear ht
    go_wp2_with fail
    clear hHeld
    refine hK.out _ _ cf0 (fun hHeld=>?_)
    clear hK K
    try simp only [Act.put,List.setIfInBounds_toArray,List.set_cons_zero,List.set_cons_succ]
    refine wpAnyH_take (i:=29) (v:=?_) (by simp only [List.getElem?_toArray,List.getElem?_cons_succ,List.getElem?_cons_zero]; rfl) (by kernel_rfl) (by kernel_rfl) (by kernel_rfl) (fun _ _ _ h=>h) (Or.inl ⟨by rfl,?_⟩) (by assumption) ?_
    rotate_left 1
    ·intro w hSw; (try dsimp only at hSw); go_simp; (try with_reducible rfl)
    try simp only [Act.put,List.setIfInBounds_toArray,List.set_cons_zero,List.set_cons_succ]
    have hcq:=fun i=>cRw HQ.out i
    have huq:=fun i=>uRw HQ.out i
    refine wpAnyH_ready (rs:=[31]) (by kernel_rfl) (by simp) ?_
    refine AllReadyH.cons (by simp only [List.getElem?_toArray,List.getElem?_cons_succ,List.getElem?_cons_zero]; rfl) (fun K hK=>?_) AllReadyH.nil
    go_simp
    have M:=hid (mid4_store (vv:=(t.levels:Int)) HVV.out (co:=co) (cr:=cr) HT.out HB.out HQ.out hql (HTB.out _ _ _ HI.out.1 HW.out.1) (fun a ha=>⟨(HI.out.2 a ha).1,HDO.out a ha⟩) (fun a ha=>⟨(HW.out.2 a ha).1,HDR.out a ha⟩))
    replace cf0:=HC.out _ M.out.touch
    clear hHeld
    refine hK.out _ _ cf0 (fun hHeld=>?_)
    clear hK K
    try simp only [Act.put,List.setIfInBounds_toArray,List.set_cons_zero,List.set_cons_succ]
    refine wpAnyH_done (by kernel_rfl) ?_ _
    refine NoPanic.normal ?_
    go_wp2_with fail
    go_meet
    exact ⟨q,rfl,M⟩
  ·go_simp
   have ht:=(Tc.refl [] Y).alloc (.cells zer5 26)
   have hq:=heap_alloc_new Y (.cells zer5 26)
   have hql:=ltB HB.out
   replace HB:=hid ((ht.block _ (ltB HB.out) (by simp)).trans HB.out)
   replace HT:=hid (HT.out.trans ht (by simp))
   replace cf0:=HC.out _ HT.out
   clear ht
   have HQ:=hid hq
   clear hq
   generalize Y.alloc (.cells zer5 26) = WQ at *
   generalize Y.heap.size = q at *
   clear hHeld
   refine hK.out _ _ cf0 (fun hHeld=>?_)
   clear hK K
   try simp only [Act.put,List.setIfInBounds_toArray,List.set_cons_zero,List.set_cons_succ]
   refine wpAnyH_ready (rs:=[8]) (by kernel_rfl) (by simp) ?_
   refine AllReadyH.cons (by simp only [List.getElem?_toArray,List.getElem?_cons_succ,List.getElem?_cons_zero]; rfl) (fun K hK=>?_) AllReadyH.nil
   go_simp
   go_at_call 160
   with_reducible refine (H1.out _ HT.out).mono ?_
   rintro e w2 ⟨so,co,rfl,hi,hb8,ht⟩
   have hb9:=ltB HB.out
   have HI:=hid (And.intro hi (fun a ha=>And.intro (show w.heap.size < a.block by have:=(hb8 a ha).1; omega) (hb8 a ha).2))
   have HDO:Hid (∀ a,so = some a → a.block ≠ q):=fun a ha=>by have:=(hb8 a ha).1; have:=ltB HQ.out; omega
   clear hi hb8 hb9
   replace HB:=hid ((ht.block _ (ltB HB.out) (by simp)).trans HB.out)
   replace HQ:=hid ((ht.block _ (ltB HQ.out) (by simp)).trans HQ.out)
   replace HT:=hid (HT.out.trans ht (by simp))
   replace cf0:=HC.out _ HT.out
   clear ht
   go_wp2_with fail
   clear hHeld
   refine hK.out _ _ cf0 (fun hHeld=>?_)
   clear hK K
   try simp only [Act.put,List.setIfInBounds_toArray,List.set_cons_zero,List.set_cons_succ]
   refine wpAnyH_ready (rs:=[17]) (by kernel_rfl) (by simp) ?_
   refine AllReadyH.cons (by simp only [List.getElem?_toArray,List.getElem?_cons_succ,List.getElem?_cons_zero]; rfl) (fun K hK=>?_) AllReadyH.nil
   go_simp
   go_at_call 161
   with_reducible refine (H2.out _ HT.out).mono ?_
   rintro e w3 ⟨sr,cr,rfl,hi,hb8,ht⟩
   have hb9:=ltB HB.out
   have HW:=hid (And.intro hi (fun a ha=>And.intro (show w.heap.size < a.block by have:=(hb8 a ha).1; omega) (hb8 a ha).2))
   have HDR:Hid (∀ a,sr = some a → a.block ≠ q):=fun a ha=>by have:=(hb8 a ha).1; have:=ltB HQ.out; omega
   clear hi hb8 hb9
   replace HB:=hid ((ht.block _ (ltB HB.out) (by simp)).trans HB.out)
   replace HI:=hid (And.intro (HI.out.1.touch ht (by simp)) (fun a ha=>And.intro (HI.out.2 a ha).1 (Nat.lt_of_lt_of_le (HI.out.2 a ha).2 ht.size)))
   replace HQ:=hid ((ht.block _ (ltB HQ.out) (by simp)).trans HQ.out)
   replace HT:=hid (HT.out.trans ht (by simp))
   replace cf0:=HC.out _ HT.out
   clear ht
   go_wp2_with fail
   clear hHeld
   refine hK.out _ _ cf0 (fun hHeld=>?_)
   clear hK K
   try simp only [Act.put,List.setIfInBounds_toArray,List.set_cons_zero,List.set_cons_succ]
   refine wpAnyH_take (i:=29) (v:=?_) (by simp only [List.getElem?_toArray,List.getElem?_cons_succ,List.getElem?_cons_zero]; rfl) (by kernel_rfl) (by kernel_rfl) (by kernel_rfl) (fun _ _ _ h=>h) (Or.inl ⟨by rfl,?_⟩) (by assumption) ?_
   rotate_left 1
   ·intro w hSw; (try dsimp only at hSw); go_simp; (try with_reducible rfl)
   try simp only [Act.put,List.setIfInBounds_toArray,List.set_cons_zero,List.set_cons_succ]
   have hcq:=fun i=>cRw HQ.out i
   have huq:=fun i=>uRw HQ.out i
   refine wpAnyH_ready (rs:=[31]) (by kernel_rfl) (by simp) ?_
   refine AllReadyH.cons (by simp only [List.getElem?_toArray,List.getElem?_cons_succ,List.getElem?_cons_zero]; rfl) (fun K hK=>?_) AllReadyH.nil
   go_simp
   have M:=hid (mid4_store (vv:=(t.levels:Int)) HVV.out (co:=co) (cr:=cr) HT.out HB.out HQ.out hql (HTB.out _ _ _ HI.out.1 HW.out.1) (fun a ha=>⟨(HI.out.2 a ha).1,HDO.out a ha⟩) (fun a ha=>⟨(HW.out.2 a ha).1,HDR.out a ha⟩))
   replace cf0:=HC.out _ M.out.touch
   clear hHeld
   refine hK.out _ _ cf0 (fun hHeld=>?_)
   clear hK K
   try simp only [Act.put,List.setIfInBounds_toArray,List.set_cons_zero,List.set_cons_succ]
   refine wpAnyH_done (by kernel_rfl) ?_ _
   refine NoPanic.normal ?_
   go_wp2_with fail
   go_meet
   exact ⟨q,rfl,M⟩
 case rest =>
  obtain ⟨q,rfl,M⟩:=hcut
  obtain ⟨so,sr,co,cr,hq,hT,h1,h2⟩:=M.out.tbl
  have hres:=M.out.res
  have hne9:=M.out.ne
  have hql:=ltB hq
  have HF:=hid (fun W (tt:Tc [] wc W)=>formed_any (co:=co) (cr:=cr) (hT.touch tt (by simp) (by simp)))
  have HH:=hid (And.intro hT (And.intro h1 h2))
  have HMT:=hid M.out.touch
  have HQ5:=hid (fun W (tt:Tc [] wc W)=>fun i=>cRw ((tt.block q (ltB hq) (by simp)).trans hq) i)
  have HR5:=hid (fun W (tt:Tc [] wc W)=>(tt.block w.heap.size (ltB hres) (by simp)).trans hres)
  clear hT h1 h2 hq hres M HC H1 H2 HTB
  simp only [tblV,tblC] at *
  have HT5:=hid (Tc.refl [] wc).drew
  have cf0:=HQ5.out wc.drew HT5.out
  have HQL:=hid hql
  clear hql
  go_wp2_with fail
  refine wp_region_noPanic ?_
  refine wp_region_held_drew (S:=fun W=>(∀ i,W.cell? ⟨q,i,none⟩ = #[Value.int .i64 t.tbl.vars,.slice so t.tbl.order.length co,.slice sr t.tbl.rows.length cr,.int .i64 t.tbl.next,.int .u64 (t.tbl.nf:Int)][i]?)) (by kernel_rfl) cf0 (fun hHeld=>?_)
  generalize wc.drew = Y at *
  refine wpAnyH_take (i:=0) (v:=?_) (by simp only [List.getElem?_toArray,List.getElem?_cons_zero]; rfl) (by kernel_rfl) (by kernel_rfl) (by kernel_rfl) (fun _ _ _ h=>h) (Or.inl ⟨by rfl,?_⟩) (by assumption) ?_
  rotate_left 1
  ·intro w hSw; (try dsimp only at hSw); go_simp; (try with_reducible rfl)
  try simp only [Act.put,List.setIfInBounds_toArray,List.set_cons_zero,List.set_cons_succ]
  refine wpAnyH_take (i:=1) (v:=?_) (by simp only [List.getElem?_toArray,List.getElem?_cons_succ,List.getElem?_cons_zero]; rfl) (by kernel_rfl) (by kernel_rfl) (by kernel_rfl) (fun _ _ _ h=>h) (Or.inl ⟨by rfl,?_⟩) (by assumption) ?_
  rotate_left 1
  ·intro w hSw; (try dsimp only at hSw); go_simp; (try with_reducible rfl)
  try simp only [Act.put,List.setIfInBounds_toArray,List.set_cons_zero,List.set_cons_succ]
  refine wpAnyH_ready (rs:=[2]) (by kernel_rfl) (by simp) ?_
  refine AllReadyH.cons (by simp only [List.getElem?_toArray,List.getElem?_cons_succ,List.getElem?_cons_zero]; rfl) (fun K hK=>?_) AllReadyH.nil
  go_simp
  go_at_call 11
  with_reducible refine (HF.out _ HT5.out).mono ?_
  rintro e w5 ⟨rfl,ht5⟩
  replace HT5:=hid (HT5.out.trans ht5 (by simp))
  clear ht5
  replace cf0:=HQ5.out _ HT5.out
  go_wp2_with fail
  clear hHeld
  refine hK.out _ _ cf0 (fun hHeld=>?_)
  clear hK K
  try simp only [Act.put,List.setIfInBounds_toArray,List.set_cons_zero,List.set_cons_succ]
  have hr5:=HR5.out _ HT5.out
  have c5:=fun i=>cRw hr5 i
  have u5:=fun i=>uRw hr5 i
  obtain ⟨W6,e6,hr6,t6⟩:=box5 hr5 (.int .i64 t.tbl.vars) (.slice so t.tbl.order.length co) (.slice sr t.tbl.rows.length cr) (.int .i64 t.tbl.next) (.int .u64 (t.tbl.nf:Int))
  have HT6:=hid t6
  have HE6:=hid e6
  clear t6 e6
  have HB6:=hid (Nat.lt_of_lt_of_le HQL.out HT5.out.size)
  refine wpAnyH_ready (rs:=[3]) (by kernel_rfl) (by simp) ?_
  refine AllReadyH.cons (by simp only [List.getElem?_toArray,List.getElem?_cons_succ,List.getElem?_cons_zero]; rfl) (fun K hK=>?_) AllReadyH.nil
  go_simp
  rw [← HE6.out]
  have cf6:(∀ i,W6.cell? ⟨q,i,none⟩ = #[Value.int .i64 t.tbl.vars,.slice so t.tbl.order.length co,.slice sr t.tbl.rows.length cr,.int .i64 t.tbl.next,.int .u64 (t.tbl.nf:Int)][i]?):=fun i=>(HT6.out.cell (p:=⟨q,i,none⟩) HB6.out (by simpa using hne9)).trans (cf0 i)
  clear hHeld
  refine hK.out _ _ cf6 (fun hHeld=>?_)
  clear hK K
  try simp only [Act.put,List.setIfInBounds_toArray,List.set_cons_zero,List.set_cons_succ]
  refine wpAnyH_take (i:=4) (v:=?_) (by simp only [List.getElem?_toArray,List.getElem?_cons_succ,List.getElem?_cons_zero]; rfl) (by kernel_rfl) (by kernel_rfl) (by kernel_rfl) (fun _ _ _ h=>h) (Or.inl ⟨by rfl,?_⟩) (by assumption) ?_
  rotate_left 1
  ·intro w hSw; (try dsimp only at hSw); go_simp; (try with_reducible rfl)
  try simp only [Act.put,List.setIfInBounds_toArray,List.set_cons_zero,List.set_cons_succ]
  refine wpAnyH_done (by kernel_rfl) ?_ _
  refine NoPanic.normal ?_
  go_wp2_with fail
  have c6:=fun i=>cRw hr6 i
  refine bodyPost_ret (v:=.tuple #[tblV t.tbl so sr co cr,.bool (fmB t.tbl)]) (by simp [results,Tryz.results110,go_sem,c6,tblV]) rfl ?_
  rw [HR.out]
  have tt6:Tc [] w W6:=(HMT.out.trans HT5.out (by simp)).trans HT6.out (fun y hy=>by simp at hy; exact .inr (by omega))
  have tt7:Tc [w.heap.size] wc W6:=(HT5.out.mono (by simp)).trans HT6.out (fun y hy=>.inl hy)
  exact ⟨_,rfl,⟨so,sr,co,cr,rfl,HH.out.1.touch tt7 (fun a ha=>by simpa using (HH.out.2.1 a ha).2) (fun a ha=>by simpa using (HH.out.2.2 a ha).2),fun a ha=>(HH.out.2.1 a ha).1,fun a ha=>(HH.out.2.2 a ha).1⟩,tt6⟩
end
end Go.Proofs.YthehcjjckabljaaGreatDoor
