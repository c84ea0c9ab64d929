import Derived.Test.YthehcjjckabljaaGreatDoorC24
namespace Go.Proofs.YthehcjjckabljaaGreatDoor
open Go.RowKit Go.Deep
set_option maxRecDepth 100000
set_option linter.unusedSimpArgs false
set_option linter.unusedVariables false
theorem rfileS {u:Nat} (hu:u < 18446744073709551616) (W:World):Calls Tryz.prog 62 #[.int .u64 (u:Int)] W fun e w'=>e = .returned (.string (bs (fileN u))) ∧ Tc [] W w':=
 (Nm.rfile_any u hu W).mono fun e w' ⟨e1,hb⟩=>⟨by rw [e1]; exact congrArg _ (file_str u),Tc.of_below (F:=[]) hb (Nat.le_refl _)⟩
theorem rcatS {u:Nat} (hu:u < 18446744073709551616) (W:World):Calls Tryz.prog 69 #[.int .u64 (u:Int)] W fun e w'=>e = .returned (.string (bs (catN u))) ∧ Tc [] W w':=
 (Nm.rname_any u hu W).mono fun e w' ⟨e1,hb⟩=>⟨by rw [e1]; exact congrArg _ (cat_str u),Tc.of_below (F:=[]) hb (Nat.le_refl _)⟩
structure Thg where
 kind:Int
 n:Nat
 shut:Bool
 t:Tbl
 gen:Nat
def thgV (x:Thg) (so sr:Option Addr) (co cr:Nat):Value:=.agg #[.int .i64 x.kind,.int .u64 (x.n:Int),.bool x.shut,.int .i64 x.t.vars,.slice so x.t.order.length co,.slice sr x.t.rows.length cr,.int .i64 x.t.next,.int .u64 (x.t.nf:Int),.int .u64 (x.gen:Int)]
def thName (x:Thg):List UInt8:=if x.kind = 2 ∨ x.kind = 4 ∨ x.kind = 5 then catN x.n else if x.kind = 3 then strayL (x.n % 10) else fileN x.n
def thBlocks (B:Nat) (x:Thg):List (List UInt8):=
 if x.kind = 2 then bkO 5 (B / 32 - 1) B (recsN x.t x.gen) (nBk (B / 32 - 1) (recsN x.t x.gen).length)
 else if x.kind = 4 then [List.replicate B 0] else [encU 2 0 [1,2,3,x.n] B]
def thFile (B:Nat) (x:Thg):List UInt8 × FlA:=(thName x,⟨x.shut,thBlocks B x⟩)
theorem file_arm {w w':World} {b T:Nat} {o:Array Value} {u1 u2:Value} (c1:w.cell? ⟨b,1,none⟩ = some u1) (c2:w.cell? ⟨b,2,none⟩ = some u2) (t:Tc [] (w.alloc (.cells o T)).drew w'):(w'.cell? ⟨b,1,none⟩ = some u1 ∧ w'.cell? ⟨b,2,none⟩ = some u2) ∧ w'.heap[w.heap.size]? = some (.cells o T (0,0)) ∧ Tc [] w w':=
 have hl:b < w.heap.size:=World.block_lt_of_cell? w _ c1
 have h1:Tc [] w (w.alloc (.cells o T)).drew:=((Tc.refl [] w).alloc _).drew
 have h2:(w.alloc (.cells o T)).drew.heap.size = w.heap.size + 1:=by simp
 have h3:=h1.trans t (by simp)
 ⟨⟨(h3.cell (p:=⟨b,1,none⟩) hl (by simp)).trans c1,(h3.cell (p:=⟨b,2,none⟩) hl (by simp)).trans c2⟩,(t.block _ (by omega) (by simp)).trans (heap_alloc_new w _),h3⟩
theorem file_arm0 {w w':World} {b:Nat} {u1 u2:Value} (c1:w.cell? ⟨b,1,none⟩ = some u1) (c2:w.cell? ⟨b,2,none⟩ = some u2) (t:Tc [] w.drew w'):(w'.cell? ⟨b,1,none⟩ = some u1 ∧ w'.cell? ⟨b,2,none⟩ = some u2) ∧ Tc [] w w':=
 have hl:b < w.heap.size:=World.block_lt_of_cell? w _ c1
 have h3:Tc [] w w':=(Tc.refl [] w).drew.trans t (by simp)
 ⟨⟨(h3.cell (p:=⟨b,1,none⟩) hl (by simp)).trans c1,(h3.cell (p:=⟨b,2,none⟩) hl (by simp)).trans c2⟩,h3⟩
theorem ByD.of_row {W:World} {g:Nat} {d:List UInt8} (h:W.heap[g]? = some (.cells (Lib.byteCells d).toArray 5 (0,0))):ByD W [g] (.slice (some ⟨g,0,none⟩) d.length d.length) d ∧ RwD W [g]:=by
 refine ⟨⟨_,_,_,rfl,⟨rfl,Nat.le_refl _,fun _=>⟨_,rfl,ltB h,fun j v hj=>?_⟩,fun e=>by cases e⟩,fun a ha _=>by cases ha; simp⟩,fun y hy=>?_⟩
 ·rw [azA,cRw h j]
  simpa using hj
 ·rw [List.mem_singleton] at hy
  subst hy
  exact ⟨_,_,_,h,.inr rfl⟩
theorem BlD.one {W:World} {D:List Nat} {g:Nat} {sv:Value} {d:List UInt8} (hs:ByD W D sv d) (hr:RwD W D) (h:W.heap[g]? = some (.cells #[sv] 118 (0,0))):BlD W (g :: D) (.slice (some ⟨g,0,none⟩) 1 1) [d] ∧ RwD W (g :: D):=by
 refine ⟨⟨_,_,rfl,fun i hi=>?_⟩,fun y hy=>?_⟩
 ·have h0:i = 0:=by simpa using hi
  subst h0
  exact ⟨_,sv,rfl,by simp,ltB h,by rw [azA,cRw h 0]; rfl,hs.mono (fun y hy=>List.mem_cons_of_mem _ hy)⟩
 ·rcases List.mem_cons.1 hy with rfl | hy
  ·exact ⟨_,_,_,h,.inl rfl⟩
  ·exact hr y hy
structure FilW (w W:World) (th:Array Value) (bt bf:Nat) (nm:List UInt8) (shut:Bool) (sv:Value):Prop where
 th:W.heap[bt]? = some (.cells th 116 (0,0))
 res:W.heap[bt + 1]? = some (.cells #[.string ⟨#[]⟩,.bool false,.slice none 0 0] 113 (0,0))
 row:W.heap[bf]? = some (.cells #[.string (bs nm),.bool shut,sv] 113 (0,0))
 lo:bt + 2 ≤ bf
 base:w.heap.size = bt
 touch:Tc [] w W
theorem FilW.step {w W W':World} {th:Array Value} {bt bf:Nat} {nm:List UInt8} {shut:Bool} {sv:Value} (h:FilW w W th bt bf nm shut sv) (t:Tc [] W W'):FilW w W' th bt bf nm shut sv:=
 ⟨(t.block _ (ltB h.th) (by simp)).trans h.th,(t.block _ (ltB h.res) (by simp)).trans h.res,(t.block _ (ltB h.row) (by simp)).trans h.row,h.lo,h.base,h.touch.trans t (by simp)⟩
theorem FilW.set0 {w W:World} {th:Array Value} {bt bf:Nat} {nm:List UInt8} {shut:Bool} {sv:Value} (h:FilW w W th bt bf nm shut sv) (nm':List UInt8):FilW w (W.setCell ⟨bf,0,none⟩ (.string (bs nm'))) th bt bf nm' shut sv:=by
 have h1:=h.lo
 have h2:=h.base
 exact ⟨(blk_setCell_other _ _ _ _ (by show bt ≠ bf; omega)).trans h.th,(blk_setCell_other _ _ _ _ (by show bt + 1 ≠ bf; omega)).trans h.res,Lib.heap_setCell_same h.row _,h.lo,h.base,h.touch.setCell (.inr (by show _ ≤ bf; omega)) _⟩
theorem FilW.set2 {w W:World} {th:Array Value} {bt bf:Nat} {nm:List UInt8} {shut:Bool} {sv:Value} (h:FilW w W th bt bf nm shut sv) (sv':Value):FilW w (W.setCell ⟨bf,2,none⟩ sv') th bt bf nm shut sv':=by
 have h1:=h.lo
 have h2:=h.base
 exact ⟨(blk_setCell_other _ _ _ _ (by show bt ≠ bf; omega)).trans h.th,(blk_setCell_other _ _ _ _ (by show bt + 1 ≠ bf; omega)).trans h.res,Lib.heap_setCell_same h.row _,h.lo,h.base,h.touch.setCell (.inr (by show _ ≤ bf; omega)) _⟩
theorem FilW.set1 {w W:World} {th:Array Value} {bt bf:Nat} {nm:List UInt8} {shut:Bool} {sv:Value} (h:FilW w W th bt bf nm shut sv) (b:Bool):FilW w (W.setCell ⟨bf,1,none⟩ (.bool b)) th bt bf nm b sv:=by
 have h1:=h.lo
 have h2:=h.base
 exact ⟨(blk_setCell_other _ _ _ _ (by show bt ≠ bf; omega)).trans h.th,(blk_setCell_other _ _ _ _ (by show bt + 1 ≠ bf; omega)).trans h.res,Lib.heap_setCell_same h.row _,h.lo,h.base,h.touch.setCell (.inr (by show _ ≤ bf; omega)) _⟩
theorem FilW.start {w W0 w2:World} {th:Array Value} {bt:Nat} (h0:W0.heap[bt + 1]? = some (.cells #[.string ⟨#[]⟩,.bool false,.slice none 0 0] 113 (0,0)) ∧ W0.heap[bt]? = some (.cells th 116 (0,0))) (t0:Tc [] w W0) (hb:w.heap.size = bt) (t2:Tc [] W0 w2) (nm:List UInt8) (shut:Bool) (sv:Value) :
  FilW w (w2.alloc (.cells #[.string (bs nm),.bool shut,sv] 113)) th bt w2.heap.size nm shut sv:=by
 have h1:=ltB h0.1
 have t3:=t2.alloc (.cells #[.string (bs nm),.bool shut,sv] 113)
 have h2:=t2.size
 exact ⟨(t3.block _ (ltB h0.2) (by simp)).trans h0.2,(t3.block _ h1 (by simp)).trans h0.1,heap_alloc_new w2 _,by omega,hb,t0.trans t3 (by simp)⟩
theorem FilW.start2 {w W0 w2:World} {th:Array Value} {bt:Nat} (h0:W0.heap[bt + 1]? = some (.cells #[.string ⟨#[]⟩,.bool false,.slice none 0 0] 113 (0,0)) ∧ W0.heap[bt]? = some (.cells th 116 (0,0))) (t0:Tc [] w W0) (hb:w.heap.size = bt) (t2:Tc [] W0 w2) (hr:w2.heap[W0.heap.size]? = some (.cells #[.string ⟨#[]⟩,.bool false,.slice none 0 0] 113 (0,0))) (nm:List UInt8) (shut:Bool) (sv:Value) :
  FilW w (((w2.setCell ⟨W0.heap.size,0,none⟩ (.string (bs nm))).setCell ⟨W0.heap.size,1,none⟩ (.bool shut)).setCell ⟨W0.heap.size,2,none⟩ sv) th bt W0.heap.size nm shut sv:=by
 have h1:=ltB h0.1
 exact (((⟨(t2.block _ (ltB h0.2) (by simp)).trans h0.2,(t2.block _ h1 (by simp)).trans h0.1,hr,by omega,hb,t0.trans t2 (by simp)⟩:FilW w w2 th bt W0.heap.size [] false (.slice none 0 0)).set0 nm).set1 shut).set2 sv
def FilB (w W:World) (th:Array Value) (bt bf:Nat) (nm:List UInt8) (shut:Bool) (sv:Value) (bls:List (List UInt8)):Prop:=FilW w W th bt bf nm shut sv ∧ ∃ D,BlD W D sv bls ∧ RwD W D ∧ ∀ y ∈ D,w.heap.size ≤ y
theorem FilB.set0 {w W:World} {th:Array Value} {bt bf:Nat} {nm:List UInt8} {shut:Bool} {sv:Value} {bls:List (List UInt8)} (h:FilB w W th bt bf nm shut sv bls) (nm':List UInt8):FilB w (W.setCell ⟨bf,0,none⟩ (.string (bs nm'))) th bt bf nm' shut sv bls:=by
 obtain ⟨h,D,h1,h2,h3⟩:=h
 have t:Tc [bf] W (W.setCell ⟨bf,0,none⟩ (.string (bs nm'))):=(Tc.refl _ W).setCell (.inl (by simp)) _
 have hn:∀ y ∈ [bf],y ∉ D:=fun y hy hx=>by
  rw [List.mem_singleton] at hy
  subst hy
  obtain ⟨c,ty,fr,e,e2⟩:=h2 _ hx
  rw [h.row] at e
  cases e
  rcases e2 with e | e <;> cases e
 exact ⟨h.set0 nm',D,h1.touch t hn,h2.touch t hn,h3⟩
theorem FilB.set2 {w W:World} {th:Array Value} {bt bf:Nat} {nm:List UInt8} {shut:Bool} {sv sv':Value} {bls:List (List UInt8)} {D:List Nat} (h:FilW w W th bt bf nm shut sv) (h1:BlD W D sv' bls) (h2:RwD W D) (h3:∀ y ∈ D,w.heap.size ≤ y):FilB w (W.setCell ⟨bf,2,none⟩ sv') th bt bf nm shut sv' bls:=by
 have t:Tc [bf] W (W.setCell ⟨bf,2,none⟩ sv'):=(Tc.refl _ W).setCell (.inl (by simp)) _
 have hn:∀ y ∈ [bf],y ∉ D:=fun y hy hx=>by
  rw [List.mem_singleton] at hy
  subst hy
  obtain ⟨c,ty,fr,e,e2⟩:=h2 _ hx
  rw [h.row] at e
  cases e
  rcases e2 with e | e <;> cases e
 exact ⟨h.set2 sv',D,h1.touch t hn,h2.touch t hn,h3⟩
theorem FilB.step {w W W':World} {th:Array Value} {bt bf:Nat} {nm:List UInt8} {shut:Bool} {sv:Value} {bls:List (List UInt8)} (h:FilB w W th bt bf nm shut sv bls) (t:Tc [] W W'):FilB w W' th bt bf nm shut sv bls:=by
 obtain ⟨h,D,h1,h2,h3⟩:=h
 exact ⟨h.step t,D,h1.touch t (by simp),h2.touch t (by simp),h3⟩
theorem FilB.fin {w W:World} {th:Array Value} {bt bf:Nat} {nm:List UInt8} {shut:Bool} {sv:Value} {bls:List (List UInt8)} (h:FilB w W th bt bf nm shut sv bls) :
  (((W.setCell ⟨bt + 1,0,none⟩ (.string (bs nm))).setCell ⟨bt + 1,1,none⟩ (.bool shut)).setCell ⟨bt + 1,2,none⟩ sv).heap[bt + 1]? = some (.cells #[.string (bs nm),.bool shut,sv] 113 (0,0)) ∧
  ∃ D,BlD (((W.setCell ⟨bt + 1,0,none⟩ (.string (bs nm))).setCell ⟨bt + 1,1,none⟩ (.bool shut)).setCell ⟨bt + 1,2,none⟩ sv) D sv bls ∧ RwD (((W.setCell ⟨bt + 1,0,none⟩ (.string (bs nm))).setCell ⟨bt + 1,1,none⟩ (.bool shut)).setCell ⟨bt + 1,2,none⟩ sv) D ∧ (∀ y ∈ D,w.heap.size ≤ y) ∧ Tc [] w (((W.setCell ⟨bt + 1,0,none⟩ (.string (bs nm))).setCell ⟨bt + 1,1,none⟩ (.bool shut)).setCell ⟨bt + 1,2,none⟩ sv):=by
 obtain ⟨h,D,h1,h2,h3⟩:=h
 have hb:=h.base
 refine ⟨Lib.heap_setCell_same (Lib.heap_setCell_same (Lib.heap_setCell_same h.res _) _) _,D,?_⟩
 have t:Tc [bt + 1] W (((W.setCell ⟨bt + 1,0,none⟩ (.string (bs nm))).setCell ⟨bt + 1,1,none⟩ (.bool shut)).setCell ⟨bt + 1,2,none⟩ sv):=(((Tc.refl _ W).setCell (.inl (by simp)) _).setCell (.inl (by simp)) _).setCell (.inl (by simp)) _
 have hn:∀ y ∈ [bt + 1],y ∉ D:=fun y hy hx=>by
  rw [List.mem_singleton] at hy
  subst hy
  obtain ⟨c,ty,fr,e,e2⟩:=h2 _ hx
  rw [h.res] at e
  cases e
  rcases e2 with e | e <;> cases e
 exact ⟨h1.touch t hn,h2.touch t hn,h3,((h.touch.setCell (.inr (by show _ ≤ bt + 1; omega)) _).setCell (.inr (by show _ ≤ bt + 1; omega)) _).setCell (.inr (by show _ ≤ bt + 1; omega)) _⟩
section
variable {w:World} {x:Thg} {so sr:Option Addr} {co cr B:Nat}
set_option maxHeartbeats 8000000 in
theorem file_any (h:TblAt w x.t so sr) (hn:x.n < 18446744073709551616) (hg:x.gen < 18446744073709551616) (hk:-9223372036854775808 ≤ x.kind ∧ x.kind < 9223372036854775808) (hB:64 ≤ B ∧ B ≤ 65536 ∧ B % 32 = 0) :
  Calls Tryz.prog 58 #[thgV x so sr co cr,.int .i64 (B:Int)] w fun e w'=>∃ sv D,e = .returned (.agg #[.string (bs (thName x)),.bool x.shut,sv]) ∧ BlD w' D sv (thBlocks B x) ∧ RwD w' D ∧ (∀ y ∈ D,w.heap.size ≤ y) ∧ Tc [] w w':=by
 obtain ⟨kind,n,shut,t,gen⟩:=x
 dsimp only at h hn hg hk
 have HH:=hid (fun W (tt:Tc [] w W)=>h.touch tt (by simp) (by simp))
 have HF:=hid (fun W=>rfileS hn W)
 have HC:=hid (fun W=>rcatS hn W)
 have HS:=hid (fun W=>stray_any hn W)
 have HB:=hid hB
 clear h hB
 simp only [thgV,tblV] at *
 go_enter Tryz.func58,Tryz.ntmps58
 go_upto_region 1 with fail
 obtain ⟨W1,hW1⟩:∃ W1,W1 = w.alloc (.cells #[.int .i64 kind,.int .u64 (n:Int),.bool shut,.int .i64 t.vars,.slice so t.order.length co,.slice sr t.rows.length cr,.int .i64 t.next,.int .u64 (t.nf:Int),.int .u64 (gen:Int)] 116):=⟨_,rfl⟩
 have t1:Tc [] w W1:=by rw [hW1]; exact (Tc.refl [] w).alloc _
 have r1:W1.heap[w.heap.size]? = some (.cells #[.int .i64 kind,.int .u64 (n:Int),.bool shut,.int .i64 t.vars,.slice so t.order.length co,.slice sr t.rows.length cr,.int .i64 t.next,.int .u64 (t.nf:Int),.int .u64 (gen:Int)] 116 (0,0)):=by rw [hW1]; exact heap_alloc_new w _
 have hz1:W1.heap.size = w.heap.size + 1:=by rw [hW1]; simp
 rw [← hW1,← hz1]
 clear hW1
 obtain ⟨W0,hW0⟩:∃ W0,W0 = W1.alloc (.cells #[.string ⟨#[]⟩,.bool false,.slice none 0 0] 113):=⟨_,rfl⟩
 have t0:Tc [] w W0:=by rw [hW0]; exact t1.alloc _
 have r0:W0.heap[W1.heap.size]? = some (.cells #[.string ⟨#[]⟩,.bool false,.slice none 0 0] 113 (0,0)):=by rw [hW0]; exact heap_alloc_new W1 _
 have h0:W0.heap[w.heap.size]? = some (.cells #[.int .i64 kind,.int .u64 (n:Int),.bool shut,.int .i64 t.vars,.slice so t.order.length co,.slice sr t.rows.length cr,.int .i64 t.next,.int .u64 (t.nf:Int),.int .u64 (gen:Int)] 116 (0,0)):=by rw [hW0]; exact (((Tc.refl [] W1).alloc _).block _ (by omega) (by simp)).trans r1
 rw [← hW0]
 clear hW0 t1 r1
 generalize hbt:w.heap.size = bt at *
 generalize hbr:W1.heap.size = br at *
 have HT0:=hid t0
 have HR:=hid (And.intro r0 h0)
 have c1:=cRw h0 1
 have c2:=cRw h0 2
 have hnw1:=World.new_ne W0 ⟨bt,1,none⟩ c1
 have hnw2:=World.new_ne W0 ⟨bt,2,none⟩ c2
 clear t0 r0 h0
 subst hz1
 go_cut [5] (fun v W=>∃ bf,v = ptr bf ∧ Hid (FilW w W #[.int .i64 kind,.int .u64 (n:Int),.bool shut,.int .i64 t.vars,.slice so t.order.length co,.slice sr t.rows.length cr,.int .i64 t.next,.int .u64 (t.nf:Int),.int .u64 (gen:Int)] bt bf (fileN n) shut (.slice none 0 0)))
 case first =>
  go_region_held3 (fun W=>W.cell? ⟨bt,1,none⟩ = some (.int .u64 (n:Int)) ∧ W.cell? ⟨bt,2,none⟩ = some (.bool shut)) (go_keep)
   (first | (go_at_call 62; refine (HF.out _).mono ?_; rintro e w2 ⟨rfl,ht2⟩; (first
    |(obtain ⟨⟨v1,v2⟩,t2⟩:=file_arm0 (w:=W0) c1 c2 ht2; have HT2:=hid t2; clear ht2 t2)
    |(obtain ⟨⟨v1,v2⟩,r2,t2⟩:=file_arm (w:=W0) c1 c2 ht2; have HT2:=hid t2; have HR2:=hid r2; have q0:=cRw r2 0; have q1:=cRw r2 1; have q2:=cRw r2 2; have z0:=uRw r2 0; have z1:=uRw r2 1; have z2:=uRw r2 2; clear ht2 r2 t2))))
  all_goals
   go_wp2_with fail
   go_meet
   first
    | exact ⟨_,rfl,hid (FilW.start HR.out HT0.out hbt HT2.out _ _ _)⟩
    | exact ⟨_,rfl,hid (FilW.start2 HR.out HT0.out hbt HT2.out HR2.out _ _ _)⟩
 case rest =>
  obtain ⟨bf,rfl,hw⟩:=hcut
  have HW:=hid hw.out
  have HX:Hid (∀ W,Tc [] wc W → (∀ i,W.cell? ⟨bt,i,none⟩ = #[.int .i64 kind,.int .u64 (n:Int),.bool shut,.int .i64 t.vars,.slice so t.order.length co,.slice sr t.rows.length cr,.int .i64 t.next,.int .u64 (t.nf:Int),.int .u64 (gen:Int)][i]?) ∧ W.heap.size > bf):=hid (fun W tt=>⟨cRw (HW.out.step tt).th,Nat.lt_of_lt_of_le (ltB HW.out.row) tt.size⟩)
  have HEN:Hid (∀ W g,W.heap[g]? = some (.cells #[.int .u64 1,.int .u64 2,.int .u64 3,.int .u64 (n:Int)] 176 (0,0)) → Calls Tryz.prog 70 #[.int .i64 2,.int .i64 0,.slice (some ⟨g,0,none⟩) 1 1,.int .i64 (B:Int)] W fun e w'=>∃ xa xn xc D,e = .returned (.tuple #[.slice xa xn xc,.int .i64 0]) ∧ ByD w' D (.slice xa xn xc) (encU 2 0 [1,2,3,n] B) ∧ RwD w' D ∧ (∀ y ∈ D,W.heap.size ≤ y) ∧ Tc [] W w'):=hid (fun W g hg=>by
   have hB:=HB.out
   have h:=Rx.rencode_ok 2 0 1 B [1,2,3,n] g 0 1 W (fun i hi=>by
    rw [cRw hg (0 + i)]
    match i,hi with
    | 0,_=>rfl
    | 1,_=>rfl
    | 2,_=>rfl
    | 3,_=>rfl) rfl (ltB hg) (fun x hx=>by simp at hx; omega) (by omega) (by omega) (by omega) hB.1 hB.2.1 hB.2.2 (by omega) (by omega)
   have e:numsU (encU 2 0 [1,2,3,n] B) = PureCrc.enc 2 0 1 [1,2,3,n] B:=by
    unfold encU
    rw [show [1,2,3,n].length / 4 = 1 by simp,nums_bytes (PureCrc.enc_lt (kind:=2) (by omega))]
   rw [← e] at h
   refine h.mono fun e w' ⟨sv,e1,ho,ht⟩=>?_
   obtain ⟨D,h1,h2,h3⟩:=ByD.of_own ho
   obtain ⟨xa,xn,xc,rfl,_⟩:=id h1
   exact ⟨xa,xn,xc,D,e1,h1,h2,h3,ht⟩)
  clear hw HR HT0
  have hcb:=(HX.out wc (Tc.refl _ _)).1
  go_upto_region 3 with (go_at_call 70; refine (HEN.out _ _ (heap_alloc_new wc _)).mono ?_; rintro e w3 ⟨xa,xn,xc,D3,rfl,hby,hrw,hD3,ht3⟩; have HBY:=hid (And.intro hby (And.intro hrw (And.intro hD3 ht3))); clear hby hrw hD3 ht3)
  obtain ⟨hby,hrw,hD3,ht3⟩:=HBY.out
  have F3:=HW.out.step (((Tc.refl [] wc).alloc _).trans ht3 (by simp))
  have ta:Tc [] w3 (w3.alloc (.cells #[.slice xa xn xc] 118)):=(Tc.refl [] w3).alloc _
  have B3:=BlD.one (hby.touch ta (by simp)) (hrw.touch ta (by simp)) (heap_alloc_new w3 _)
  have q2:=cRw (F3.step ta).row 2
  have z2:=uRw (F3.step ta).row 2
  have hwsz:=HW.out.touch.size
  have hsz3:=ht3.size
  have hal:(wc.alloc (.cells #[.int .u64 1,.int .u64 2,.int .u64 3,.int .u64 (n:Int)] 176)).heap.size = wc.heap.size + 1:=by simp
  have B4:=FilB.set2 (F3.step ta) B3.1 B3.2 (fun y hy=>by
   rcases List.mem_cons.1 hy with rfl | hy
   ·omega
   ·have:=hD3 y hy; omega)
  have HB4:=hid B4
  clear hby hrw hD3 ht3 F3 ta B3 B4 hwsz hsz3 hal HBY
  go_upto_region 4 with fail
  obtain ⟨W5,hW5⟩:∃ W5,W5 = (w3.alloc (.cells #[.slice xa xn xc] 118)).setCell ⟨bf,2,none⟩ (.slice (some ⟨w3.heap.size,0,none⟩) 1 1):=⟨_,rfl⟩
  rw [← hW5] at HB4 ⊢
  clear hW5 q2 z2
  generalize w3.heap.size = g3 at *
  have cb5:=cRw HB4.out.1.th
  clear hcb HX HEN HW HF
  by_cases h2:kind = 2
  ·subst h2
   go_upto_region 6 with fail
   go_upto_region 7 with (go_at_call 69; refine (HC.out _).mono ?_; rintro e w6 ⟨rfl,ht6⟩; have F6:=HB4.out.step ht6; have q0:=cRw F6.1.row 0; have z0:=uRw F6.1.row 0; have HB6:=hid (F6.set0 (catN n)); clear F6 ht6)
   obtain ⟨W6,hW6⟩:∃ W6,W6 = w6.setCell ⟨bf,0,none⟩ (.string (bs (catN n))):=⟨_,rfl⟩
   rw [← hW6] at HB6 ⊢
   clear hW6 q0 z0 cb5
   have cb6:=cRw HB6.out.1.th
   have HREC:=hid (rrecs_any (co:=co) (cr:=cr) (HH.out W6 HB6.out.1.touch) hg)
   simp only [tblV] at HREC
   go_upto_region 8 with (go_at_call 68; refine HREC.out.mono ?_; rintro e w7 ⟨v7,rfl,ho7,ht7⟩; obtain ⟨va,vc,rfl⟩:=oSC ho7; have HO7:=hid (own_lower (b2:=0) ho7 (Nat.zero_le _)); have HT7:=hid ht7; clear ho7 ht7)
   have hnum:=(HH.out W6 HB6.out.1.touch).num
   have hol:=(HH.out W6 HB6.out.1.touch).ol
   have hrl:=(HH.out W6 HB6.out.1.touch).rl
   have HBK:=hid (rblocks_any (kind:=5) (K:=B / 32 - 1) HO7.out (by rw [recsN_eq]; simp) (recs_small hnum hg hol) (by rw [recsN_len]; omega) HB.out rfl (by omega) (by omega))
   clear hnum hol hrl
   go_upto_region 16 with (go_at_call 114; refine HBK.out.mono ?_; rintro e w8 ⟨sv,D,rfl,hbl,hrw,hD,ht8⟩; obtain ⟨xa',xc',rfl,hx9⟩:=id hbl; clear hx9; have F8:=(HB6.out.step HT7.out).step ht8; have q2:=cRw F8.1.row 2; have z2:=uRw F8.1.row 2; have HB8:=hid (FilB.set2 F8.1 hbl hrw (fun y hy=>Nat.le_trans (HB6.out.step HT7.out).1.touch.size (hD y hy))); clear F8 hbl hrw hD ht8)
   obtain ⟨W8,hW8⟩:∃ W8,W8 = w8.setCell ⟨bf,2,none⟩ (.slice xa' (bkO 5 (B / 32 - 1) B (recsN t gen) (nBk (B / 32 - 1) (recsN t gen).length)).length xc'):=⟨_,rfl⟩
   rw [← hW8] at HB8 ⊢
   clear hW8 q2 z2 cb6 HBK HREC HO7 HT7
   have c8:=cRw HB8.out.1.row
   have c9:=cRw HB8.out.1.res
   have u9:=uRw HB8.out.1.res
   go_wp2_with fail
   obtain ⟨f1,D,f2,f3,f4,f5⟩:=HB8.out.fin
   have g0:=cRw f1 0
   have g1:=cRw f1 1
   have g2:=cRw f1 2
   refine bodyPost_ret (v:=.agg #[.string (bs (catN n)),.bool shut,.slice xa' (bkO 5 (B / 32 - 1) B (recsN t gen) (nBk (B / 32 - 1) (recsN t gen).length)).length xc']) (by simp [results,Tryz.results58,go_sem,g0,g1,g2]) rfl ⟨_,D,rfl,f2,f3,f4,f5⟩
  ·by_cases h3:kind = 3
   ·subst h3
    go_upto_region 16 with (go_at_call 115; refine (HS.out _).mono ?_; rintro e w6 ⟨rfl,ht6⟩; have F6:=HB4.out.step ht6; have q0:=cRw F6.1.row 0; have z0:=uRw F6.1.row 0; have HB6:=hid (F6.set0 (strayL (n % 10))); clear F6 ht6)
    obtain ⟨W6,hW6⟩:∃ W6,W6 = w6.setCell ⟨bf,0,none⟩ (.string (bs (strayL (n % 10)))):=⟨_,rfl⟩
    rw [← hW6] at HB6 ⊢
    clear hW6 q0 z0 cb5
    have c8:=cRw HB6.out.1.row
    have c9:=cRw HB6.out.1.res
    have u9:=uRw HB6.out.1.res
    go_wp2_with fail
    obtain ⟨f1,D,f2,f3,f4,f5⟩:=HB6.out.fin
    have g0:=cRw f1 0
    have g1:=cRw f1 1
    have g2:=cRw f1 2
    refine bodyPost_ret (v:=.agg #[.string (bs (strayL (n % 10))),.bool shut,.slice (some ⟨g3,0,none⟩) 1 1]) (by simp [results,Tryz.results58,go_sem,g0,g1,g2]) rfl ⟨_,D,rfl,f2,f3,f4,f5⟩
   ·by_cases h4:kind = 4
    ·subst h4
     go_upto_region 13 with (go_at_call 69; refine (HC.out _).mono ?_; rintro e w6 ⟨rfl,ht6⟩; have F6:=HB4.out.step ht6; have q0:=cRw F6.1.row 0; have z0:=uRw F6.1.row 0; have HB6:=hid (F6.set0 (catN n)); clear F6 ht6)
     obtain ⟨W6,hW6⟩:∃ W6,W6 = w6.setCell ⟨bf,0,none⟩ (.string (bs (catN n))):=⟨_,rfl⟩
     rw [← hW6] at HB6 ⊢
     clear hW6 q0 z0 cb5
     have cb6:=cRw HB6.out.1.row
     obtain ⟨M,hM⟩:∃ M,M = madeCells #[(Value.int .u8 0)] B:=⟨_,rfl⟩
     have hBb:=HB.out
     have hmk:∀ W:World,(Instr.makeSlice 118 (.int .i64 (B:Int)) (.int .i64 (B:Int))).run Tryz.prog W = .ok (.slice (some ⟨W.heap.size,0,none⟩) B B) (W.alloc (.cells M 5)):=fun W=>by
      have h:=run_make_row' (P:=Tryz.prog) 118 5 (.int .u8 0) 1 Tryz.underlying118 Tryz.info5 rfl .i64 .i64 B (by omega) (by omega) W
      rw [← hM] at h
      exact h
     have hMB:M = (Lib.byteCells (List.replicate B 0)).toArray:=by
      rw [hM]
      apply Array.toList_inj.1
      rw [toList_madeCells_one]
      simp [Lib.byteCells]
     clear hM hBb
     have tm:Tc [] W6 (W6.alloc (.cells M 5)):=(Tc.refl [] W6).alloc _
     have hbr0:=ByD.of_row (W:=W6.alloc (.cells M 5)) (g:=W6.heap.size) (d:=List.replicate B 0) (by rw [hMB]; exact heap_alloc_new W6 _)
     rw [List.length_replicate] at hbr0
     have ta:=(Tc.refl [] (W6.alloc (.cells M 5))).alloc (.cells #[.slice (some ⟨W6.heap.size,0,none⟩) B B] 118)
     have B9:=BlD.one (hbr0.1.touch ta (by simp)) (hbr0.2.touch ta (by simp)) (heap_alloc_new (W6.alloc (.cells M 5)) _)
     have F9:=(HB6.out.step tm).step ta
     have hws6:=HB6.out.1.touch.size
     have hs9:(W6.alloc (.cells M 5)).heap.size = W6.heap.size + 1:=by simp
     have HB9:=hid (FilB.set2 F9.1 B9.1 B9.2 (fun y hy=>by
      simp only [List.mem_cons,List.not_mem_nil,or_false] at hy
      rcases hy with rfl | rfl <;> omega))
     have q2:=cRw F9.1.row 2
     have z2:=uRw F9.1.row 2
     rw [hs9] at HB9
     clear tm hbr0 ta B9 F9 hws6 hs9 cb6 hMB
     go_upto_region 16 with fail
     obtain ⟨W9,hW9⟩:∃ W9,W9 = ((W6.alloc (.cells M 5)).alloc (.cells #[.slice (some ⟨W6.heap.size,0,none⟩) B B] 118)).setCell ⟨bf,2,none⟩ (.slice (some ⟨W6.heap.size + 1,0,none⟩) 1 1):=⟨_,rfl⟩
     rw [← hW9] at HB9 ⊢
     clear hW9 q2 z2 hmk
     generalize W6.heap.size + 1 = g9 at *
     have c8:=cRw HB9.out.1.row
     have c9:=cRw HB9.out.1.res
     have u9:=uRw HB9.out.1.res
     go_wp2_with fail
     obtain ⟨f1,D,f2,f3,f4,f5⟩:=HB9.out.fin
     have g0:=cRw f1 0
     have g1:=cRw f1 1
     have g2:=cRw f1 2
     refine bodyPost_ret (v:=.agg #[.string (bs (catN n)),.bool shut,.slice (some ⟨g9,0,none⟩) 1 1]) (by simp [results,Tryz.results58,go_sem,g0,g1,g2]) rfl ⟨_,D,rfl,f2,f3,f4,f5⟩
    ·by_cases h5:kind = 5
     ·subst h5
      go_upto_region 16 with (go_at_call 69; refine (HC.out _).mono ?_; rintro e w6 ⟨rfl,ht6⟩; have F6:=HB4.out.step ht6; have q0:=cRw F6.1.row 0; have z0:=uRw F6.1.row 0; have HB6:=hid (F6.set0 (catN n)); clear F6 ht6)
      obtain ⟨W6,hW6⟩:∃ W6,W6 = w6.setCell ⟨bf,0,none⟩ (.string (bs (catN n))):=⟨_,rfl⟩
      rw [← hW6] at HB6 ⊢
      clear hW6 q0 z0 cb5
      have c8:=cRw HB6.out.1.row
      have c9:=cRw HB6.out.1.res
      have u9:=uRw HB6.out.1.res
      go_wp2_with fail
      obtain ⟨f1,D,f2,f3,f4,f5⟩:=HB6.out.fin
      have g0:=cRw f1 0
      have g1:=cRw f1 1
      have g2:=cRw f1 2
      refine bodyPost_ret (v:=.agg #[.string (bs (catN n)),.bool shut,.slice (some ⟨g3,0,none⟩) 1 1]) (by simp [results,Tryz.results58,go_sem,g0,g1,g2]) rfl ⟨_,D,rfl,f2,f3,f4,f5⟩
     ·have e1:thName ⟨kind,n,shut,t,gen⟩ = fileN n:=by simp [thName,h2,h3,h4,h5]
      have e2:thBlocks B ⟨kind,n,shut,t,gen⟩ = [encU 2 0 [1,2,3,n] B]:=by simp [thBlocks,h2,h4]
      go_upto_region 16 with fail
      have c8:=cRw HB4.out.1.row
      have c9:=cRw HB4.out.1.res
      have u9:=uRw HB4.out.1.res
      go_wp2_with fail
      obtain ⟨f1,D,f2,f3,f4,f5⟩:=HB4.out.fin
      have g0:=cRw f1 0
      have g1:=cRw f1 1
      have g2:=cRw f1 2
      refine bodyPost_ret (v:=.agg #[.string (bs (fileN n)),.bool shut,.slice (some ⟨g3,0,none⟩) 1 1]) (by simp [results,Tryz.results58,go_sem,g0,g1,g2]) rfl ⟨_,D,by rw [e1],by rw [e2]; exact f2,f3,f4,f5⟩
end
structure FsD (w:World) (D:List Nat) (l:List SFl):Prop where
 each:∀ e ∈ l,BlD w D e.sv e.file.blocks
 rows:RwD w D
theorem FsD.nil (w:World):FsD w [] []:=⟨fun e he=>(by cases he),fun y hy=>(by cases hy)⟩
theorem FsD.touch {w w':World} {D G:List Nat} {l:List SFl} (h:FsD w D l) (t:Tc G w w') (hG:∀ y ∈ G,y ∉ D):FsD w' D l:=⟨fun e he=>(h.each e he).touch t hG,h.rows.touch t hG⟩
theorem FsD.sub {w:World} {D:List Nat} {l m:List SFl} (h:FsD w D l) (hm:∀ e ∈ m,e ∈ l):FsD w D m:=⟨fun e he=>h.each e (hm e he),h.rows⟩
theorem FsD.snoc {w:World} {D D':List Nat} {l:List SFl} {e:SFl} (h:FsD w D l) (he:BlD w D' e.sv e.file.blocks) (hr:RwD w D'):FsD w (D ++ D') (l ++ [e]):=⟨fun x hx=>by
 rcases List.mem_append.1 hx with hx | hx
 ·exact (h.each x hx).mono (fun y hy=>List.mem_append_left _ hy)
 ·rw [List.mem_singleton] at hx
  subst hx
  exact he.mono (fun y hy=>List.mem_append_right _ hy),h.rows.app hr⟩
theorem RwD.apart {w:World} {D:List Nat} (h:RwD w D) {g:Nat} {c:Array Value} {ty:TypeId} (hg:w.heap[g]? = some (.cells c ty (0,0))) (h1:ty ≠ 118) (h2:ty ≠ 5):g ∉ D:=fun hx=>by
 obtain ⟨c',ty',fr',e,e2⟩:=h _ hx
 rw [hg] at e
 cases e
 rcases e2 with e | e
 ·exact h1 e
 ·exact h2 e
structure StD (w:World) (D:List Nat) (fv:Value) (l:List SFl):Prop where
 sl:∃ a c,fv = .slice a l.length c
 at_:∀ (k:Nat) (e:SFl),l[k]? = some e → ∃ a c,fv = .slice (some a) l.length c ∧ a.block ∈ D ∧ a.block < w.heap.size ∧ w.cell? (a.add (k * 3)) = some (encStr e.name) ∧ w.cell? ⟨(a.add (k * 3)).block,(a.add (k * 3)).off + 1,none⟩ = some (.bool e.file.shut) ∧ w.cell? ⟨(a.add (k * 3)).block,(a.add (k * 3)).off + 2,none⟩ = some e.sv ∧ BlD w D e.sv e.file.blocks
theorem StD.in_ {w:World} {D:List Nat} {fv:Value} {l:List SFl} (h:StD w D fv l):StIn w fv l:=⟨h.sl,fun k e he=>by
 obtain ⟨a,c,e1,hD,hl,c0,c1,c2,hb⟩:=h.at_ k e he
 exact ⟨a,c,e1,hl,c0,c1,c2,hb.in_⟩⟩
theorem StD.touch {w w':World} {D G:List Nat} {fv:Value} {l:List SFl} (h:StD w D fv l) (t:Tc G w w') (hG:∀ y ∈ G,y ∉ D):StD w' D fv l:=⟨h.sl,fun k e he=>by
 obtain ⟨a,c,e1,hD,hl,c0,c1,c2,hb⟩:=h.at_ k e he
 have hbk:(a.add (k * 3)).block = a.block:=add_block a _
 have hn:a.block ∉ G:=fun hx=>hG _ hx hD
 have cc:∀ q:Addr,q.block = a.block → w'.cell? q = w.cell? q:=fun q hq=>t.cell (by rw [hq]; exact hl) (by rw [hq]; exact hn)
 exact ⟨a,c,e1,hD,Nat.lt_of_lt_of_le hl t.size,(cc _ hbk).trans c0,(cc ⟨_,_ + 1,none⟩ hbk).trans c1,(cc ⟨_,_ + 2,none⟩ hbk).trans c2,hb.touch t hG⟩⟩
theorem flat_cells {l:List SFl} {k:Nat} {e:SFl} (h:l[k]? = some e):(l.flatMap SFl.cells)[k * 3]? = some (encStr e.name) ∧ (l.flatMap SFl.cells)[k * 3 + 1]? = some (.bool e.file.shut) ∧ (l.flatMap SFl.cells)[k * 3 + 2]? = some e.sv:=by
 induction l generalizing k with
 | nil=>simp at h
 | cons x t ih =>
  match k,h with
  | 0,h =>
   simp at h
   subst h
   exact ⟨rfl,rfl,rfl⟩
  | k + 1,h =>
   have h':t[k]? = some e:=by simpa using h
   obtain ⟨h0,h1,h2⟩:=ih h'
   have hc:(List.flatMap SFl.cells (x :: t)) = SFl.cells x ++ List.flatMap SFl.cells t:=rfl
   have hl:(SFl.cells x).length = 3:=rfl
   rw [hc]
   refine ⟨?_,?_,?_⟩
   ·rw [List.getElem?_append_right (by omega),hl,show (k + 1) * 3 - 3 = k * 3 by omega]; exact h0
   ·rw [List.getElem?_append_right (by omega),hl,show (k + 1) * 3 + 1 - 3 = k * 3 + 1 by omega]; exact h1
   ·rw [List.getElem?_append_right (by omega),hl,show (k + 1) * 3 + 2 - 3 = k * 3 + 2 by omega]; exact h2
theorem FsD.done {w:World} {D:List Nat} {base:Nat} {v:Value} {l:List SFl} (h:FsD w D l) (ho:w.ownsRow base 113 3 v l.length (l.flatMap SFl.cells)):∃ D',StD w D' v l ∧ (∀ y ∈ D',y < w.heap.size ∧ (y ∈ D ∨ v.ownBlock = some y)):=by
 rcases ho.2 with ⟨e,h0⟩ | ⟨g,cap,cur,e,hg1,hg2,_⟩
 ·refine ⟨D,⟨⟨none,0,by rw [e,h0]⟩,fun k e he=>?_⟩,fun y hy=>⟨h.rows.lt y hy,.inl hy⟩⟩
  have:=List.getElem?_eq_some_iff.1 he
  obtain ⟨hk,_⟩:=this
  omega
 ·refine ⟨g :: D,⟨⟨_,_,e⟩,fun k f hf=>?_⟩,fun y hy=>?_⟩
  ·obtain ⟨c0,c1,c2⟩:=flat_cells hf
   have hc:∀ j u,(l.flatMap SFl.cells)[j]? = some u → w.cell? ⟨g,j,none⟩ = some u:=fun j u hu=>by
    have:=ho.cells (g:=g) (by rw [e]; rfl) j u hu
    rw [azA] at this
    exact this
   refine ⟨⟨g,0,none⟩,cap,e,by simp,ltB hg2,?_,?_,?_,(h.each f (List.mem_of_getElem? hf)).mono (fun y hy=>List.mem_cons_of_mem _ hy)⟩
   ·rw [azA]; exact hc _ _ c0
   ·rw [azA]; exact hc _ _ c1
   ·rw [azA]; exact hc _ _ c2
  ·rcases List.mem_cons.1 hy with rfl | hy
   ·exact ⟨ltB hg2,.inr (by rw [e]; rfl)⟩
   ·exact ⟨h.rows.lt y hy,.inl hy⟩
theorem run_file (w:World) (ty:TypeId) (base:Nat) (v:Value) (n:Nat) (xs:List Value) (b:Nat) (c0 c1 c2:Value) (hown:w.ownsRow base 113 3 v n xs) (hb:w.heap[b]? = some (.cells #[c0,c1,c2] 113 (0,0))) (h0:c0.oneCell' = true) (h1:c1.oneCell' = true) (h2:c2.oneCell' = true) (hn:n ≤ 1099511627776) (hbase:base ≤ w.heap.size) :
  ∃ v' w',(Builtin.append_ #[40,40] ty #[v,.slice (some ⟨b,0,none⟩) 1 1]).run Tryz.prog w = .ok v' w' ∧ w'.ownsRow base 113 3 v' (n + 1) (xs ++ [c0,c1,c2]) ∧ w.grownBy w' v.ownBlock ∧ Below base w w':=by
 obtain ⟨i,hi,hz0,hz1,hz2⟩:=info_parts Tryz.info113
 have hnews:∀ j u,[c0,c1,c2][j]? = some u → w.cell? ((⟨b,0,none⟩:Addr).add j) = some u:=by
  intro j u hu
  rw [azA,cRw hb j]
  simpa using hu
 obtain ⟨v',w',hrun,ho,hg,hx⟩:=run_append_own (P:=Tryz.prog) w base 40 ty 113 i _ 3 48 Tryz.underlying40 hi hz0 hz1 hz2 rfl (by decide) v n xs hown ⟨b,0,none⟩ 1 1 [c0,c1,c2] rfl hnews (by simp [h0,h1,h2]) (by unfold maxLen; omega) (by omega) hbase
 exact ⟨v',w',hrun,ho,hg,(Below.refl _ w).grown hg hbase (fun k hk=>(hown.lt k hk).1)⟩
theorem wpList_file (w:World) {ops:Array Oper} {rest:List Oper} {o:Oper} {a:Act} {Q:Exit → Act → World → Prop} (hgd:o.guard = none) (s x:Operand)
  (hop:o.op = Op.call { callee:=Callee.builtin Builtin.append,args:=#[s,x],argTypes:=#[40,40] })
  (base:Nat) (v:Value) (n:Nat) (xs:List Value) (b:Nat) (c0 c1 c2:Value) (hs:a.eval s = v) (hx:a.eval x = .slice (some ⟨b,0,none⟩) 1 1) (hown:w.ownsRow base 113 3 v n xs) (hb:w.heap[b]? = some (.cells #[c0,c1,c2] 113 (0,0))) (h0:c0.oneCell' = true) (h1:c1.oneCell' = true) (h2:c2.oneCell' = true) (hn:n ≤ 1099511627776) (hbase:base ≤ w.heap.size)
  (hK:∀ v' w',w'.ownsRow base 113 3 v' (n + 1) (xs ++ [c0,c1,c2]) → w.grownBy w' v.ownBlock → Below base w w' → wpList Tryz.prog ops Q rest (a.put o.dst v') w'):wpList Tryz.prog ops Q (o :: rest) a w:=by
 refine wpList_plain hgd fun K' hK'=>?_
 obtain ⟨v',w',hrun,ho,hg,hy⟩:=run_file w o.type base v n xs b c0 c1 c2 hown hb h0 h1 h2 hn hbase
 unfold Oper.wp
 simp [execOp,hop,resolve,invoke,builtin,hs,hx,hrun,Result.andThen]
 exact hK' _ _ (hK v' w' ho hg hy)
def insF (e:SFl):List SFl → List SFl
 | []=>[e]
 | x :: t=>if bytesBefore e.name x.name = true then e :: x :: t else x :: insF e t
def sortF (l:List SFl):List SFl:=l.foldl (fun acc e=>insF e acc) []
theorem insF_len (e:SFl) (l:List SFl):(insF e l).length = l.length + 1:=by
 induction l with
 | nil=>rfl
 | cons x t ih =>
  unfold insF
  split <;> simp [ih]
theorem sortF_snoc (l:List SFl) (e:SFl):sortF (l ++ [e]) = insF e (sortF l):=by simp [sortF]
theorem sortF_len (l:List SFl):(sortF l).length = l.length:=by
 have h:∀ (l acc:List SFl),(l.foldl (fun acc e=>insF e acc) acc).length = acc.length + l.length:=fun l=>by
  induction l with
  | nil=>intro acc; rfl
  | cons e t ih=>intro acc; simp only [List.foldl_cons]; rw [ih,insF_len,List.length_cons]; omega
 have:=h l []
 simpa [sortF] using this
theorem insF_hit {e b:SFl} {A:List SFl} (h:∀ x ∈ A,bytesBefore e.name x.name = false) (hb:bytesBefore e.name b.name = true):insF e (A ++ [b]) = A ++ [e] ++ [b]:=by
 induction A with
 | nil=>simp [insF,hb]
 | cons x t ih =>
  have h1:=h x (by simp)
  simp only [List.cons_append,insF,h1]
  rw [if_neg (by decide),ih (fun y hy=>h y (by simp [hy]))]
theorem insF_miss {e:SFl} {A:List SFl} (h:∀ x ∈ A,bytesBefore e.name x.name = false):insF e A = A ++ [e]:=by
 induction A with
 | nil=>rfl
 | cons x t ih =>
  have h1:=h x (by simp)
  simp only [List.cons_append,insF,h1]
  rw [if_neg (by decide),ih (fun y hy=>h y (by simp [hy]))]
theorem insF_on {e b:SFl} {A:List SFl} (h:∃ x ∈ A,bytesBefore e.name x.name = true):insF e (A ++ [b]) = insF e A ++ [b]:=by
 induction A with
 | nil=>obtain ⟨x,hx,_⟩:=h; cases hx
 | cons x t ih =>
  simp only [List.cons_append,insF]
  by_cases h1:bytesBefore e.name x.name = true
  ·rw [if_pos h1,if_pos h1]; simp
  ·rw [if_neg h1,if_neg h1]
   obtain ⟨y,hy,h2⟩:=h
   rcases List.mem_cons.1 hy with rfl | hy
   ·exact absurd h2 h1
   ·rw [ih ⟨y,hy,h2⟩]; simp
theorem insF_mem {e x:SFl} {l:List SFl}:x ∈ insF e l ↔ x = e ∨ x ∈ l:=by
 induction l with
 | nil=>simp [insF]
 | cons y t ih =>
  unfold insF
  split
  ·simp
  ·simp only [List.mem_cons,ih]
   constructor
   ·rintro (h | h | h) <;> simp [h]
   ·rintro (h | h | h) <;> simp [h]
theorem sortF_mem {x:SFl} {l:List SFl}:x ∈ sortF l ↔ x ∈ l:=by
 have h:∀ (l acc:List SFl),x ∈ l.foldl (fun acc e=>insF e acc) acc ↔ x ∈ acc ∨ x ∈ l:=fun l=>by
  induction l with
  | nil=>intro acc; simp
  | cons e t ih=>intro acc; simp only [List.foldl_cons]; rw [ih,insF_mem,List.mem_cons,or_comm (a:=x = e),or_assoc]
 have:=h l []
 simpa [sortF] using this
def mF (e:SFl) (A:List SFl) (d:Bool):List SFl:=if d = true then insF e A else A
def mD (e:SFl) (A:List SFl) (d:Bool):Prop:=if d = true then ∃ x ∈ A,bytesBefore e.name x.name = true else ∀ x ∈ A,bytesBefore e.name x.name = false
theorem take_snoc {l:List SFl} {k:Nat} (h:k < l.length):l.take (k + 1) = l.take k ++ [l[k]]:=List.take_succ_eq_append_getElem h
theorem row_of {w:World} {base n:Nat} {v:Value} {l:List SFl} (h:w.ownsRow base 113 3 v n (l.flatMap SFl.cells)) {g:Nat} (hg:v.ownBlock = some g) {k:Nat} {e:SFl} (he:l[k]? = some e):w.cell? ⟨g,k * 3,none⟩ = some (encStr e.name) ∧ w.cell? ⟨g,k * 3 + 1,none⟩ = some (.bool e.file.shut) ∧ w.cell? ⟨g,k * 3 + 2,none⟩ = some e.sv:=by
 obtain ⟨c0,c1,c2⟩:=flat_cells he
 have hc:∀ j u,(l.flatMap SFl.cells)[j]? = some u → w.cell? ⟨g,j,none⟩ = some u:=fun j u hu=>by
  have:=h.cells hg j u hu
  rw [azA] at this
  exact this
 exact ⟨hc _ _ c0,hc _ _ c1,hc _ _ c2⟩
theorem own_block {w:World} {base n size:Nat} {ty:TypeId} {v:Value} {xs:List Value} (h:w.ownsRow base ty size v n xs) (hn:0 < n):∃ g c,v = .slice (some ⟨g,0,none⟩) n c ∧ g < w.heap.size ∧ n ≤ c:=by
 rcases h.2 with ⟨_,h0⟩ | ⟨g,cap,cur,e,_,hg,hc,_⟩
 ·omega
 ·exact ⟨g,cap,e,ltB hg,hc⟩
theorem oTG {w w':World} {F:List Nat} {base size:Nat} {ty:TypeId} {v:Value} {n:Nat} {xs:List Value} (h:w.ownsRow base ty size v n xs) (ht:Tc F w w') (hF:∀ x,v.ownBlock = some x → x ∉ F):w'.ownsRow base ty size v n xs:=by
 refine ⟨h.1,?_⟩
 rcases h.2 with hn | ⟨g,cap,cur,rfl,hb,hg,rest⟩
 ·exact .inl hn
 ·exact .inr ⟨g,cap,cur,rfl,hb,(ht.block g (ltB hg) (hF g rfl)).trans hg,rest⟩
theorem less_bs (a b:List UInt8):Op.bytesLess (bs a).toList (bs b).toList = bytesBefore a b:=by
 have h:∀ l:List UInt8,(bs l).toList = l:=fun l=>ByteArray.toList_mk l
 rw [h,h,less_before]
theorem mD_nil (e:SFl):mD e [] false:=fun x hx=>by cases hx
section
variable {w:World} {l:List SFl} {fv:Value} {base:Nat} {b:Int}
set_option maxHeartbeats 8000000 in
theorem state_any (h:w.ownsRow base 113 3 fv l.length (l.flatMap SFl.cells)) (hl:l.length ≤ 1048576) (hsl:∀ e ∈ l,∃ a n c,e.sv = .slice a n c) :
  Calls Tryz.prog 59 #[.int .i64 b,fv] w fun e w'=>∃ sv,e = .returned (.agg #[.int .i64 b,sv]) ∧ w'.ownsRow w.heap.size 113 3 sv l.length ((sortF l).flatMap SFl.cells) ∧ Tc [] w w':=by
 obtain ⟨fa,fc,rfl⟩:=oSC h
 have HH:=hid (fun W (tt:Tc [] w W)=>oTG h tt (fun x hx hg=>by cases hg))
 have HSL:=hid hsl
 clear h hsl
 go_enter Tryz.func59,Tryz.ntmps59
 go_upto_region 1 with fail
 obtain ⟨W1,hW1⟩:∃ W1,W1 = w.alloc (.cells #[.int .i64 0,.slice none 0 0] 42):=⟨_,rfl⟩
 have t1:Tc [] w W1:=by rw [hW1]; exact (Tc.refl [] w).alloc _
 have r1:W1.heap[w.heap.size]? = some (.cells #[.int .i64 0,.slice none 0 0] 42 (0,0)):=by rw [hW1]; exact heap_alloc_new w _
 have hz1:W1.heap.size = w.heap.size + 1:=by rw [hW1]; simp
 rw [← hW1]
 have HT1:=hid (And.intro t1 (And.intro r1 hz1))
 clear hW1 t1 r1 hz1
 generalize hrb:w.heap.size = rb at *
 have HRB:=hid hrb
 clear hrb
 go_wp2_with fail
 go_loopw [5,6] (fun v i W=>∃ k:Nat,k ≤ l.length ∧ i = .int .i64 k ∧ Hid (W.ownsRow W1.heap.size 113 3 v k ((sortF (l.take k)).flatMap SFl.cells)) ∧ Hid (Below W1.heap.size W1 W)) (fun _ i _=>l.length - (intOf i).toNat)
 case atStart=>exact ⟨0,Nat.zero_le _,rfl,hid (World.ownsRow_nil _ _ _ _),hid (Below.refl _ _)⟩
 case round =>
  obtain ⟨k,hk,rfl,HV,HT⟩:=hrel
  obtain ⟨va,vc,rfl⟩:=oSC HV.out
  have HTW:=hid (HT1.out.1.trans (Tc.of_below (F:=[]) HT.out (Nat.le_refl _)) (by simp))
  by_cases hlt:k < l.length
  ·obtain ⟨e,he⟩:∃ e,e = l[k]:=⟨_,rfl⟩
   have HTK:=hid (show l.take (k + 1) = l.take k ++ [e] by rw [he]; exact take_snoc hlt)
   have hge:l[k]? = some e:=by rw [he]; exact List.getElem?_eq_getElem hlt
   obtain ⟨sa,sn,sc,hsv⟩:=HSL.out e (by rw [he]; exact List.getElem_mem hlt)
   obtain ⟨fg,fcc,hfg,hfl,hfc⟩:=own_block (HH.out wr HTW.out) (by omega)
   injection hfg with e1 e2 e3
   subst e1
   subst e3
   have HCE:Hid (∀ W,Tc [] wr W → W.cell? ⟨fg,k * 3,none⟩ = some (.string (bs e.name)) ∧ W.cell? ⟨fg,k * 3 + 1,none⟩ = some (.bool e.file.shut) ∧ W.cell? ⟨fg,k * 3 + 2,none⟩ = some (.slice sa sn sc)):=hid (fun W tt=>by
    have:=row_of (HH.out W (HTW.out.trans tt (by simp))) (g:=fg) rfl hge
    rw [hsv] at this
    exact this)
   obtain ⟨L,hL⟩:∃ L,L = sortF (l.take k):=⟨_,rfl⟩
   have hLl:L.length = k:=by rw [hL,sortF_len,List.length_take]; omega
   have HLS:Hid (∀ x ∈ L,∃ a n c,x.sv = .slice a n c):=hid (fun x hx=>by
    rw [hL] at hx
    exact HSL.out x (List.mem_of_mem_take (sortF_mem.1 hx)))
   have HLN:=hid (show sortF (l.take (k + 1)) = insF e L by rw [HTK.out,sortF_snoc,hL])
   rw [← hL] at HV
   have HLl:=hid hLl
   have HES:=hid hsv
   clear he hge hsv hL hLl HTK
   obtain ⟨w3,hw3⟩:∃ w3,w3 = wr:=⟨_,rfl⟩
   subst hw3
   go_wp2_with fail
   go_loopw [7,8,9] (fun m d j W=>∃ (q:Nat) (db:Bool),q ≤ k ∧ j = .int .i64 q ∧ d = .bool db ∧ Hid (mD e (L.take q) db) ∧ Hid (W.ownsRow w3.heap.size 113 3 m (q + db.toNat) ((mF e (L.take q) db).flatMap SFl.cells)) ∧ Hid (Below w3.heap.size w3 W)) (fun _ _ j _=>k - (intOf j).toNat)
   case atStart=>exact ⟨0,false,Nat.zero_le _,rfl,rfl,hid (mD_nil e),hid (World.ownsRow_nil _ _ _ _),hid (Below.refl _ _)⟩
   case round =>
    obtain ⟨q,db,hq,rfl,rfl,HMD,HM,HTI⟩:=hrel
    obtain ⟨ma,mc,rfl⟩:=oSC HM.out
    have HT3:=hid (Tc.of_below (F:=[]) HTI.out (Nat.le_refl _))
    by_cases hql:q < k
    ·obtain ⟨lg,lc,hlg,hll,hlc⟩:=own_block HV.out (by omega)
     injection hlg with e1 e2 e3
     subst e1
     subst e3
     have hqL:q < L.length:=by rw [HLl.out]; exact hql
     obtain ⟨x,hx⟩:∃ x,x = L[q]:=⟨_,rfl⟩
     have hgx:L[q]? = some x:=by rw [hx]; exact List.getElem?_eq_getElem hqL
     obtain ⟨xa,xn,xc,hxv⟩:=HLS.out x (by rw [hx]; exact List.getElem_mem hqL)
     have HTX:=hid (show L.take (q + 1) = L.take q ++ [x] by rw [hx]; exact take_snoc hqL)
     have HXS:=hid hxv
     have HCX:Hid (∀ W,Tc [] w3 W → W.cell? ⟨lg,q * 3,none⟩ = some (.string (bs x.name)) ∧ W.cell? ⟨lg,q * 3 + 1,none⟩ = some (.bool x.file.shut) ∧ W.cell? ⟨lg,q * 3 + 2,none⟩ = some (.slice xa xn xc)):=hid (fun W tt=>by
      have:=row_of (oTG HV.out tt (fun y _ hy=>by cases hy)) (g:=lg) rfl hgx
      rw [hxv] at this
      exact this)
     clear hx hgx hxv hqL
     obtain ⟨a0,a1,a2⟩:=HCE.out wr HT3.out
     obtain ⟨x0,x1,x2⟩:=HCX.out wr HT3.out
     have hki:(k:Int) < (l.length:Int):=by omega
     have hqi:(q:Int) < (k:Int):=by omega
     cases db with
     | false =>
      by_cases hbf:bytesBefore e.name x.name = true
      ·have hbl:Op.bytesLess (bs e.name).toList (bs x.name).toList = true:=by rw [less_bs]; exact hbf
       go_wp2_with fail
       go_quiet (fail)
       obtain ⟨wd,hwd⟩:∃ wd,wd = wr.drewN nq:=⟨_,rfl⟩
       have HTD:=hid (show Tc [] wr wd by rw [hwd]; exact (Tc.refl [] wr).drewN _)
       have HBD:=hid (show Below w3.heap.size w3 wd by rw [hwd]; exact ⟨HTI.out.os,HTI.out.tape,HTI.out.output,HTI.out.size,HTI.out.block⟩)
       rw [← hwd]
       clear hwd a0 a1 a2 x0 x1 x2
       have HMW:=hid (oTG HM.out HTD.out (fun y _ hy=>by cases hy))
       have ⟨a0,a1,a2⟩:=HCE.out wd (HT3.out.trans HTD.out (by simp))
       go_upto_region 12 with (at_builtin; refine wpList_file _ rfl _ _ rfl w3.heap.size (.slice ma q mc) q ((mF e (L.take q) false).flatMap SFl.cells) wd.heap.size (.string (bs e.name)) (.bool e.file.shut) (.slice sa sn sc) rfl rfl (World.ownsRow.alloc HMW.out _) (heap_alloc_new wd _) rfl rfl rfl (by omega) (by simp; exact Nat.le_succ_of_le HBD.out.size) ?_; intro v5 w5 o5 g5 b5; have HO5:=hid o5; have HB5:=hid ((HBD.out.alloc HBD.out.size _).trans b5); obtain ⟨m5,c5,e5⟩:=oSC o5; subst e5; clear o5 g5 b5)
       clear a0 a1 a2
       have HT5:=hid (Tc.of_below (F:=[]) HB5.out (Nat.le_refl _))
       have ⟨x0,x1,x2⟩:=HCX.out w5 HT5.out
       go_wp2_with (at_builtin; refine wpList_file _ rfl _ _ rfl w3.heap.size (.slice m5 (q + 1) c5) (q + 1) ((mF e (L.take q) false).flatMap SFl.cells ++ [Value.string (bs e.name),.bool e.file.shut,.slice sa sn sc]) w5.heap.size (.string (bs x.name)) (.bool x.file.shut) (.slice xa xn xc) rfl rfl (World.ownsRow.alloc HO5.out _) (heap_alloc_new w5 _) rfl rfl rfl (by omega) (by simp; exact Nat.le_succ_of_le HB5.out.size) ?_; intro v6 w6 o6 g6 b6; have HO6:=hid o6; have HB6:=hid ((HB5.out.alloc HB5.out.size _).trans b6); obtain ⟨m6,c6,e6⟩:=oSC o6; subst e6; clear o6 g6 b6)
       have hmd:=HMD.out
       have hes:=HES.out
       have hxs:=HXS.out
       have htx:=HTX.out
       have ho6:=HO6.out
       refine ⟨⟨q + 1,true,hql,rfl,rfl,hid ?_,hid ?_,HB6⟩,by simp [intOf]; omega⟩
       ·rw [htx]
        exact ⟨x,by simp,hbf⟩
       ·rw [htx]
        unfold mF at ho6 ⊢
        rw [if_neg (by decide)] at ho6
        rw [if_pos rfl,insF_hit hmd hbf,List.flatMap_append,List.flatMap_append]
        simpa [SFl.cells,hes,hxs,encStr,bs] using ho6
      ·have hbl:Op.bytesLess (bs e.name).toList (bs x.name).toList = false:=by rw [less_bs]; simpa using hbf
       go_wp2_with fail
       go_quiet (fail)
       obtain ⟨wd,hwd⟩:∃ wd,wd = wr.drewN nq:=⟨_,rfl⟩
       have HTD:=hid (show Tc [] wr wd by rw [hwd]; exact (Tc.refl [] wr).drewN _)
       have HBD:=hid (show Below w3.heap.size w3 wd by rw [hwd]; exact ⟨HTI.out.os,HTI.out.tape,HTI.out.output,HTI.out.size,HTI.out.block⟩)
       rw [← hwd]
       clear hwd a0 a1 a2 x0 x1 x2
       have HMW:=hid (oTG HM.out HTD.out (fun y _ hy=>by cases hy))
       have ⟨x0,x1,x2⟩:=HCX.out wd (HT3.out.trans HTD.out (by simp))
       go_wp2_with (at_builtin; refine wpList_file _ rfl _ _ rfl w3.heap.size (.slice ma q mc) q ((mF e (L.take q) false).flatMap SFl.cells) wd.heap.size (.string (bs x.name)) (.bool x.file.shut) (.slice xa xn xc) rfl rfl (World.ownsRow.alloc HMW.out _) (heap_alloc_new wd _) rfl rfl rfl (by omega) (by simp; exact Nat.le_succ_of_le HBD.out.size) ?_; intro v6 w6 o6 g6 b6; have HO6:=hid o6; have HB6:=hid ((HBD.out.alloc HBD.out.size _).trans b6); obtain ⟨m6,c6,e6⟩:=oSC o6; subst e6; clear o6 g6 b6)
       have hmd:=HMD.out
       have hxs:=HXS.out
       have htx:=HTX.out
       have ho6:=HO6.out
       refine ⟨⟨q + 1,false,hql,rfl,rfl,hid ?_,hid ?_,HB6⟩,by simp [intOf]; omega⟩
       ·rw [htx]
        intro y hy
        rcases List.mem_append.1 hy with hy | hy
        ·exact hmd y hy
        ·rw [List.mem_singleton] at hy
         subst hy
         simpa using hbf
       ·rw [htx]
        unfold mF at ho6 ⊢
        rw [if_neg (by decide)] at ho6
        rw [if_neg (by decide),List.flatMap_append]
        simpa [SFl.cells,hxs,encStr,bs] using ho6
     | true =>
      go_wp2_with fail
      go_quiet (fail)
      obtain ⟨wd,hwd⟩:∃ wd,wd = wr.drewN nq:=⟨_,rfl⟩
      have HTD:=hid (show Tc [] wr wd by rw [hwd]; exact (Tc.refl [] wr).drewN _)
      have HBD:=hid (show Below w3.heap.size w3 wd by rw [hwd]; exact ⟨HTI.out.os,HTI.out.tape,HTI.out.output,HTI.out.size,HTI.out.block⟩)
      rw [← hwd]
      clear hwd a0 a1 a2 x0 x1 x2
      have HMW:=hid (oTG HM.out HTD.out (fun y _ hy=>by cases hy))
      have ⟨x0,x1,x2⟩:=HCX.out wd (HT3.out.trans HTD.out (by simp))
      go_wp2_with (at_builtin; refine wpList_file _ rfl _ _ rfl w3.heap.size (.slice ma (q + 1) mc) (q + 1) ((mF e (L.take q) true).flatMap SFl.cells) wd.heap.size (.string (bs x.name)) (.bool x.file.shut) (.slice xa xn xc) rfl rfl (World.ownsRow.alloc HMW.out _) (heap_alloc_new wd _) rfl rfl rfl (by omega) (by simp; exact Nat.le_succ_of_le HBD.out.size) ?_; intro v6 w6 o6 g6 b6; have HO6:=hid o6; have HB6:=hid ((HBD.out.alloc HBD.out.size _).trans b6); obtain ⟨m6,c6,e6⟩:=oSC o6; subst e6; clear o6 g6 b6)
      have hmd:=HMD.out
      have hxs:=HXS.out
      have htx:=HTX.out
      have ho6:=HO6.out
      refine ⟨⟨q + 1,true,hql,rfl,rfl,hid ?_,hid ?_,HB6⟩,by simp [intOf]; omega⟩
      ·rw [htx]
       obtain ⟨y,hy,h2⟩:=hmd
       exact ⟨y,List.mem_append_left _ hy,h2⟩
      ·rw [htx]
       unfold mF at ho6 ⊢
       rw [if_pos rfl] at ho6
       rw [if_pos rfl,insF_on hmd,List.flatMap_append]
       simpa [SFl.cells,hxs,encStr,bs] using ho6
    ·obtain rfl:q = k:=by omega
     have htk:L.take q = L:=by rw [List.take_of_length_le (by rw [HLl.out]; exact Nat.le_refl _)]
     have HTKL:=hid htk
     clear htk
     obtain ⟨a0,a1,a2⟩:=HCE.out wr HT3.out
     have hki:(q:Int) < (l.length:Int):=by omega
     cases db with
     | false =>
      go_wp2_with (at_builtin; refine wpList_file _ rfl _ _ rfl w3.heap.size (.slice ma q mc) q ((mF e (L.take q) false).flatMap SFl.cells) wr.heap.size (.string (bs e.name)) (.bool e.file.shut) (.slice sa sn sc) rfl rfl (World.ownsRow.alloc HM.out _) (heap_alloc_new wr _) rfl rfl rfl (by omega) (by simp; exact Nat.le_succ_of_le HTI.out.size) ?_; intro v6 w6 o6 g6 b6; have HO6:=hid o6; have HB6:=hid ((HTI.out.alloc HTI.out.size _).trans b6); obtain ⟨m6,c6,e6⟩:=oSC o6; subst e6; clear o6 g6 b6)
      have hmd:=HMD.out
      have hes:=HES.out
      have ho6:=HO6.out
      have htk:=HTKL.out
      have hln:=HLN.out
      have hb1:=HB6.out.mono HT.out.size
      refine ⟨⟨q + 1,hlt,rfl,hid ?_,hid (HT.out.trans hb1)⟩,by simp [intOf]; omega⟩
      rw [htk] at hmd ho6
      unfold mF at ho6
      rw [if_neg (by decide)] at ho6
      rw [hln,insF_miss hmd,List.flatMap_append]
      exact own_lower (by simpa [SFl.cells,hes,encStr,bs] using ho6) HT.out.size
     | true =>
      go_wp2_with fail
      have hm:=HM.out
      have htk:=HTKL.out
      have hln:=HLN.out
      refine ⟨⟨q + 1,hlt,rfl,hid ?_,hid (HT.out.trans (HTI.out.mono HT.out.size))⟩,by simp [intOf]; omega⟩
      rw [htk] at hm
      unfold mF at hm
      rw [if_pos rfl] at hm
      rw [hln]
      exact own_lower hm HT.out.size
  ·obtain rfl:k = l.length:=by omega
   obtain ⟨tt1,r1,hz1⟩:=HT1.out
   have hr2:=(HT.out.block rb (by omega)).trans r1
   have c0:=cRw hr2
   have u0:=uRw hr2
   have HR2:=hid hr2
   clear tt1 r1 hz1 hr2
   go_wp2_with fail
   obtain ⟨tt1,r1,hz1⟩:=HT1.out
   have hv:=HV.out
   rw [List.take_length] at hv
   have f1:=Lib.heap_setCell_same (i:=1) (Lib.heap_setCell_same (i:=0) HR2.out (.int .i64 b)) (.slice va l.length vc)
   have g0:=cRw f1 0
   have g1:=cRw f1 1
   have hrb:=HRB.out
   refine bodyPost_ret (v:=.agg #[.int .i64 b,.slice va l.length vc]) (by simp [results,Tryz.results59,go_sem,g0,g1]) rfl ⟨_,rfl,?_,(HTW.out.setCell (.inr (by show _ ≤ rb; omega)) _).setCell (.inr (by show _ ≤ rb; omega)) _⟩
   have t2:Tc [rb] wr ((wr.setCell ⟨rb,0,none⟩ (.int .i64 b)).setCell ⟨rb,1,none⟩ (.slice va l.length vc)):=((Tc.refl _ wr).setCell (.inl (by simp)) _).setCell (.inl (by simp)) _
   exact own_lower (oTG hv t2 (fun y hy hx=>by
    rw [List.mem_singleton] at hx
    have:=(hv.lt y hy).1
    omega)) (by omega)
end
end Go.Proofs.YthehcjjckabljaaGreatDoor
