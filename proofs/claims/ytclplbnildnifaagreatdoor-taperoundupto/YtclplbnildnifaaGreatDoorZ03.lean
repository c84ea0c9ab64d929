import Derived.Test.YtclplbnildnifaaGreatDoorZ02
namespace Go.Proofs.YtclplbnildnifaaGreatDoor
open Go.RowKit Go.Deep

section
variable {w w' : World} {E : Nat → Addr} {lo p mf mt : Nat} {D : DiskC}

set_option maxRecDepth 100000 in
set_option maxHeartbeats 400000 in
theorem carry_put (R : Rep w lo p mf mt D) {s : ByteArray} {x k y : Int} (bf bb bd : Nat) (hk1 : (k == 1) = false) (hk2 : (k == 2) = false) {e0 : Ent} (hf : findE D.ents (nm s) = some e0) (hS : Small D.pub) {bl : List UInt8} (a : Addr) (c : Nat) (hbl : bl.length = D.B) (hc : bl.length ≤ c)
    (hsrc : ∀ j v, (Lib.byteCells bl)[j]? = some v → w.cell? (a.add j) = some v) (ha : a.block < w.heap.size) (hlo : lo ≤ w.heap.size)
    (hbf : w.heap[bf]? = some (.cells #[ptr e0.lay.fb] 134 (0, 0))) (hbb : w.heap[bb]? = some (.cells #[.slice (some a) bl.length c] 158 (0, 0))) (hbd : w.heap[bd]? = some (.cells #[ptr p] 24 (0, 0))) :
    Calls Tryz.prog 192 #[ptr p, .agg #[.int .i64 x, .int .i64 k, .int .i64 y], .func (.func 233) #[] #[ptr bf, ptr bb, ptr bd]] w fun e w' => e = .returned .nilIface ∧
      (∃ L, Rep w' lo p mf mt { D with ents := setE (nm s) { e0.file with blocks := e0.file.blocks ++ [bl] } L D.ents, c := { D.c with used := D.c.used + 1, most := max D.c.most (D.c.used + 1) } } ∧ ∀ b ∈ L.foot, b ∈ e0.lay.foot ∨ w.heap.size ≤ b) ∧ Touch (p :: e0.lay.foot) w w' := by
  have k0 := R.cell 0
  simp only [dRow] at k0
  have hp := lt_of_block R.row
  have hcut : cutB ((D.B : Nat) : Int).toNat bl = bl := cutB_whole (by rw [hbl]; simp)
  have hadd : ∀ j, (a.add j).block = a.block := fun j => by unfold Addr.add; split <;> rfl
  have hsrc' : ∀ (o : Obj) j v, (Lib.byteCells bl)[j]? = some v → (w.alloc o).cell? (a.add j) = some v := fun o j v h => (World.cell?_of_block (Below.heap_alloc w o _ (by rw [hadd]; exact ha))).trans (hsrc j v h)
  have H := hid (fun o : Obj => put1_any (R.alloc o) (D.B : Int) (by omega) bf bb bd hf hS a c hbl hc (hsrc' o) (by simp; omega) (by simp; omega) ((Below.heap_alloc w o bf (lt_of_block hbf)).trans hbf) ((Below.heap_alloc w o bb (lt_of_block hbb)).trans hbb) ((Below.heap_alloc w o bd (lt_of_block hbd)).trans hbd))
  rw [hcut] at H
  clear hbf hbb hbd hf hS hsrc hsrc' hadd ha hbl hcut
  go_enter Tryz.func192, Tryz.ntmps192
  go_wp2_with (go_at_call 233; refine (H.out _).mono ?_; rintro e w1 ⟨rfl, ⟨L, hR, hL⟩, ht⟩)
  go_ret
  refine ⟨rfl, ⟨L, hR, fun b hb => ?_⟩, ((Touch.refl _ w).alloc _).trans ht (fun b hb => .inl hb)⟩
  rcases hL b hb with h | h
  · exact .inl h
  · right; simp at h; omega


theorem put_row {w1 w2 : World} {b n : Nat} {o o' : Obj} (hb : w1.heap[b]? = some o') (ht : Touch [p, mt] ((w1.alloc o).drewN n) w2) (h1 : p < b) (h2 : mt < b) : w2.heap[b]? = some o' :=
  (ht.block b (by show b < (w1.alloc o).heap.size; have := lt_of_block hb; simp; omega) (by simp; omega)).trans ((Below.heap_alloc w1 o b (lt_of_block hb)).trans hb)
theorem put_new {w1 w2 : World} {n : Nat} {o : Obj} (ht : Touch [p, mt] ((w1.alloc o).drewN n) w2) (h1 : p < w1.heap.size) (h2 : mt < w1.heap.size) : w2.heap[w1.heap.size]? = some o :=
  (ht.block _ (by show w1.heap.size < (w1.alloc o).heap.size; simp) (by simp; omega)).trans (heap_alloc_new w1 o)

theorem put_keeps {w2 w3 : World} {n : List UInt8} (Rw : Rep w lo p mf mt D) {e0 : Ent} (hf : findE D.ents n = some e0) (ht : Touch (p :: e0.lay.foot) w2 w3) (hl : w.heap.size < w2.heap.size) : w3.cell? ⟨w.heap.size, 0, none⟩ = w2.cell? ⟨w.heap.size, 0, none⟩ := by
  refine ht.cell (p := ⟨w.heap.size, 0, none⟩) hl ?_
  intro h
  rcases List.mem_cons.1 h with h | h
  · have := lt_of_block Rw.row
    have h' : w.heap.size = p := h
    omega
  · have := (Rw.ent_ne (findE_mem hf).1 h).2.2.2.1
    have h' : (⟨w.heap.size, 0, none⟩ : Addr).block = w.heap.size := rfl
    omega

theorem carry_put_at {W w1 w2 : World} {s : ByteArray} {x k y : Int} {bf bb bd n : Nat} {o : Obj} (R : Rep w2 lo p mf mt D) (hk1 : (k == 1) = false) (hk2 : (k == 2) = false) {e0 : Ent} (hf : findE D.ents (nm s) = some e0) (hS : Small D.pub) {bl : List UInt8} {a : Addr} {c : Nat} (hbl : bl.length = D.B) (hc : bl.length ≤ c)
    (hsrc : ∀ j v, (Lib.byteCells bl)[j]? = some v → w.cell? (a.add j) = some v) (ha : a.block < w.heap.size) (hlo : lo ≤ w.heap.size) (hTW : Touch [] w W) (hq : Quiet W w1) (ht : Touch [p, mt] ((w1.alloc o).drewN n) w2) (hp : a.block ≠ p) (hm : a.block ≠ mt)
    (hbf : w2.heap[bf]? = some (.cells #[ptr e0.lay.fb] 134 (0, 0))) (hbb : w2.heap[bb]? = some (.cells #[.slice (some a) D.B c] 158 (0, 0))) (hbd : w2.heap[bd]? = some (.cells #[ptr p] 24 (0, 0))) :
    Calls Tryz.prog 192 #[ptr p, .agg #[.int .i64 x, .int .i64 k, .int .i64 y], .func (.func 233) #[] #[ptr bf, ptr bb, ptr bd]] w2 fun e w' => e = .returned .nilIface ∧
      (∃ L, Rep w' lo p mf mt { D with ents := setE (nm s) { e0.file with blocks := e0.file.blocks ++ [bl] } L D.ents, c := { D.c with used := D.c.used + 1, most := max D.c.most (D.c.used + 1) } } ∧ ∀ b ∈ L.foot, b ∈ e0.lay.foot ∨ w2.heap.size ≤ b) ∧ Touch (p :: e0.lay.foot) w2 w' := by
  have t2 : Touch [p, mt] w w2 := (((((hTW.mono (by simp)).trans (Quiet.touch hq []) (by simp))).alloc _).drewN _).trans ht (by simp)
  have hadd : ∀ j, (a.add j).block = a.block := fun j => by unfold Addr.add; split <;> rfl
  rw [← hbl] at hbb
  refine carry_put R bf bb bd hk1 hk2 hf hS a c hbl hc (fun j v h => ?_) (by have := t2.size; omega) (Nat.le_trans hlo t2.size) hbf hbb hbd
  rw [t2.cell (p := a.add j) (by rw [hadd]; omega) (by rw [hadd]; simp [hp, hm])]
  exact hsrc j v h

set_option maxRecDepth 100000 in
set_option maxHeartbeats 400000 in
theorem put_ok (R : Rep w lo p mf mt D) (s : ByteArray) (ho : D.on = true) (hn : nameB s = true) {e0 : Ent} (hf : findE D.ents (nm s) = some e0) (hs : e0.file.shut = false) {bl : List UInt8} {a : Addr} {c : Nat} (hbl : bl.length = D.B) (hc : bl.length ≤ c)
    (hsrc : ∀ j v, (Lib.byteCells bl)[j]? = some v → w.cell? (a.add j) = some v) (ha : a.block < w.heap.size) (hpl : a.block ≠ p) (hml : a.block ≠ mt) (hlo : lo ≤ w.heap.size) (hu : D.c.used < D.Bs) {x k y : Int} (hT : TroubleIs D.T D.c.calls x k y) (hk1 : (k == 1) = false) (hk2 : (k == 2) = false) (hS : Small D.pub) (hcc : D.c.calls + 1 ≤ 1099511627776) :
    Calls Tryz.prog 202 #[ptr p, .string s, .slice (some a) D.B c] w fun e w' => e = .returned .nilIface ∧
      (∃ L, Rep w' lo p mf mt { D.numbered with ents := setE (nm s) { e0.file with blocks := e0.file.blocks ++ [bl] } L D.ents, c := { D.numbered.c with used := D.c.used + 1, most := max D.c.most (D.c.used + 1) } } ∧ ∀ b ∈ L.foot, b ∈ e0.lay.foot ∨ w.heap.size ≤ b) ∧ Touch (p :: mt :: e0.lay.foot) w w' := by
  obtain ⟨W, hW⟩ : ∃ W, W = (w.alloc (.cells #[ptr p] 24)).alloc (.cells #[.slice (some a) D.B c] 158) := ⟨_, rfl⟩
  have hW1 : W.heap[w.heap.size]? = some (.cells #[ptr p] 24) ∧ W.heap[w.heap.size + 1]? = some (.cells #[.slice (some a) D.B c] 158) := by rw [hW]; exact heap_two w _ _
  have hTW : Touch [] w W := by rw [hW]; exact ((Touch.refl [] w).alloc _).alloc _
  have RW : Rep W lo p mf mt D := R.touch hTW (by simp)
  have H := hid (find_some RW s ho hn hf)
  have hrow := (RW.each e0 (findE_mem hf).1).row
  have lfb := lt_of_block hrow
  have hp := lt_of_block RW.row
  have hpw := lt_of_block R.row
  have HR0 := hid R
  have hmw : mt < w.heap.size := R.lt mt (by simp [DiskC.foot])
  have c0 := cell_row hrow 0
  rw [hs] at c0
  simp at c0
  have x0 := RW.cell 0
  have x1 := RW.cell 1
  have x10 := RW.cell 10
  simp only [dRow] at x0 x1 x10
  have cd := cell_row hW1.1 0
  have cb := cell_row hW1.2 0
  have lz : w.heap.size + 1 < W.heap.size := lt_of_block hW1.2
  simp at cd cb
  have hnb : ((D.B : Int) != (D.B : Int)) = false := by simp
  have h0 := hS.calls.1
  have h1 := hS.calls.2
  simp only [DiskC.pub] at h0 h1
  have HE := hid hW
  have HTW := hid hTW
  have HR := hid RW
  have HF := hid hf
  have HS := hid (small_number hS hcc)
  have HW := hid hW1
  have HBL := hid hbl
  have HSRC := hid hsrc
  clear hf R RW hW1 hTW hW hrow hS hs hbl hsrc
  go_enter Tryz.func202, Tryz.ntmps202
  go_wp2_with fail
  rw [← HE.out]
  refine H.out.mono ?_
  rintro e w1 ⟨rfl, hq⟩
  have d0 := (Quiet.cell hq _).trans c0
  have y0 := (Quiet.cell hq _).trans x0
  have y1 := (Quiet.cell hq _).trans x1
  have y10 := (Quiet.cell hq _).trans x10
  have yd := (Quiet.cell hq _).trans cd
  have yb := (Quiet.cell hq _).trans cb
  have ee := Quiet.heap hq
  have l1 : e0.lay.fb < w1.heap.size := by rw [ee]; exact lfb
  have l2 : p < w1.heap.size := by rw [ee]; exact hp
  have l3 : w.heap.size < w1.heap.size := by rw [ee]; omega
  have l4 : w.heap.size + 1 < w1.heap.size := by rw [ee]; omega
  have hb1 : Hid (w1.heap[w.heap.size]? = some (.cells #[ptr p] 24)) := (congrArg (fun h => h[w.heap.size]?) ee).trans HW.out.1
  have hb2 : Hid (w1.heap[w.heap.size + 1]? = some (.cells #[.slice (some a) D.B c] 158)) := (congrArg (fun h => h[w.heap.size + 1]?) ee).trans HW.out.2
  have HQ := hid hq
  clear hq ee c0 x0 x1 x10 cd cb lfb hp lz
  go_wp2
  go_quiet (fail)
  go_wp2
  go_quiet (fail)
  go_wp2
  go_region_held3 (fun W' => W'.cell? ⟨w.heap.size, 0, none⟩ = some (ptr p)) (go_keep)
    (first
      | (go_at_call 193; refine (number_any (((Quiet.rep HQ.out HR.out).alloc (.cells #[ptr e0.lay.fb] 134)).drewN _) hT h0 h1).mono ?_; rintro e w2 ⟨rfl, hR2, ht2⟩; have r0 := hid (put_row (o := .cells #[ptr e0.lay.fb] 134) hb1.out ht2 hpw hmw); have r1 := hid (put_row (o := .cells #[ptr e0.lay.fb] 134) hb2.out ht2 (by omega) (by omega)); have r2 := hid (put_new (o := .cells #[ptr e0.lay.fb] 134) ht2 l2 (by omega)); have z2 : w2.cell? ⟨w.heap.size, 0, none⟩ = some (ptr p) := cell_row r0.out 0)
      | (go_at_call 192; refine (carry_put_at hR2 hk1 hk2 HF.out HS.out HBL.out hc HSRC.out ha hlo HTW.out HQ.out ht2 hpl hml r2.out r1.out r0.out).mono ?_; rintro e w3 ⟨rfl, ⟨L, hR3, hL⟩, ht3⟩; have z3 : w3.cell? ⟨w.heap.size, 0, none⟩ = some (ptr p) := (put_keeps HR0.out HF.out ht3 (lt_of_block r0.out)).trans z2))
  all_goals
    go_wp2
    go_ret
    have t2 : Touch [p, mt] w w2 := (((((HTW.out.mono (by simp)).trans (Quiet.touch HQ.out []) (by simp))).alloc _).drewN _).trans ht2 (by simp)
    refine ⟨rfl, ⟨L, hR3, fun b hb => ?_⟩, (t2.mono (by simp)).trans ht3 (fun b hb => by rcases List.mem_cons.1 hb with h | h <;> simp [h])⟩
    rcases hL b hb with h | h
    · exact .inl h
    · right; have := t2.size; omega

/-! ### Append -/
set_option maxRecDepth 100000 in
set_option maxHeartbeats 400000 in
theorem answer_full (S : Sents w E) (R : Rep w lo p mf mt D) (h0 : 0 ≤ D.c.full) (h1 : D.c.full ≤ 1099511627776) (S' : ∀ v, Sents (w.setCell ⟨p, 9, none⟩ v) E) :
    Calls Tryz.prog 141 #[ptr p, errV E 9] w fun e w' => e = .returned (.int .i64 17) ∧ Rep w' lo p mf mt { D with c := { D.c with full := D.c.full + 1 } } ∧ Touch [p] w w' := by
  have c1 := S.var1
  have c9 := S.var9
  have k9 := R.cell 9
  have f9 := R.unfrozen 9
  simp only [dRow] at k9
  have H1 := hid (is_at S 9 1 (by omega) (by omega))
  have H9 := hid (is_at S 9 9 (by omega) (by omega))
  have HT := hid (fun v => tell_err (S' v) 9 (by omega))
  have HR := hid R
  clear S' R
  go_enter Tryz.func141, Tryz.ntmps141
  go_wp2_with fail
  refine H1.out.mono ?_
  rintro e w1 ⟨rfl, rfl⟩
  go_wp2_with fail
  refine H9.out.mono ?_
  rintro e w1 ⟨rfl, rfl⟩
  go_wp2_with fail
  refine (HT.out _).mono ?_
  rintro e w1 ⟨rfl, rfl⟩
  go_wp2
  go_ret
  have t : Touch [p] w1 (w1.setCell ⟨p, 9, none⟩ (.int .i64 (D.c.full + 1))) := (Touch.refl [p] w1).setCell (by simp) _
  refine ⟨rfl, HR.out.setRow rfl rfl rfl t ?_, t⟩
  rw [heap_setCell_row HR.out.row 9]
  rfl

def appendA (s : ByteArray) (bl : List UInt8) (A : PubA) : Int × PubA :=
  if nameB s then
    match findA A.files (nm s) with
    | none => (12, A)
    | some f =>
      if f.shut then (14, A) else if bl.length ≠ A.B then (16, A) else if A.Bs ≤ A.c.used then (17, { A with c := { A.c with full := A.c.full + 1 } })
      else (0, { A with files := setA (nm s) { f with blocks := f.blocks ++ [bl] } A.files, c := { A.c with calls := A.c.calls + 1, appends := A.c.appends + 1, used := A.c.used + 1, most := max A.c.most (A.c.used + 1) } })
  else (11, A)



/-- the block that is handed in: bytes outside the disk's memory, or none. -/
structure Hand (w : World) (p mf mt : Nat) (D : DiskC) (sa : Option Addr) (n c : Nat) (bl : List UInt8) : Prop where
  len : bl.length = n
  cap : n ≤ c
  at_ : 0 < n → ∃ a, sa = some a ∧ a.block < w.heap.size ∧ a.block ∉ D.foot p mf mt ∧ ∀ j v, (Lib.byteCells bl)[j]? = some v → w.cell? (a.add j) = some v

end
end Go.Proofs.YtclplbnildnifaaGreatDoor
/-
  What befalls a call: a fault, a cut. carry under them, whatever it is to do.
-/
namespace Go.Proofs.YtclplbnildnifaaGreatDoor
open Go.RowKit Go.Deep

section
variable {w w' : World} {E : Nat → Addr} {lo p mf mt : Nat} {D : DiskC}

abbrev DiskC.off (D : DiskC) : DiskC := { D with on := false }

set_option maxHeartbeats 400000 in
theorem carry_fault (V : Env w lo E) (a b : Int) (fv : Value) :
    Calls Tryz.prog 192 #[ptr p, .agg #[.int .i64 a, .int .i64 1, .int .i64 b], fv] w fun e w' => e = .returned (errV E 1) ∧ Touch [] w w' := by
  have c1 : ∀ o : Obj, (w.alloc o).cell? ⟨0, 0, none⟩ = some (errV E 1) := fun o => (V.alloc o).sents.var1
  go_enter Tryz.func192, Tryz.ntmps192
  go_wp2
  go_ret
  exact ⟨rfl, (Touch.refl [] w).alloc _⟩

theorem Rep.off (R : Rep w lo p mf mt D) : Rep (w.setCell ⟨p, 2, none⟩ (.bool false)) lo p mf mt D.off ∧ Touch [p] w (w.setCell ⟨p, 2, none⟩ (.bool false)) := by
  have ht : Touch [p] w (w.setCell ⟨p, 2, none⟩ (.bool false)) := (Touch.refl [p] w).setCell (by simp) _
  refine ⟨R.setRow rfl rfl rfl ht ?_, ht⟩
  rw [heap_setCell_row R.row 2]
  rfl

set_option maxHeartbeats 400000 in
theorem carry_cut0 (V : Env w lo E) (R : Rep w lo p mf mt D) (a b : Int) (hb : b ≤ 0) (fv : Value) :
    Calls Tryz.prog 192 #[ptr p, .agg #[.int .i64 a, .int .i64 2, .int .i64 b], fv] w fun e w' => e = .returned (errV E 2) ∧ Rep w' lo p mf mt D.off ∧ Touch [p] w w' := by
  have hlop : lo ≤ p := R.base p (by simp [DiskC.foot])
  have VO := V.touch R.off.2 (by simp; exact hlop)
  have c2 : ∀ o : Obj, ((w.setCell ⟨p, 2, none⟩ (.bool false)).alloc o).cell? ⟨1, 0, none⟩ = some (errV E 2) := fun o => (VO.alloc o).sents.var2
  have k2 := R.cell 2
  simp only [dRow] at k2
  have f2 := R.unfrozen 2
  have HR := hid R.off
  have hp := lt_of_block R.row
  clear V VO
  go_enter Tryz.func192, Tryz.ntmps192
  go_wp2
  go_ret
  exact ⟨rfl, HR.out.1.alloc _, HR.out.2.alloc _⟩
end

end Go.Proofs.YtclplbnildnifaaGreatDoor
/-
  Create under what befalls it.
-/
namespace Go.Proofs.YtclplbnildnifaaGreatDoor
open Go.RowKit Go.Deep

section
variable {w w' : World} {E : Nat → Addr} {lo p mf mt : Nat} {D : DiskC}

set_option maxRecDepth 100000 in
set_option maxHeartbeats 400000 in
theorem carry_create_cut (V : Env w lo E) (R : Rep w lo p mf mt D) {s : ByteArray} {a b : Int} (bd bn : Nat) (hb : 0 < b) (hs : s.size ≤ 32) (hfind : findE D.ents (nm s) = none) (hsmall : D.ents.length ≤ 1099511627776)
    (hbd : w.heap[bd]? = some (.cells #[ptr p] 24 (0, 0))) (hbn : w.heap[bn]? = some (.cells #[.string s] 9 (0, 0))) :
    Calls Tryz.prog 192 #[ptr p, .agg #[.int .i64 a, .int .i64 2, .int .i64 b], .func (.func 194) #[] #[ptr bd, ptr bn]] w fun e w' => e = .returned (errV E 2) ∧ (∃ fb, w.heap.size ≤ fb ∧ Rep w' lo p mf mt { D.off with ents := insE ⟨nm s, ⟨false, []⟩, ⟨fb, .slice none 0 0, []⟩⟩ D.ents }) ∧ Touch [p, mf] w w' := by
  have hlop : lo ≤ p := R.base p (by simp [DiskC.foot])
  have hlom : lo ≤ mf := R.base mf (by simp [DiskC.foot])
  have VO := V.touch R.off.2 (by simp; exact hlop)
  have RO := R.off.1
  have TO := R.off.2
  have hp := lt_of_block R.row
  have lbd := lt_of_block hbd
  have lbn := lt_of_block hbn
  have nbd : bd ≠ p := fun e => by subst e; rw [R.row] at hbd; simp [dRow] at hbd
  have nbn : bn ≠ p := fun e => by subst e; rw [R.row] at hbn; simp [dRow] at hbn
  have obd : (w.setCell ⟨p, 2, none⟩ (.bool false)).heap[bd]? = some (.cells #[ptr p] 24 (0, 0)) := (TO.block bd lbd (by simp [nbd])).trans hbd
  have obn : (w.setCell ⟨p, 2, none⟩ (.bool false)).heap[bn]? = some (.cells #[.string s] 9 (0, 0)) := (TO.block bn lbn (by simp [nbn])).trans hbn
  have hz : (w.setCell ⟨p, 2, none⟩ (.bool false)).heap.size = w.heap.size := by simp [World.setCell]
  have H := hid (fun o : Obj => create1_any (RO.alloc o) b bd bn hs hfind (Nat.le_trans V.room (by simp [hz])) hsmall ((Below.heap_alloc _ o bd (by omega)).trans obd) ((Below.heap_alloc _ o bn (by omega)).trans obn))
  have HV := hid VO
  have HT := hid TO
  have HZ := hid hz
  have k2 := R.cell 2
  simp only [dRow] at k2
  have f2 := R.unfrozen 2
  clear hbd hbn hfind V VO RO TO obd obn hz nbd nbn
  go_enter Tryz.func192, Tryz.ntmps192
  go_wp2_with (go_at_call 194; refine (H.out _).mono ?_; rintro e w1 ⟨rfl, ⟨fb, hfb, hR⟩, ht⟩; have c2 : w1.cell? ⟨1, 0, none⟩ = some (errV E 2) := (((HV.out.alloc _).touch ht (by simp; exact hlom)).sents.var2))
  go_ret
  have h1 : Touch [p, mf] w w1 := (((HT.out.mono (by simp)).alloc _)).trans ht (by simp)
  exact ⟨rfl, ⟨fb, Nat.le_trans (by simp [HZ.out]) hfb, hR⟩, h1⟩

set_option maxRecDepth 100000 in
set_option maxHeartbeats 400000 in
/-- create, up to what carry does. -/
theorem create_gen (V : Env w lo E) (R : Rep w lo p mf mt D) (s : ByteArray) (ho : D.on = true) (hn : nameB s = true) (hf : findE D.ents (nm s) = none) {a k b : Int} (hT : TroubleIs D.T D.c.calls a k b)
    (h0 : 0 ≤ D.c.calls) (h1 : D.c.calls ≤ 1099511627776) {v : Value} {Post : World → World → Prop}
    (HC : ∀ (w2 : World) (bd bn : Nat), Env w2 lo E → Rep w2 lo p mf mt D.numbered → w.heap.size ≤ w2.heap.size → w2.heap[bd]? = some (.cells #[ptr p] 24 (0, 0)) → w2.heap[bn]? = some (.cells #[.string s] 9 (0, 0)) →
      Calls Tryz.prog 192 #[ptr p, .agg #[.int .i64 a, .int .i64 k, .int .i64 b], .func (.func 194) #[] #[ptr bd, ptr bn]] w2 fun e w3 => e = .returned v ∧ Post w2 w3 ∧ Touch [p, mf] w2 w3) :
    Calls Tryz.prog 142 #[ptr p, .string s] w fun e w' => e = .returned v ∧ (∃ w2, w.heap.size ≤ w2.heap.size ∧ Rep w2 lo p mf mt D.numbered ∧ Post w2 w') ∧ Touch [p, mf, mt] w w' := by
  obtain ⟨W, hW⟩ : ∃ W, W = (w.alloc (.cells #[ptr p] 24)).alloc (.cells #[.string s] 9) := ⟨_, rfl⟩
  have hW1 : W.heap[w.heap.size]? = some (.cells #[ptr p] 24) ∧ W.heap[w.heap.size + 1]? = some (.cells #[.string s] 9) := by rw [hW]; exact heap_two w _ _
  have hTW : Touch [] w W := by rw [hW]; exact ((Touch.refl [] w).alloc _).alloc _
  have VW : Env W lo E := V.touch hTW (by simp)
  have RW : Rep W lo p mf mt D := R.touch hTW (by simp)
  have H := hid (find_none VW.sents RW s ho hn hf)
  have H2 := hid (fun n : Nat => is_at (VW.drewN n).sents 4 4 (by omega) (by omega))
  have c4 : ∀ n : Nat, (W.drewN n).cell? ⟨3, 0, none⟩ = some (errV E 4) := fun n => (VW.drewN n).sents.var4
  have cd : ∀ n : Nat, (W.drewN n).cell? ⟨w.heap.size, 0, none⟩ = some (ptr p) := fun n => cell_row (w := W.drewN n) hW1.1 0
  have cn : ∀ n : Nat, (W.drewN n).cell? ⟨w.heap.size + 1, 0, none⟩ = some (.string s) := fun n => cell_row (w := W.drewN n) hW1.2 0
  have HV := hid VW
  have HR := hid RW
  have HW := hid hW1
  have HTW := hid hTW
  have HE := hid hW
  have HCC := hid HC
  have hp := lt_of_block R.row
  have hmf := R.files.lt
  have hmt : mt < w.heap.size := R.lt mt (by simp [DiskC.foot])
  have hlop : Hid (lo ≤ p ∧ lo ≤ mt) := hid ⟨R.base p (by simp [DiskC.foot]), R.base mt (by simp [DiskC.foot])⟩
  clear hf V R VW RW hW1 hTW hW HC
  go_enter Tryz.func142, Tryz.ntmps142
  go_wp2_with fail
  rw [← HE.out]
  refine H.out.mono ?_
  rintro e w1 ⟨rfl, n, rfl⟩
  go_wp2_with (go_at_call 84; refine (H2.out _).mono ?_; rintro e w1 ⟨rfl, rfl⟩)
  go_region_held3 (fun W' => W'.cell? ⟨w.heap.size, 0, none⟩ = some (ptr p)) (go_keep)
    (first
      | (go_at_call 193; refine (number_any (HR.out.drewN _) hT h0 h1).mono ?_; rintro e w2 ⟨rfl, hR2, ht2⟩; have hb2 := HW.out; have z2 : w2.cell? ⟨w.heap.size, 0, none⟩ = some (ptr p) := number_box hb2.1 ht2 hp hmt; have q2 := hid (number_row hb2.1 ht2 hp hmt); have q3 := hid (number_row hb2.2 ht2 (by omega) (by omega)); clear hb2)
      | (go_at_call 192; refine (HCC.out w2 _ _ ((HV.out.drewN _).touch ht2 (by simp; exact hlop.out)) hR2 (Nat.le_trans HTW.out.size ht2.size) q2.out q3.out).mono ?_; rintro e w3 ⟨rfl, hpost, ht3⟩; have z3 : w3.cell? ⟨w.heap.size, 0, none⟩ = some (ptr p) := (ht3.cell (p := ⟨w.heap.size, 0, none⟩) (lt_of_block q2.out) (by simp; omega)).trans z2))
  all_goals
    go_wp2
    go_ret
    have t3 : Touch [p, mf, mt] w w3 := (((HTW.out.mono (by simp)).drewN _).trans ht2 (by simp)).trans ht3 (by simp)
    exact ⟨rfl, ⟨w2, Nat.le_trans HTW.out.size ht2.size, hR2, hpost⟩, t3⟩
end

end Go.Proofs.YtclplbnildnifaaGreatDoor
/-
  What is told of a fault; Create whole, under what befalls it.
-/
namespace Go.Proofs.YtclplbnildnifaaGreatDoor
open Go.RowKit Go.Deep

abbrev DiskC.faulted (D : DiskC) : DiskC := { D with c := { D.c with faults := D.c.faults + 1 } }
abbrev PubA.faulted (A : PubA) : PubA := { A with c := { A.c with calls := A.c.calls + 1, faults := A.c.faults + 1 } }
abbrev PubA.shut (A : PubA) : PubA := { A with on := false, c := { A.c with calls := A.c.calls + 1 } }



section
variable {w w' : World} {E : Nat → Addr} {lo p mf mt : Nat} {D : DiskC}


theorem Rep.fault (R : Rep w lo p mf mt D) : Rep (w.setCell ⟨p, 8, none⟩ (.int .i64 (D.c.faults + 1))) lo p mf mt D.faulted ∧ Touch [p] w (w.setCell ⟨p, 8, none⟩ (.int .i64 (D.c.faults + 1))) := by
  have ht : Touch [p] w (w.setCell ⟨p, 8, none⟩ (.int .i64 (D.c.faults + 1))) := (Touch.refl [p] w).setCell (by simp) _
  refine ⟨R.setRow rfl rfl rfl ht ?_, ht⟩
  rw [heap_setCell_row R.row 8]
  rfl

set_option maxHeartbeats 400000 in
theorem answer_fault (V : Env w lo E) (R : Rep w lo p mf mt D) (h0 : 0 ≤ D.c.faults) (h1 : D.c.faults ≤ 1099511627776) :
    Calls Tryz.prog 141 #[ptr p, errV E 1] w fun e w' => e = .returned (.int .i64 9) ∧ Rep w' lo p mf mt D.faulted ∧ Touch [p] w w' := by
  have hlop : lo ≤ p := R.base p (by simp [DiskC.foot])
  have VF := V.touch R.fault.2 (by simp; exact hlop)
  have c1 := V.sents.var1
  have k8 := R.cell 8
  simp only [dRow] at k8
  have f8 := R.unfrozen 8
  have H1 := hid (is_at V.sents 1 1 (by omega) (by omega))
  have HT := hid (tell_err VF.sents 1 (by omega))
  have HR := hid R.fault
  clear V VF R
  go_enter Tryz.func141, Tryz.ntmps141
  go_wp2_with fail
  refine H1.out.mono ?_
  rintro e w1 ⟨rfl, rfl⟩
  go_wp2_with fail
  refine HT.out.mono ?_
  rintro e w1 ⟨rfl, rfl⟩
  go_wp2
  go_ret
  exact ⟨rfl, HR.out.1, HR.out.2⟩

set_option maxHeartbeats 400000 in
theorem Create_of2 {ev : Value} {s : ByteArray} {Post Post2 : World → Prop} (h : Calls Tryz.prog 142 #[ptr p, .string s] w fun e w' => e = .returned ev ∧ Post w') {v : Int}
    (ha : ∀ w1, Post w1 → Calls Tryz.prog 141 #[ptr p, ev] w1 fun e w' => e = .returned (.int .i64 v) ∧ Post2 w') :
    Calls Tryz.prog 78 #[ptr p, .string s] w fun e w' => e = .returned (.int .i64 v) ∧ Post2 w' := by
  have H := hid h
  have HA := hid ha
  clear h ha
  go_enter Tryz.func78, Tryz.ntmps78
  go_wp2_with (first | (go_at_call 142; refine H.out.mono ?_; rintro e w1 ⟨rfl, hp⟩) | (go_at_call 141; refine (HA.out _ hp).mono ?_; rintro e w2 ⟨rfl, hq⟩))
  go_ret
  exact ⟨rfl, hq⟩
end

end Go.Proofs.YtclplbnildnifaaGreatDoor
namespace Go.Proofs.YtclplbnildnifaaGreatDoor
open Go.RowKit Go.Deep

section
variable {w w' : World} {E : Nat → Addr} {lo p mf mt : Nat} {D : DiskC}

theorem foot3 (R : Rep w lo p mf mt D) : ∀ b ∈ [p, mf, mt], b ∈ D.foot p mf mt ∧ lo ≤ b := fun b hb => by
  have h : b ∈ D.foot p mf mt := by simp at hb; rcases hb with rfl | rfl | rfl <;> simp [DiskC.foot]
  exact ⟨h, R.base b h⟩

end

end Go.Proofs.YtclplbnildnifaaGreatDoor
/-
  Seal under what befalls it.
-/
namespace Go.Proofs.YtclplbnildnifaaGreatDoor
open Go.RowKit Go.Deep

section
variable {w w' : World} {E : Nat → Addr} {lo p mf mt : Nat} {D : DiskC}

set_option maxRecDepth 100000 in
set_option maxHeartbeats 400000 in
theorem carry_seal_cut (V : Env w lo E) (R : Rep w lo p mf mt D) {a b : Int} (bf fb : Nat) (hb : 0 < b) {v : Value} {sv : Value} (hlf : lo ≤ fb) (hnp : fb ≠ p) (hbf : w.heap[bf]? = some (.cells #[ptr fb] 134 (0, 0))) (hfb : w.heap[fb]? = some (.cells #[v, sv] 161 (0, 0))) :
    Calls Tryz.prog 192 #[ptr p, .agg #[.int .i64 a, .int .i64 2, .int .i64 b], .func (.func 204) #[] #[ptr bf]] w fun e w' => e = .returned (errV E 2) ∧
      ∃ w1, Rep w1 lo p mf mt D.off ∧ Touch [p] w w1 ∧ Touch [fb] w1 w' ∧ w'.heap[fb]? = some (.cells #[.int .i64 1, sv] 161 (0, 0)) := by
  have hlop : lo ≤ p := R.base p (by simp [DiskC.foot])
  have VO := V.touch R.off.2 (by simp; exact hlop)
  have RO := R.off.1
  have TO := R.off.2
  have hp := lt_of_block R.row
  have nbf : bf ≠ p := fun e => by subst e; rw [R.row] at hbf; simp [dRow] at hbf
  have obf : (w.setCell ⟨p, 2, none⟩ (.bool false)).heap[bf]? = some (.cells #[ptr fb] 134 (0, 0)) := (TO.block bf (lt_of_block hbf) (by simp [nbf])).trans hbf
  have ofb : (w.setCell ⟨p, 2, none⟩ (.bool false)).heap[fb]? = some (.cells #[v, sv] 161 (0, 0)) := (TO.block fb (lt_of_block hfb) (by simp [hnp])).trans hfb
  have H := hid (fun o : Obj => seal1_any (w := (w.setCell ⟨p, 2, none⟩ (.bool false)).alloc o) b bf fb ((Below.heap_alloc _ o bf (lt_of_block obf)).trans obf) ((Below.heap_alloc _ o fb (lt_of_block ofb)).trans ofb))
  have HV := hid VO
  have HT := hid TO
  have HR := hid RO
  have HO := hid ofb
  have c2 : ∀ (o : Obj), (((w.setCell ⟨p, 2, none⟩ (.bool false)).alloc o).setCell ⟨fb, 0, none⟩ (.int .i64 1)).cell? ⟨1, 0, none⟩ = some (errV E 2) := fun o =>
    ((VO.alloc o).touch (F := [fb]) ((Touch.refl [fb] _).setCell (by simp) _) (by simp; exact hlf)).sents.var2
  have k2 := R.cell 2
  simp only [dRow] at k2
  have f2 := R.unfrozen 2
  clear hbf hfb V VO RO TO obf ofb nbf
  go_enter Tryz.func192, Tryz.ntmps192
  go_wp2_with (go_at_call 204; refine (H.out _).mono ?_; rintro e w1 ⟨rfl, hw1⟩; have d2 : w1.cell? ⟨1, 0, none⟩ = some (errV E 2) := by (rw [hw1]; exact c2 _))
  go_ret
  refine ⟨rfl, (w.setCell ⟨p, 2, none⟩ (.bool false)).alloc (.cells #[.int .i64 a, .int .i64 2, .int .i64 b] 228), HR.out.alloc _, HT.out.alloc _, (Touch.refl [fb] _).setCell (by simp) _, ?_⟩
  rw [heap_setCell_row ((Below.heap_alloc _ _ fb (lt_of_block HO.out)).trans HO.out) 0]
  rfl

set_option maxRecDepth 100000 in
set_option maxHeartbeats 400000 in
theorem seal_gen (V : Env w lo E) (R : Rep w lo p mf mt D) (s : ByteArray) (ho : D.on = true) (hn : nameB s = true) {e0 : Ent} (hf : findE D.ents (nm s) = some e0) (hs : e0.file.shut = false) {a k b : Int} (hT : TroubleIs D.T D.c.calls a k b)
    (h0 : 0 ≤ D.c.calls) (h1 : D.c.calls ≤ 1099511627776) {v : Value} {Post : World → World → Prop}
    (HC : ∀ (w2 : World) (bf : Nat), Env w2 lo E → Rep w2 lo p mf mt D.numbered → w.heap.size ≤ w2.heap.size → w2.heap[bf]? = some (.cells #[ptr e0.lay.fb] 134 (0, 0)) →
      Calls Tryz.prog 192 #[ptr p, .agg #[.int .i64 a, .int .i64 k, .int .i64 b], .func (.func 204) #[] #[ptr bf]] w2 fun e w3 => e = .returned v ∧ Post w2 w3 ∧ Touch [p, e0.lay.fb] w2 w3) :
    Calls Tryz.prog 146 #[ptr p, .string s] w fun e w' => e = .returned v ∧ (∃ w2, w.heap.size ≤ w2.heap.size ∧ Rep w2 lo p mf mt D.numbered ∧ Post w2 w') ∧ Touch [p, mt, e0.lay.fb] w w' := by
  have H := hid (find_some R s ho hn hf)
  have hat := R.each e0 (findE_mem hf).1
  have hrow := hat.row
  have lfb := lt_of_block hrow
  have c0 := cell_row hrow 0
  simp [hs] at c0
  have hne := R.ent_ne (findE_mem hf).1 (b := e0.lay.fb) (by simp [Lay.foot])
  have hp := lt_of_block R.row
  have hmt : mt < w.heap.size := R.lt mt (by simp [DiskC.foot])
  have hlop : Hid (lo ≤ p ∧ lo ≤ mt) := hid ⟨R.base p (by simp [DiskC.foot]), R.base mt (by simp [DiskC.foot])⟩
  have HR := hid R
  have HV := hid V
  have HCC := hid HC
  have HSZ : Hid (∀ (w1 : World), w1.heap = w.heap → w.heap.size ≤ w1.heap.size) := hid fun w1 h => by rw [h]; exact Nat.le_refl _
  clear hf hs hrow hat R V HC
  go_enter Tryz.func146, Tryz.ntmps146
  go_wp2_with (first
    | (go_at_call 150; refine H.out.mono ?_; rintro e w1 ⟨rfl, hq⟩; have d0 := (Quiet.cell hq _).trans c0; rw [← Quiet.heap hq] at lfb hp hmt; have HQ := hid hq; clear hq c0)
    | (go_at_call 193; refine (number_any ((Quiet.rep HQ.out HR.out).alloc (.cells #[ptr e0.lay.fb] 134)) hT h0 h1).mono ?_; rintro e w2 ⟨rfl, hR2, ht2⟩; have q2 := hid (kept_row (heap_alloc_new w1 (.cells #[ptr e0.lay.fb] 134)) ht2 (by simp; omega)))
    | (go_at_call 192; refine (HCC.out w2 _ ((Quiet.env HQ.out HV.out |>.alloc _).touch ht2 (by simp; exact hlop.out)) hR2 (Nat.le_trans (HSZ.out _ (Quiet.heap HQ.out)) (Nat.le_trans (by simp) ht2.size)) q2.out).mono ?_; rintro e w3 ⟨rfl, hpost, ht3⟩))
  go_ret
  have t2 : Touch [p, mt] w w2 := ((Quiet.touch HQ.out [p, mt]).alloc _).trans ht2 (by simp)
  exact ⟨rfl, ⟨w2, t2.size, hR2, hpost⟩, (t2.mono (by simp)).trans ht3 (by simp)⟩

set_option maxHeartbeats 400000 in
theorem Seal_of2 {ev : Value} {s : ByteArray} {Post Post2 : World → Prop} (h : Calls Tryz.prog 146 #[ptr p, .string s] w fun e w' => e = .returned ev ∧ Post w') {v : Int}
    (ha : ∀ w1, Post w1 → Calls Tryz.prog 141 #[ptr p, ev] w1 fun e w' => e = .returned (.int .i64 v) ∧ Post2 w') :
    Calls Tryz.prog 83 #[ptr p, .string s] w fun e w' => e = .returned (.int .i64 v) ∧ Post2 w' := by
  have H := hid h
  have HA := hid ha
  clear h ha
  go_enter Tryz.func83, Tryz.ntmps83
  go_wp2_with (first | (go_at_call 146; refine H.out.mono ?_; rintro e w1 ⟨rfl, hp⟩) | (go_at_call 141; refine (HA.out _ hp).mono ?_; rintro e w2 ⟨rfl, hq⟩))
  go_ret
  exact ⟨rfl, hq⟩

end

end Go.Proofs.YtclplbnildnifaaGreatDoor
/-
  Append under what befalls it.
-/
namespace Go.Proofs.YtclplbnildnifaaGreatDoor
open Go.RowKit Go.Deep

section
variable {w w' : World} {E : Nat → Addr} {lo p mf mt : Nat} {D : DiskC}

set_option maxRecDepth 100000 in
set_option maxHeartbeats 400000 in
theorem carry_put_cut (V : Env w lo E) (R : Rep w lo p mf mt D) {s : ByteArray} {x y : Int} (bf bb bd : Nat) (hy : 0 < y) {e0 : Ent} (hf : findE D.ents (nm s) = some e0) (hS : Small D.pub) {bl : List UInt8} (a : Addr) (c : Nat) (hbl : bl.length = D.B) (hc : bl.length ≤ c)
    (hsrc : ∀ j v, (Lib.byteCells bl)[j]? = some v → w.cell? (a.add j) = some v) (ha : a.block < w.heap.size) (hap : a.block ≠ p)
    (hbf : w.heap[bf]? = some (.cells #[ptr e0.lay.fb] 134 (0, 0))) (hbb : w.heap[bb]? = some (.cells #[.slice (some a) bl.length c] 158 (0, 0))) (hbd : w.heap[bd]? = some (.cells #[ptr p] 24 (0, 0))) :
    Calls Tryz.prog 192 #[ptr p, .agg #[.int .i64 x, .int .i64 2, .int .i64 y], .func (.func 233) #[] #[ptr bf, ptr bb, ptr bd]] w fun e w' => e = .returned (errV E 2) ∧
      (∃ L, Rep w' lo p mf mt { D.off with ents := setE (nm s) { e0.file with blocks := e0.file.blocks ++ [cutB y.toNat bl] } L D.ents, c := { D.c with used := D.c.used + 1, most := max D.c.most (D.c.used + 1) } } ∧ ∀ b ∈ L.foot, b ∈ e0.lay.foot ∨ w.heap.size ≤ b) ∧ Touch (p :: e0.lay.foot) w w' := by
  have hlop : lo ≤ p := R.base p (by simp [DiskC.foot])
  have VO := V.touch R.off.2 (by simp; exact hlop)
  have RO := R.off.1
  have TO := R.off.2
  have hp := lt_of_block R.row
  have nbd : bd ≠ p := fun e => by subst e; rw [R.row] at hbd; simp [dRow] at hbd
  have nbb : bb ≠ p := fun e => by subst e; rw [R.row] at hbb; simp [dRow] at hbb
  have nbf : bf ≠ p := fun e => by subst e; rw [R.row] at hbf; simp [dRow] at hbf
  have obd : (w.setCell ⟨p, 2, none⟩ (.bool false)).heap[bd]? = some (.cells #[ptr p] 24 (0, 0)) := (TO.block bd (lt_of_block hbd) (by simp [nbd])).trans hbd
  have obb : (w.setCell ⟨p, 2, none⟩ (.bool false)).heap[bb]? = some (.cells #[.slice (some a) bl.length c] 158 (0, 0)) := (TO.block bb (lt_of_block hbb) (by simp [nbb])).trans hbb
  have obf : (w.setCell ⟨p, 2, none⟩ (.bool false)).heap[bf]? = some (.cells #[ptr e0.lay.fb] 134 (0, 0)) := (TO.block bf (lt_of_block hbf) (by simp [nbf])).trans hbf
  have hSO : Small D.off.pub := ⟨hS.calls, hS.reads, hS.appends, hS.full, hS.used, hS.files, hS.blocks, hS.size⟩
  have hz : (w.setCell ⟨p, 2, none⟩ (.bool false)).heap.size = w.heap.size := by simp [World.setCell]
  have hadd : ∀ j, (a.add j).block = a.block := fun j => by unfold Addr.add; split <;> rfl
  have hsrc' : ∀ (o : Obj) j v, (Lib.byteCells bl)[j]? = some v → ((w.setCell ⟨p, 2, none⟩ (.bool false)).alloc o).cell? (a.add j) = some v := fun o j v h => by
    rw [World.cell?_of_block (w := w.setCell ⟨p, 2, none⟩ (.bool false)) (Below.heap_alloc _ o _ (by rw [hadd, hz]; exact ha)), TO.cell (p := a.add j) (by rw [hadd]; exact ha) (by rw [hadd]; simp [hap])]
    exact hsrc j v h
  have H := hid (fun o : Obj => put1_any (RO.alloc o) y (by omega) bf bb bd hf hSO a c hbl hc (hsrc' o) (by simp [hz]; omega) (Nat.le_trans V.room (by simp [hz])) ((Below.heap_alloc _ o bf (lt_of_block obf)).trans obf) ((Below.heap_alloc _ o bb (lt_of_block obb)).trans obb) ((Below.heap_alloc _ o bd (lt_of_block obd)).trans obd))
  have HV := hid VO
  have HT := hid TO
  have HZ := hid hz
  have hF : Hid (∀ b ∈ p :: e0.lay.foot, lo ≤ b) := hid (fun b hb => by
    rcases List.mem_cons.1 hb with rfl | hb
    · exact hlop
    · exact R.base b (foot_ent hf b hb))
  have k2 := R.cell 2
  simp only [dRow] at k2
  have f2 := R.unfrozen 2
  clear hbd hbb hbf V VO RO TO obd obb obf nbd nbb nbf hf hS hSO hsrc hsrc' hadd hz ha hbl
  go_enter Tryz.func192, Tryz.ntmps192
  go_wp2_with (go_at_call 233; refine (H.out _).mono ?_; rintro e w1 ⟨rfl, ⟨L, hR, hL⟩, ht⟩; have c2 : w1.cell? ⟨1, 0, none⟩ = some (errV E 2) := (((HV.out.alloc _).touch ht hF.out).sents.var2))
  go_ret
  have h1 : Touch (p :: e0.lay.foot) w w1 := (((HT.out.mono (by simp)).alloc _)).trans ht (fun b hb => .inl hb)
  refine ⟨rfl, ⟨L, hR, fun b hb => ?_⟩, h1⟩
  rcases hL b hb with h | h
  · exact .inl h
  · right; have := HZ.out; simp at h; omega

set_option maxRecDepth 100000 in
set_option maxHeartbeats 400000 in
theorem put_gen (V : Env w lo E) (R : Rep w lo p mf mt D) (s : ByteArray) (ho : D.on = true) (hn : nameB s = true) {e0 : Ent} (hf : findE D.ents (nm s) = some e0) (hs : e0.file.shut = false) {a : Addr} {c : Nat} (hu : D.c.used < D.Bs) {x k y : Int} (hT : TroubleIs D.T D.c.calls x k y) (h0 : 0 ≤ D.c.calls) (h1 : D.c.calls ≤ 1099511627776) {v : Value} {Post : World → World → Prop}
    (HC : ∀ (w2 : World) (bf bb bd : Nat), Env w2 lo E → Rep w2 lo p mf mt D.numbered → Touch [p, mt] w w2 → w2.heap[bf]? = some (.cells #[ptr e0.lay.fb] 134 (0, 0)) → w2.heap[bb]? = some (.cells #[.slice (some a) D.B c] 158 (0, 0)) → w2.heap[bd]? = some (.cells #[ptr p] 24 (0, 0)) →
      Calls Tryz.prog 192 #[ptr p, .agg #[.int .i64 x, .int .i64 k, .int .i64 y], .func (.func 233) #[] #[ptr bf, ptr bb, ptr bd]] w2 fun e w3 => e = .returned v ∧ Post w2 w3 ∧ Touch (p :: e0.lay.foot) w2 w3) :
    Calls Tryz.prog 202 #[ptr p, .string s, .slice (some a) D.B c] w fun e w' => e = .returned v ∧ (∃ w2, Touch [p, mt] w w2 ∧ Rep w2 lo p mf mt D.numbered ∧ Post w2 w') ∧ Touch (p :: mt :: e0.lay.foot) w w' := by
  obtain ⟨W, hW⟩ : ∃ W, W = (w.alloc (.cells #[ptr p] 24)).alloc (.cells #[.slice (some a) D.B c] 158) := ⟨_, rfl⟩
  have hW1 : W.heap[w.heap.size]? = some (.cells #[ptr p] 24) ∧ W.heap[w.heap.size + 1]? = some (.cells #[.slice (some a) D.B c] 158) := by rw [hW]; exact heap_two w _ _
  have hTW : Touch [] w W := by rw [hW]; exact ((Touch.refl [] w).alloc _).alloc _
  have RW : Rep W lo p mf mt D := R.touch hTW (by simp)
  have H := hid (find_some RW s ho hn hf)
  have hrow := (RW.each e0 (findE_mem hf).1).row
  have lfb := lt_of_block hrow
  have hp := lt_of_block RW.row
  have hpw := lt_of_block R.row
  have HR0 := hid R
  have hmw : mt < w.heap.size := R.lt mt (by simp [DiskC.foot])
  have c0 := cell_row hrow 0
  rw [hs] at c0
  simp at c0
  have x0 := RW.cell 0
  have x1 := RW.cell 1
  have x10 := RW.cell 10
  simp only [dRow] at x0 x1 x10
  have cd := cell_row hW1.1 0
  have cb := cell_row hW1.2 0
  have lz : w.heap.size + 1 < W.heap.size := lt_of_block hW1.2
  simp at cd cb
  have hnb : ((D.B : Int) != (D.B : Int)) = false := by simp
  have HE := hid hW
  have HTW := hid hTW
  have HR := hid RW
  have HF := hid hf
  have HV := hid (V.touch hTW (by simp))
  have HCC := hid HC
  have hlop : Hid (lo ≤ p ∧ lo ≤ mt) := hid ⟨R.base p (by simp [DiskC.foot]), R.base mt (by simp [DiskC.foot])⟩
  have HW := hid hW1
  clear hf R RW hW1 hTW hW hrow hs HC V
  go_enter Tryz.func202, Tryz.ntmps202
  go_wp2_with fail
  rw [← HE.out]
  refine H.out.mono ?_
  rintro e w1 ⟨rfl, hq⟩
  have d0 := (Quiet.cell hq _).trans c0
  have y0 := (Quiet.cell hq _).trans x0
  have y1 := (Quiet.cell hq _).trans x1
  have y10 := (Quiet.cell hq _).trans x10
  have yd := (Quiet.cell hq _).trans cd
  have yb := (Quiet.cell hq _).trans cb
  have ee := Quiet.heap hq
  have l1 : e0.lay.fb < w1.heap.size := by rw [ee]; exact lfb
  have l2 : p < w1.heap.size := by rw [ee]; exact hp
  have l3 : w.heap.size < w1.heap.size := by rw [ee]; omega
  have l4 : w.heap.size + 1 < w1.heap.size := by rw [ee]; omega
  have hb1 : Hid (w1.heap[w.heap.size]? = some (.cells #[ptr p] 24)) := (congrArg (fun h => h[w.heap.size]?) ee).trans HW.out.1
  have hb2 : Hid (w1.heap[w.heap.size + 1]? = some (.cells #[.slice (some a) D.B c] 158)) := (congrArg (fun h => h[w.heap.size + 1]?) ee).trans HW.out.2
  have HQ := hid hq
  clear hq ee c0 x0 x1 x10 cd cb lfb hp lz
  go_wp2
  go_quiet (fail)
  go_wp2
  go_quiet (fail)
  go_wp2
  go_region_held3 (fun W' => W'.cell? ⟨w.heap.size, 0, none⟩ = some (ptr p)) (go_keep)
    (first
      | (go_at_call 193; refine (number_any (((Quiet.rep HQ.out HR.out).alloc (.cells #[ptr e0.lay.fb] 134)).drewN _) hT h0 h1).mono ?_; rintro e w2 ⟨rfl, hR2, ht2⟩; have r0 := hid (put_row (o := .cells #[ptr e0.lay.fb] 134) hb1.out ht2 hpw hmw); have r1 := hid (put_row (o := .cells #[ptr e0.lay.fb] 134) hb2.out ht2 (by omega) (by omega)); have r2 := hid (put_new (o := .cells #[ptr e0.lay.fb] 134) ht2 l2 (by omega)); have z2 : w2.cell? ⟨w.heap.size, 0, none⟩ = some (ptr p) := cell_row r0.out 0)
      | (go_at_call 192; refine (HCC.out w2 _ _ _ ((((Quiet.env HQ.out HV.out).alloc _).drewN _).touch ht2 (by simp; exact hlop.out)) hR2 ((((((HTW.out.mono (by simp)).trans (Quiet.touch HQ.out []) (by simp))).alloc _).drewN _).trans ht2 (by simp)) r2.out r1.out r0.out).mono ?_; rintro e w3 ⟨rfl, hpost, ht3⟩; have z3 : w3.cell? ⟨w.heap.size, 0, none⟩ = some (ptr p) := (put_keeps HR0.out HF.out ht3 (lt_of_block r0.out)).trans z2))
  all_goals
    go_wp2
    go_ret
    have t2 : Touch [p, mt] w w2 := (((((HTW.out.mono (by simp)).trans (Quiet.touch HQ.out []) (by simp))).alloc _).drewN _).trans ht2 (by simp)
    exact ⟨rfl, ⟨w2, t2, hR2, hpost⟩, (t2.mono (by simp)).trans ht3 (fun b hb => by rcases List.mem_cons.1 hb with h | h <;> simp [h])⟩

set_option maxRecDepth 100000 in
set_option maxHeartbeats 400000 in
theorem Append_ok2 (V : Env w lo E) (R : Rep w lo p mf mt D) (s : ByteArray) (ho : D.on = true) (hn : nameB s = true) {e0 : Ent} (hf : findE D.ents (nm s) = some e0) (hs : e0.file.shut = false) {bl : List UInt8} {a : Addr} {c : Nat} (hbl : bl.length = D.B) (hc : bl.length ≤ c)
    (hsrc : ∀ j v, (Lib.byteCells bl)[j]? = some v → w.cell? (a.add j) = some v) (ha : a.block < w.heap.size) (hpl : a.block ≠ p) (hml : a.block ≠ mt) (hu : D.c.used < D.Bs) {x k y : Int} (hT : TroubleIs D.T D.c.calls x k y) (hk1 : (k == 1) = false) (hk2 : (k == 2) = false) (hS : Small D.pub) (hcc : D.c.calls + 1 ≤ 1099511627776) :
    Calls Tryz.prog 144 #[ptr p, .string s, .slice (some a) D.B c] w fun e w' => e = .returned (.int .i64 0) ∧
      (∃ L, Rep w' lo p mf mt { D.numbered with ents := setE (nm s) { e0.file with blocks := e0.file.blocks ++ [bl] } L D.ents, c := { D.numbered.c with appends := D.c.appends + 1, used := D.c.used + 1, most := max D.c.most (D.c.used + 1) } } ∧ ∀ b ∈ L.foot, b ∈ e0.lay.foot ∨ w.heap.size ≤ b) ∧ Touch (p :: mt :: e0.lay.foot) w w' := by
  have H := hid (put_ok R s ho hn hf hs hbl hc hsrc ha hpl hml V.room hu hT hk1 hk2 hS hcc)
  have hF : ∀ b ∈ p :: mt :: e0.lay.foot, lo ≤ b := fun b hb => by
    rcases List.mem_cons.1 hb with rfl | hb
    · exact R.base _ (by simp [DiskC.foot])
    · rcases List.mem_cons.1 hb with rfl | hb
      · exact R.base _ (by simp [DiskC.foot])
      · exact R.base b (foot_ent hf b hb)
  have hr := hS.appends
  simp only [DiskC.pub] at hr
  obtain ⟨hr1, hr2⟩ := hr
  have hp := lt_of_block R.row
  clear hf hs R hS hT hbl hsrc
  go_enter Tryz.func144, Tryz.ntmps144
  go_wp2_with (first
    | (go_at_call 202; refine H.out.mono ?_; rintro e w1 ⟨rfl, ⟨L, hR1, hL⟩, ht1⟩; have k7 := hR1.cell 7; have f7 := hR1.unfrozen 7; simp only [dRow, DiskC.numbered] at k7; have HR1 := hid hR1; have HV1 := hid (V.touch ht1 hF); have HT1 := hid ht1; have HL := hid hL; clear hR1 ht1 hL)
    | (go_at_call 141; refine (answer_nil (E := E) (p := p) ?_).mono ?_; exact (HV1.out.touch (F := [p]) ((Touch.refl [p] w1).setCell (p := ⟨p, 7, none⟩) (by simp) _) (fun b hb => hF b (by simp at hb; simp [hb]))).sents; rintro e w2 ⟨rfl, rfl⟩))
  go_ret
  have t1 : Touch [p] w1 (w1.setCell ⟨p, 7, none⟩ (.int .i64 (D.c.appends + 1))) := (Touch.refl [p] w1).setCell (by simp) _
  refine ⟨rfl, ⟨L, HR1.out.setRow rfl rfl rfl t1 ?_, HL.out⟩, HT1.out.trans t1 (by simp)⟩
  rw [heap_setCell_row HR1.out.row 7]
  rfl


set_option maxHeartbeats 400000 in
theorem Append_err2 {s : ByteArray} {sa : Option Addr} {n c : Nat} {j : Nat} {v : Int} {Post Post2 : World → Prop} (h : Calls Tryz.prog 202 #[ptr p, .string s, .slice sa n c] w fun e w' => e = .returned (errV E j) ∧ Post w')
    (ha : ∀ w1, Post w1 → Calls Tryz.prog 141 #[ptr p, errV E j] w1 fun e w' => e = .returned (.int .i64 v) ∧ Post2 w') :
    Calls Tryz.prog 144 #[ptr p, .string s, .slice sa n c] w fun e w' => e = .returned (.int .i64 v) ∧ Post2 w' := by
  have H := hid h
  have HA := hid ha
  clear h ha
  go_enter Tryz.func144, Tryz.ntmps144
  go_wp2_with (first | (go_at_call 202; refine H.out.mono ?_; rintro e w1 ⟨rfl, ht⟩; have HT := hid ht; clear ht) | (go_at_call 141; refine (HA.out _ HT.out).mono ?_; rintro e w2 ⟨rfl, hp⟩))
  go_ret
  exact ⟨rfl, hp⟩
end

end Go.Proofs.YtclplbnildnifaaGreatDoor
/-
  The landed disk, told exactly under what befalls a call: Create, Seal, Delete.
-/
namespace Go.Proofs.YtclplbnildnifaaGreatDoor
open Go.RowKit Go.Deep

/-- what a call answers that would answer r; part: what a cut leaves of it. -/
def befX (k y : Int) (A : PubA) (r : Int × PubA) (part : PubA) : Int × PubA :=
  if r.1 = 0 then (if k = 1 then (9, A.faulted) else if k = 2 then (10, if 0 < y then part else A.shut) else r) else r
def OutX (k y : Int) (A : PubA) (r : Int × PubA) (part : PubA) (v : Int) (A' : PubA) : Prop := befX k y A r part = (v, A')
theorem OutX.no {k y : Int} {A : PubA} {r : Int × PubA} {part : PubA} {v : Int} {A' : PubA} (h : r = (v, A')) (h0 : v ≠ 0) : OutX k y A r part v A' := by
  subst h
  unfold OutX befX
  rw [if_neg h0]
theorem OutX.fault {y : Int} {A : PubA} {r : Int × PubA} {part : PubA} (h : r.1 = 0) : OutX 1 y A r part 9 A.faulted := by
  unfold OutX befX
  rw [if_pos h, if_pos rfl]
theorem OutX.part {y : Int} {A : PubA} {r : Int × PubA} {part : PubA} (h : r.1 = 0) (hy : 0 < y) : OutX 2 y A r part 10 part := by
  unfold OutX befX
  rw [if_pos h, if_neg (by decide), if_pos rfl, if_pos hy]
theorem OutX.shut {y : Int} {A : PubA} {r : Int × PubA} {part : PubA} (h : r.1 = 0) (hy : ¬ 0 < y) : OutX 2 y A r part 10 A.shut := by
  unfold OutX befX
  rw [if_pos h, if_neg (by decide), if_pos rfl, if_neg hy]
theorem OutX.ok {k y : Int} {A : PubA} {r : Int × PubA} {part : PubA} (h : r.1 = 0) (h1 : k ≠ 1) (h2 : k ≠ 2) : OutX k y A r part 0 r.2 := by
  unfold OutX befX
  rw [if_pos h, if_neg h1, if_neg h2]
  exact Prod.ext h rfl

/-- A call of the disk has been made; how its troubles went on. -/
def Did3 (w w' : World) (lo p mf mt : Nat) (D : DiskC) (A' : PubA) : Prop :=
  ∃ D', Rep w' lo p mf mt D' ∧ D'.pub = A' ∧ ((D'.T = D.T ∧ D'.c.calls = D.c.calls) ∨ (D'.T = D.T.del (.int .i64 D.c.calls) ∧ D'.c.calls = D.c.calls + 1)) ∧ Touch (D.foot p mf mt) w w' ∧ ∀ b ∈ D'.foot p mf mt, b ∈ D.foot p mf mt ∨ w.heap.size ≤ b

section
variable {w w' : World} {E : Nat → Addr} {lo p mf mt : Nat} {D : DiskC}

theorem Did3.same (R : Rep w lo p mf mt D) (ht : Touch [] w w') : Did3 w w' lo p mf mt D D.pub :=
  ⟨D, R.touch ht (by simp), rfl, .inl ⟨rfl, rfl⟩, ht.mono (by simp), fun _ h => .inl h⟩


theorem Create_x (V : Env w lo E) (R : Rep w lo p mf mt D) (ho : D.on = true) (hS : Small D.pub) (hfl : 0 ≤ D.c.faults ∧ D.c.faults ≤ 1099511627776) {a k b : Int} (hT : TroubleIs D.T D.c.calls a k b) (s : ByteArray) :
    Calls Tryz.prog 78 #[ptr p, .string s] w fun e w' => ∃ v A', e = .returned (.int .i64 v) ∧ Did3 w w' lo p mf mt D A' ∧ OutX k b D.pub (createA s D.pub) { (createA s D.pub).2 with on := false } v A' := by
  have hfp : findA D.pub.files (nm s) = (findE D.ents (nm s)).map Ent.file := find_pub _ _
  have F3 := foot3 R
  have hF : ∀ b ∈ [p, mf, mt], lo ≤ b := fun b hb => (F3 b hb).2
  have hG : ∀ b ∈ [p, mf, mt], b ∈ D.foot p mf mt := fun b hb => (F3 b hb).1
  by_cases hn : nameB s = true
  · cases hf : findE D.ents (nm s) with
    | some e0 =>
      have hr : createA s D.pub = (13, D.pub) := by unfold createA; rw [if_pos hn, hfp, hf]; rfl
      have h := Create_of (i := some 5) (create_there V R s ho hn hf) (v := 13) fun w1 ht => answer_err (V.touch ht (by simp)).sents 5 (by omega) (by omega) (by omega)
      exact h.mono fun e w1 ⟨h1, h2⟩ => ⟨13, D.pub, h1, Did3.same R h2, OutX.no hr (by decide)⟩
    | none =>
      have hr : createA s D.pub = (0, { D.pub with files := insA (nm s, ⟨false, []⟩) D.pub.files, c := { D.pub.c with calls := D.pub.c.calls + 1 } }) := by unfold createA; rw [if_pos hn, hfp, hf]; rfl
      have hfl' : D.ents.length ≤ 1099511627776 := by have := hS.files; simpa [DiskC.pub] using this
      by_cases k1 : k = 1
      · subst k1
        have hc := create_gen V R s ho hn hf hT hS.calls.1 hS.calls.2 (v := errV E 1) (Post := fun w2 w3 => Touch [] w2 w3) fun w2 bd bn V2 R2 _ _ _ => (carry_fault V2 a b _).mono fun e w3 ⟨h1, h2⟩ => ⟨h1, h2, h2.mono (by simp)⟩
        have h := Create_of2 (v := 9) (Post2 := fun w' => Did3 w w' lo p mf mt D D.pub.faulted) hc fun w1 ⟨⟨w2, hz, R2, t2⟩, t⟩ => by
          have R1 : Rep w1 lo p mf mt D.numbered := R2.touch t2 (by simp)
          refine (answer_fault (V.touch t hF) R1 hfl.1 hfl.2).mono fun e w' ⟨h1, h2, h3⟩ => ⟨h1, _, h2, rfl, .inr ⟨rfl, rfl⟩, ?_, fun b hb => .inl hb⟩
          exact (t.mono hG).trans (h3.mono (G := D.foot p mf mt) (by simp [DiskC.foot])) (fun b hb => .inl hb)
        exact h.mono fun e w' ⟨h1, h2⟩ => ⟨9, _, h1, h2, OutX.fault (by rw [hr])⟩
      · by_cases k2 : k = 2
        · subst k2
          by_cases hb : 0 < b
          · have hc := create_gen V R s ho hn hf hT hS.calls.1 hS.calls.2 (v := errV E 2) (Post := fun w2 w3 => ∃ fb, w2.heap.size ≤ fb ∧ Rep w3 lo p mf mt { D.numbered.off with ents := insE ⟨nm s, ⟨false, []⟩, ⟨fb, .slice none 0 0, []⟩⟩ D.ents }) fun w2 bd bn V2 R2 _ hbd hbn =>
              carry_create_cut V2 R2 bd bn hb (name_size hn) hf hfl' hbd hbn
            have h := Create_of2 (v := 10) (Post2 := fun w' => Did3 w w' lo p mf mt D { (createA s D.pub).2 with on := false }) hc fun w1 ⟨⟨w2, hz, _, fb, hfb, R3⟩, t⟩ => by
              refine (answer_err (V.touch t hF).sents 2 (by omega) (by omega) (by omega)).mono fun e w' ⟨h1, h2⟩ => ?_
              subst h2
              refine ⟨h1, _, R3, ?_, .inr ⟨rfl, rfl⟩, t.mono hG, foot_insert rfl (by simp [Lay.foot, Value.ownBlock]; omega)⟩
              rw [hr]
              simp only [DiskC.pub, DiskC.numbered, ins_pub]
              rfl
            exact h.mono fun e w' ⟨h1, h2⟩ => ⟨10, _, h1, h2, OutX.part (by rw [hr]) hb⟩
          · have hc := create_gen V R s ho hn hf hT hS.calls.1 hS.calls.2 (v := errV E 2) (Post := fun w2 w3 => Rep w3 lo p mf mt D.numbered.off) fun w2 bd bn V2 R2 _ _ _ =>
              (carry_cut0 V2 R2 a b (by omega) _).mono fun e w3 ⟨h1, h2, h3⟩ => ⟨h1, h2, h3.mono (by simp)⟩
            have h := Create_of2 (v := 10) (Post2 := fun w' => Did3 w w' lo p mf mt D D.pub.shut) hc fun w1 ⟨⟨w2, hz, _, R3⟩, t⟩ => by
              refine (answer_err (V.touch t hF).sents 2 (by omega) (by omega) (by omega)).mono fun e w' ⟨h1, h2⟩ => ?_
              subst h2
              exact ⟨h1, _, R3, rfl, .inr ⟨rfl, rfl⟩, t.mono hG, fun b hb => .inl hb⟩
            exact h.mono fun e w' ⟨h1, h2⟩ => ⟨10, _, h1, h2, OutX.shut (by rw [hr]) hb⟩
        · have hc := create_ok V R s ho hn hf hT (by simp [k1]) (by simp [k2]) hS.calls.1 hS.calls.2 hfl'
          have h := Create_of2 (v := 0) (Post2 := fun w' => Did3 w w' lo p mf mt D (createA s D.pub).2) hc fun w1 ⟨⟨fb, hfb, R3⟩, t⟩ => by
            refine (answer_nil (V.touch t hF).sents).mono fun e w' ⟨h1, h2⟩ => ?_
            subst h2
            refine ⟨h1, _, R3, ?_, .inr ⟨rfl, rfl⟩, t.mono hG, foot_insert rfl (by simp [Lay.foot, Value.ownBlock]; omega)⟩
            rw [hr]
            simp only [DiskC.pub, DiskC.numbered, ins_pub]
            rfl
          exact h.mono fun e w' ⟨h1, h2⟩ => ⟨0, _, h1, h2, OutX.ok (by rw [hr]) k1 k2⟩
  · have hr : createA s D.pub = (11, D.pub) := by unfold createA; rw [if_neg hn]
    have h := Create_of (i := some 3) (create_bad V R s ho (by simpa using hn)) (v := 11) fun w1 ht => answer_err (V.touch ht (by simp)).sents 3 (by omega) (by omega) (by omega)
    exact h.mono fun e w1 ⟨h1, h2⟩ => ⟨11, D.pub, h1, Did3.same R h2, OutX.no hr (by decide)⟩

theorem Seal_x (V : Env w lo E) (R : Rep w lo p mf mt D) (ho : D.on = true) (hS : Small D.pub) (hfl : 0 ≤ D.c.faults ∧ D.c.faults ≤ 1099511627776) {a k b : Int} (hT : TroubleIs D.T D.c.calls a k b) (s : ByteArray) :
    Calls Tryz.prog 83 #[ptr p, .string s] w fun e w' => ∃ v A', e = .returned (.int .i64 v) ∧ Did3 w w' lo p mf mt D A' ∧ OutX k b D.pub (sealA s D.pub) { (sealA s D.pub).2 with on := false } v A' := by
  have hfp : findA D.pub.files (nm s) = (findE D.ents (nm s)).map Ent.file := find_pub _ _
  by_cases hn : nameB s = true
  · cases hf : findE D.ents (nm s) with
    | none =>
      have hr : sealA s D.pub = (12, D.pub) := by unfold sealA; rw [if_pos hn, hfp, hf]; rfl
      have h := Seal_of (i := some 4) (seal_err s 4 (find_none V.sents R s ho hn hf)) (v := 12) fun w1 ht => answer_err (V.touch ht (by simp)).sents 4 (by omega) (by omega) (by omega)
      exact h.mono fun e w1 ⟨h1, h2⟩ => ⟨12, D.pub, h1, Did3.same R h2, OutX.no hr (by decide)⟩
    | some e0 =>
      cases hs : e0.file.shut with
      | true =>
        have hr : sealA s D.pub = (14, D.pub) := by unfold sealA; rw [if_pos hn, hfp, hf]; simp [hs]
        have h := Seal_of (i := some 6) (seal_shut V R s ho hn hf hs) (v := 14) fun w1 ht => answer_err (V.touch ht (by simp)).sents 6 (by omega) (by omega) (by omega)
        exact h.mono fun e w1 ⟨h1, h2⟩ => ⟨14, D.pub, h1, Did3.same R h2, OutX.no hr (by decide)⟩
      | false =>
        have hr : sealA s D.pub = (0, { D.pub with files := setA (nm s) { e0.file with shut := true } D.pub.files, c := { D.pub.c with calls := D.pub.c.calls + 1 } }) := by unfold sealA; rw [if_pos hn, hfp, hf]; simp [hs]
        have hfb : e0.lay.fb ∈ D.foot p mf mt := foot_ent hf _ (by simp [Lay.foot])
        have hG : ∀ b ∈ [p, mt, e0.lay.fb], b ∈ D.foot p mf mt := fun b hb => by
          simp at hb
          rcases hb with rfl | rfl | rfl
          · simp [DiskC.foot]
          · simp [DiskC.foot]
          · exact hfb
        have hF : ∀ b ∈ [p, mt, e0.lay.fb], lo ≤ b := fun b hb => R.base b (hG b hb)
        have hm := (findE_mem hf).1
        have hne := R.ent_ne hm (b := e0.lay.fb) (by simp [Lay.foot])
        by_cases k1 : k = 1
        · subst k1
          have hc := seal_gen V R s ho hn hf hs hT hS.calls.1 hS.calls.2 (v := errV E 1) (Post := fun w2 w3 => Touch [] w2 w3) fun w2 bf V2 R2 _ _ => (carry_fault V2 a b _).mono fun e w3 ⟨h1, h2⟩ => ⟨h1, h2, h2.mono (by simp)⟩
          have h := Seal_of2 (v := 9) (Post2 := fun w' => Did3 w w' lo p mf mt D D.pub.faulted) hc fun w1 ⟨⟨w2, hz, R2, t2⟩, t⟩ => by
            have R1 : Rep w1 lo p mf mt D.numbered := R2.touch t2 (by simp)
            refine (answer_fault (V.touch t hF) R1 hfl.1 hfl.2).mono fun e w' ⟨h1, h2, h3⟩ => ⟨h1, _, h2, rfl, .inr ⟨rfl, rfl⟩, ?_, fun b hb => .inl hb⟩
            exact (t.mono hG).trans (h3.mono (G := D.foot p mf mt) (by simp [DiskC.foot])) (fun b hb => .inl hb)
          exact h.mono fun e w' ⟨h1, h2⟩ => ⟨9, _, h1, h2, OutX.fault (by rw [hr])⟩
        · by_cases k2 : k = 2
          · subst k2
            by_cases hb : 0 < b
            · have hc := seal_gen V R s ho hn hf hs hT hS.calls.1 hS.calls.2 (v := errV E 2) (Post := fun w2 w3 => Rep w3 lo p mf mt { D.numbered.off with ents := setE (nm s) { e0.file with shut := true } e0.lay D.ents }) fun w2 bf V2 R2 hz hbf => by
                have hat := R2.each e0 hm
                refine (carry_seal_cut V2 R2 bf e0.lay.fb hb (R.base _ hfb) hne.1 hbf hat.row).mono fun e w3 ⟨h1, w1, R1, t1, t3, hr3⟩ => ?_
                have hnd := R1.parts.1 e0 hm
                have hat3 := (R1.each e0 hm).shut hnd t3 hr3
                refine ⟨h1, R1.setFile hf rfl hat3 (fun b hb => .inl hb) hnd (t3.mono (by simp [Lay.foot])) (Nat.le_trans V2.room t1.size), (t1.mono (by simp)).trans t3 (by simp)⟩
              have h := Seal_of2 (v := 10) (Post2 := fun w' => Did3 w w' lo p mf mt D { (sealA s D.pub).2 with on := false }) hc fun w1 ⟨⟨w2, hz, _, R3⟩, t⟩ => by
                refine (answer_err (V.touch t hF).sents 2 (by omega) (by omega) (by omega)).mono fun e w' ⟨h1, h2⟩ => ?_
                subst h2
                refine ⟨h1, _, R3, ?_, .inr ⟨rfl, rfl⟩, t.mono hG, foot_set hf rfl fun b hb => .inl hb⟩
                rw [hr]
                simp only [DiskC.pub, DiskC.numbered, set_pub]
              exact h.mono fun e w' ⟨h1, h2⟩ => ⟨10, _, h1, h2, OutX.part (by rw [hr]) hb⟩
            · have hc := seal_gen V R s ho hn hf hs hT hS.calls.1 hS.calls.2 (v := errV E 2) (Post := fun w2 w3 => Rep w3 lo p mf mt D.numbered.off) fun w2 bf V2 R2 _ _ =>
                (carry_cut0 V2 R2 a b (by omega) _).mono fun e w3 ⟨h1, h2, h3⟩ => ⟨h1, h2, h3.mono (by simp)⟩
              have h := Seal_of2 (v := 10) (Post2 := fun w' => Did3 w w' lo p mf mt D D.pub.shut) hc fun w1 ⟨⟨w2, hz, _, R3⟩, t⟩ => by
                refine (answer_err (V.touch t hF).sents 2 (by omega) (by omega) (by omega)).mono fun e w' ⟨h1, h2⟩ => ?_
                subst h2
                exact ⟨h1, _, R3, rfl, .inr ⟨rfl, rfl⟩, t.mono hG, fun b hb => .inl hb⟩
              exact h.mono fun e w' ⟨h1, h2⟩ => ⟨10, _, h1, h2, OutX.shut (by rw [hr]) hb⟩
          · have hc := seal_ok R s ho hn hf hs hT (by simp [k1]) (by simp [k2]) hS.calls.1 hS.calls.2 V.room
            have h := Seal_of2 (v := 0) (Post2 := fun w' => Did3 w w' lo p mf mt D (sealA s D.pub).2) hc fun w1 ⟨R3, t⟩ => by
              refine (answer_nil (V.touch t hF).sents).mono fun e w' ⟨h1, h2⟩ => ?_
              subst h2
              refine ⟨h1, _, R3, ?_, .inr ⟨rfl, rfl⟩, t.mono hG, foot_set hf rfl fun b hb => .inl hb⟩
              rw [hr]
              simp only [DiskC.pub, DiskC.numbered, set_pub]
            exact h.mono fun e w' ⟨h1, h2⟩ => ⟨0, _, h1, h2, OutX.ok (by rw [hr]) k1 k2⟩
  · have hr : sealA s D.pub = (11, D.pub) := by unfold sealA; rw [if_neg hn]
    have h := Seal_of (i := some 3) (seal_err s 3 (find_bad V.sents R s ho (by simpa using hn))) (v := 11) fun w1 ht => answer_err (V.touch ht (by simp)).sents 3 (by omega) (by omega) (by omega)
    exact h.mono fun e w1 ⟨h1, h2⟩ => ⟨11, D.pub, h1, Did3.same R h2, OutX.no hr (by decide)⟩


end

end Go.Proofs.YtclplbnildnifaaGreatDoor
