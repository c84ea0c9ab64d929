import Derived.Test.YtcpncfngadablaaGreatDoorZ09
namespace Go.Proofs.YtcpncfngadablaaGreatDoor
open Go.RowKit Go.Deep

section
variable {w w' : World} {E : Nat → Addr} {lo p mf mt : Nat} {D : DiskC}

set_option maxRecDepth 100000 in
set_option maxHeartbeats 400000 in
theorem carry_put (R : Rep w lo p mf mt D) {s : ByteArray} {x k y : Int} (bf bb bd : Nat) (hk1 : (k == 1) = false) (hk2 : (k == 2) = false) {e0 : Ent} (hf : findE D.ents (nm s) = some e0) (hS : Small D.pub) {bl : List UInt8} (a : Addr) (c : Nat) (hbl : bl.length = D.B) (hc : bl.length ≤ c)
    (hsrc : ∀ j v, (Lib.byteCells bl)[j]? = some v → w.cell? (a.add j) = some v) (ha : a.block < w.heap.size) (hlo : lo ≤ w.heap.size)
    (hbf : w.heap[bf]? = some (.cells #[ptr e0.lay.fb] 92 (0, 0))) (hbb : w.heap[bb]? = some (.cells #[.slice (some a) bl.length c] 31 (0, 0))) (hbd : w.heap[bd]? = some (.cells #[ptr p] 23 (0, 0))) :
    Calls Tryz.prog 67 #[ptr p, .agg #[.int .i64 x, .int .i64 k, .int .i64 y], .func (.func 70) #[] #[ptr bf, ptr bb, ptr bd]] w fun e w' => e = .returned .nilIface ∧
      (∃ L, Rep w' lo p mf mt { D with ents := setE (nm s) { e0.file with blocks := e0.file.blocks ++ [bl] } L D.ents, c := { D.c with used := D.c.used + 1, most := max D.c.most (D.c.used + 1) } } ∧ ∀ b ∈ L.foot, b ∈ e0.lay.foot ∨ w.heap.size ≤ b) ∧ Touch (p :: e0.lay.foot) w w' := by
  have k0 := R.cell 0
  simp only [dRow] at k0
  have hp := lt_of_block R.row
  have hcut : cutB ((D.B : Nat) : Int).toNat bl = bl := cutB_whole (by rw [hbl]; simp)
  have hadd : ∀ j, (a.add j).block = a.block := fun j => by unfold Addr.add; split <;> rfl
  have hsrc' : ∀ (o : Obj) j v, (Lib.byteCells bl)[j]? = some v → (w.alloc o).cell? (a.add j) = some v := fun o j v h => (World.cell?_of_block (Below.heap_alloc w o _ (by rw [hadd]; exact ha))).trans (hsrc j v h)
  have H := hid (fun o : Obj => put1_any (R.alloc o) (D.B : Int) (by omega) bf bb bd hf hS a c hbl hc (hsrc' o) (by simp; omega) (by simp; omega) ((Below.heap_alloc w o bf (lt_of_block hbf)).trans hbf) ((Below.heap_alloc w o bb (lt_of_block hbb)).trans hbb) ((Below.heap_alloc w o bd (lt_of_block hbd)).trans hbd))
  rw [hcut] at H
  clear hbf hbb hbd hf hS hsrc hsrc' hadd ha hbl hcut
  go_enter Tryz.func67, Tryz.ntmps67
  go_wp2_with (go_at_call 70; refine (H.out _).mono ?_; rintro e w1 ⟨rfl, ⟨L, hR, hL⟩, ht⟩)
  go_ret
  refine ⟨rfl, ⟨L, hR, fun b hb => ?_⟩, ((Touch.refl _ w).alloc _).trans ht (fun b hb => .inl hb)⟩
  rcases hL b hb with h | h
  · exact .inl h
  · right; simp at h; omega


theorem put_row {w1 w2 : World} {b n : Nat} {o o' : Obj} (hb : w1.heap[b]? = some o') (ht : Touch [p, mt] ((w1.alloc o).drewN n) w2) (h1 : p < b) (h2 : mt < b) : w2.heap[b]? = some o' :=
  (ht.block b (by show b < (w1.alloc o).heap.size; have := lt_of_block hb; simp; omega) (by simp; omega)).trans ((Below.heap_alloc w1 o b (lt_of_block hb)).trans hb)
theorem put_new {w1 w2 : World} {n : Nat} {o : Obj} (ht : Touch [p, mt] ((w1.alloc o).drewN n) w2) (h1 : p < w1.heap.size) (h2 : mt < w1.heap.size) : w2.heap[w1.heap.size]? = some o :=
  (ht.block _ (by show w1.heap.size < (w1.alloc o).heap.size; simp) (by simp; omega)).trans (heap_alloc_new w1 o)

theorem put_keeps {w2 w3 : World} {n : List UInt8} (Rw : Rep w lo p mf mt D) {e0 : Ent} (hf : findE D.ents n = some e0) (ht : Touch (p :: e0.lay.foot) w2 w3) (hl : w.heap.size < w2.heap.size) : w3.cell? ⟨w.heap.size, 0, none⟩ = w2.cell? ⟨w.heap.size, 0, none⟩ := by
  refine ht.cell (p := ⟨w.heap.size, 0, none⟩) hl ?_
  intro h
  rcases List.mem_cons.1 h with h | h
  · have := lt_of_block Rw.row
    have h' : w.heap.size = p := h
    omega
  · have := (Rw.ent_ne (findE_mem hf).1 h).2.2.2.1
    have h' : (⟨w.heap.size, 0, none⟩ : Addr).block = w.heap.size := rfl
    omega

theorem carry_put_at {W w1 w2 : World} {s : ByteArray} {x k y : Int} {bf bb bd n : Nat} {o : Obj} (R : Rep w2 lo p mf mt D) (hk1 : (k == 1) = false) (hk2 : (k == 2) = false) {e0 : Ent} (hf : findE D.ents (nm s) = some e0) (hS : Small D.pub) {bl : List UInt8} {a : Addr} {c : Nat} (hbl : bl.length = D.B) (hc : bl.length ≤ c)
    (hsrc : ∀ j v, (Lib.byteCells bl)[j]? = some v → w.cell? (a.add j) = some v) (ha : a.block < w.heap.size) (hlo : lo ≤ w.heap.size) (hTW : Touch [] w W) (hq : Quiet W w1) (ht : Touch [p, mt] ((w1.alloc o).drewN n) w2) (hp : a.block ≠ p) (hm : a.block ≠ mt)
    (hbf : w2.heap[bf]? = some (.cells #[ptr e0.lay.fb] 92 (0, 0))) (hbb : w2.heap[bb]? = some (.cells #[.slice (some a) D.B c] 31 (0, 0))) (hbd : w2.heap[bd]? = some (.cells #[ptr p] 23 (0, 0))) :
    Calls Tryz.prog 67 #[ptr p, .agg #[.int .i64 x, .int .i64 k, .int .i64 y], .func (.func 70) #[] #[ptr bf, ptr bb, ptr bd]] w2 fun e w' => e = .returned .nilIface ∧
      (∃ L, Rep w' lo p mf mt { D with ents := setE (nm s) { e0.file with blocks := e0.file.blocks ++ [bl] } L D.ents, c := { D.c with used := D.c.used + 1, most := max D.c.most (D.c.used + 1) } } ∧ ∀ b ∈ L.foot, b ∈ e0.lay.foot ∨ w2.heap.size ≤ b) ∧ Touch (p :: e0.lay.foot) w2 w' := by
  have t2 : Touch [p, mt] w w2 := (((((hTW.mono (by simp)).trans (Quiet.touch hq []) (by simp))).alloc _).drewN _).trans ht (by simp)
  have hadd : ∀ j, (a.add j).block = a.block := fun j => by unfold Addr.add; split <;> rfl
  rw [← hbl] at hbb
  refine carry_put R bf bb bd hk1 hk2 hf hS a c hbl hc (fun j v h => ?_) (by have := t2.size; omega) (Nat.le_trans hlo t2.size) hbf hbb hbd
  rw [t2.cell (p := a.add j) (by rw [hadd]; omega) (by rw [hadd]; simp [hp, hm])]
  exact hsrc j v h

set_option maxRecDepth 100000 in
set_option maxHeartbeats 400000 in
theorem put_ok (R : Rep w lo p mf mt D) (s : ByteArray) (ho : D.on = true) (hn : nameB s = true) {e0 : Ent} (hf : findE D.ents (nm s) = some e0) (hs : e0.file.shut = false) {bl : List UInt8} {a : Addr} {c : Nat} (hbl : bl.length = D.B) (hc : bl.length ≤ c)
    (hsrc : ∀ j v, (Lib.byteCells bl)[j]? = some v → w.cell? (a.add j) = some v) (ha : a.block < w.heap.size) (hpl : a.block ≠ p) (hml : a.block ≠ mt) (hlo : lo ≤ w.heap.size) (hu : D.c.used < D.Bs) {x k y : Int} (hT : TroubleIs D.T D.c.calls x k y) (hk1 : (k == 1) = false) (hk2 : (k == 2) = false) (hS : Small D.pub) (hcc : D.c.calls + 1 ≤ 1099511627776) :
    Calls Tryz.prog 35 #[ptr p, .string s, .slice (some a) D.B c] w fun e w' => e = .returned .nilIface ∧
      (∃ L, Rep w' lo p mf mt { D.numbered with ents := setE (nm s) { e0.file with blocks := e0.file.blocks ++ [bl] } L D.ents, c := { D.numbered.c with used := D.c.used + 1, most := max D.c.most (D.c.used + 1) } } ∧ ∀ b ∈ L.foot, b ∈ e0.lay.foot ∨ w.heap.size ≤ b) ∧ Touch (p :: mt :: e0.lay.foot) w w' := by
  obtain ⟨W, hW⟩ : ∃ W, W = (w.alloc (.cells #[ptr p] 23)).alloc (.cells #[.slice (some a) D.B c] 31) := ⟨_, rfl⟩
  have hW1 : W.heap[w.heap.size]? = some (.cells #[ptr p] 23) ∧ W.heap[w.heap.size + 1]? = some (.cells #[.slice (some a) D.B c] 31) := by rw [hW]; exact heap_two w _ _
  have hTW : Touch [] w W := by rw [hW]; exact ((Touch.refl [] w).alloc _).alloc _
  have RW : Rep W lo p mf mt D := R.touch hTW (by simp)
  have H := hid (find_some RW s ho hn hf)
  have hrow := (RW.each e0 (findE_mem hf).1).row
  have lfb := lt_of_block hrow
  have hp := lt_of_block RW.row
  have hpw := lt_of_block R.row
  have HR0 := hid R
  have hmw : mt < w.heap.size := R.lt mt (by simp [DiskC.foot])
  have c0 := cell_row hrow 0
  rw [hs] at c0
  simp at c0
  have x0 := RW.cell 0
  have x1 := RW.cell 1
  have x10 := RW.cell 10
  simp only [dRow] at x0 x1 x10
  have cd := cell_row hW1.1 0
  have cb := cell_row hW1.2 0
  have lz : w.heap.size + 1 < W.heap.size := lt_of_block hW1.2
  simp at cd cb
  have hnb : ((D.B : Int) != (D.B : Int)) = false := by simp
  have h0 := hS.calls.1
  have h1 := hS.calls.2
  simp only [DiskC.pub] at h0 h1
  have HE := hid hW
  have HTW := hid hTW
  have HR := hid RW
  have HF := hid hf
  have HS := hid (small_number hS hcc)
  have HW := hid hW1
  have HBL := hid hbl
  have HSRC := hid hsrc
  clear hf R RW hW1 hTW hW hrow hS hs hbl hsrc
  go_enter Tryz.func35, Tryz.ntmps35
  go_wp2_with fail
  rw [← HE.out]
  refine H.out.mono ?_
  rintro e w1 ⟨rfl, hq⟩
  have d0 := (Quiet.cell hq _).trans c0
  have y0 := (Quiet.cell hq _).trans x0
  have y1 := (Quiet.cell hq _).trans x1
  have y10 := (Quiet.cell hq _).trans x10
  have yd := (Quiet.cell hq _).trans cd
  have yb := (Quiet.cell hq _).trans cb
  have ee := Quiet.heap hq
  have l1 : e0.lay.fb < w1.heap.size := by rw [ee]; exact lfb
  have l2 : p < w1.heap.size := by rw [ee]; exact hp
  have l3 : w.heap.size < w1.heap.size := by rw [ee]; omega
  have l4 : w.heap.size + 1 < w1.heap.size := by rw [ee]; omega
  have hb1 : Hid (w1.heap[w.heap.size]? = some (.cells #[ptr p] 23)) := (congrArg (fun h => h[w.heap.size]?) ee).trans HW.out.1
  have hb2 : Hid (w1.heap[w.heap.size + 1]? = some (.cells #[.slice (some a) D.B c] 31)) := (congrArg (fun h => h[w.heap.size + 1]?) ee).trans HW.out.2
  have HQ := hid hq
  clear hq ee c0 x0 x1 x10 cd cb lfb hp lz
  go_wp2
  go_quiet (fail)
  go_wp2
  go_quiet (fail)
  go_wp2
  go_region_held3 (fun W' => W'.cell? ⟨w.heap.size, 0, none⟩ = some (ptr p)) (go_keep)
    (first
      | (go_at_call 68; refine (number_any (((Quiet.rep HQ.out HR.out).alloc (.cells #[ptr e0.lay.fb] 92)).drewN _) hT h0 h1).mono ?_; rintro e w2 ⟨rfl, hR2, ht2⟩; have r0 := hid (put_row (o := .cells #[ptr e0.lay.fb] 92) hb1.out ht2 hpw hmw); have r1 := hid (put_row (o := .cells #[ptr e0.lay.fb] 92) hb2.out ht2 (by omega) (by omega)); have r2 := hid (put_new (o := .cells #[ptr e0.lay.fb] 92) ht2 l2 (by omega)); have z2 : w2.cell? ⟨w.heap.size, 0, none⟩ = some (ptr p) := cell_row r0.out 0)
      | (go_at_call 67; refine (carry_put_at hR2 hk1 hk2 HF.out HS.out HBL.out hc HSRC.out ha hlo HTW.out HQ.out ht2 hpl hml r2.out r1.out r0.out).mono ?_; rintro e w3 ⟨rfl, ⟨L, hR3, hL⟩, ht3⟩; have z3 : w3.cell? ⟨w.heap.size, 0, none⟩ = some (ptr p) := (put_keeps HR0.out HF.out ht3 (lt_of_block r0.out)).trans z2))
  all_goals
    go_wp2
    go_ret
    have t2 : Touch [p, mt] w w2 := (((((HTW.out.mono (by simp)).trans (Quiet.touch HQ.out []) (by simp))).alloc _).drewN _).trans ht2 (by simp)
    refine ⟨rfl, ⟨L, hR3, fun b hb => ?_⟩, (t2.mono (by simp)).trans ht3 (fun b hb => by rcases List.mem_cons.1 hb with h | h <;> simp [h])⟩
    rcases hL b hb with h | h
    · exact .inl h
    · right; have := t2.size; omega

/-! ### Append -/
set_option maxRecDepth 100000 in
set_option maxHeartbeats 400000 in
theorem answer_full (S : Sents w E) (R : Rep w lo p mf mt D) (h0 : 0 ≤ D.c.full) (h1 : D.c.full ≤ 1099511627776) (S' : ∀ v, Sents (w.setCell ⟨p, 9, none⟩ v) E) :
    Calls Tryz.prog 33 #[ptr p, errV E 9] w fun e w' => e = .returned (.int .i64 17) ∧ Rep w' lo p mf mt { D with c := { D.c with full := D.c.full + 1 } } ∧ Touch [p] w w' := by
  have c1 := S.var 1 (by omega)
  have c9 := S.var 9 (by omega)
  have k9 := R.cell 9
  have f9 := R.unfrozen 9
  simp only [dRow] at k9
  have H1 := hid (is_at S 9 1 (by omega) (by omega))
  have H9 := hid (is_at S 9 9 (by omega) (by omega))
  have HT := hid (fun v => tell_err (S' v) 9 (by omega))
  have HR := hid R
  clear S' R
  go_enter Tryz.func33, Tryz.ntmps33
  go_wp2_with fail
  refine H1.out.mono ?_
  rintro e w1 ⟨rfl, rfl⟩
  go_wp2_with fail
  refine H9.out.mono ?_
  rintro e w1 ⟨rfl, rfl⟩
  go_wp2_with fail
  refine (HT.out _).mono ?_
  rintro e w1 ⟨rfl, rfl⟩
  go_wp2
  go_ret
  have t : Touch [p] w1 (w1.setCell ⟨p, 9, none⟩ (.int .i64 (D.c.full + 1))) := (Touch.refl [p] w1).setCell (by simp) _
  refine ⟨rfl, HR.out.setRow rfl rfl rfl t ?_, t⟩
  rw [heap_setCell_row HR.out.row 9]
  rfl

def appendA (s : ByteArray) (bl : List UInt8) (A : PubA) : Int × PubA :=
  if nameB s then
    match findA A.files (nm s) with
    | none => (12, A)
    | some f =>
      if f.shut then (14, A) else if bl.length ≠ A.B then (16, A) else if A.Bs ≤ A.c.used then (17, { A with c := { A.c with full := A.c.full + 1 } })
      else (0, { A with files := setA (nm s) { f with blocks := f.blocks ++ [bl] } A.files, c := { A.c with calls := A.c.calls + 1, appends := A.c.appends + 1, used := A.c.used + 1, most := max A.c.most (A.c.used + 1) } })
  else (11, A)

set_option maxHeartbeats 400000 in
theorem Append_err {s : ByteArray} {sa : Option Addr} {n c : Nat} {j : Nat} {v : Int} {Post : World → Prop} (h : Calls Tryz.prog 35 #[ptr p, .string s, .slice sa n c] w fun e w' => e = .returned (errV E j) ∧ Touch [] w w')
    (ha : ∀ w1, Touch [] w w1 → Calls Tryz.prog 33 #[ptr p, errV E j] w1 fun e w' => e = .returned (.int .i64 v) ∧ Post w') :
    Calls Tryz.prog 10 #[ptr p, .string s, .slice sa n c] w fun e w' => e = .returned (.int .i64 v) ∧ Post w' := by
  have H := hid h
  have HA := hid ha
  clear h ha
  go_enter Tryz.func10, Tryz.ntmps10
  go_wp2_with (first | (go_at_call 35; refine H.out.mono ?_; rintro e w1 ⟨rfl, ht⟩; have HT := hid ht; clear ht) | (go_at_call 33; refine (HA.out _ HT.out).mono ?_; rintro e w2 ⟨rfl, hp⟩))
  go_ret
  exact ⟨rfl, hp⟩

set_option maxRecDepth 100000 in
set_option maxHeartbeats 400000 in
theorem Append_ok (V : Env w lo E) (R : Rep w lo p mf mt D) (s : ByteArray) (ho : D.on = true) (hn : nameB s = true) {e0 : Ent} (hf : findE D.ents (nm s) = some e0) (hs : e0.file.shut = false) {bl : List UInt8} {a : Addr} {c : Nat} (hbl : bl.length = D.B) (hc : bl.length ≤ c)
    (hsrc : ∀ j v, (Lib.byteCells bl)[j]? = some v → w.cell? (a.add j) = some v) (ha : a.block < w.heap.size) (hpl : a.block ≠ p) (hml : a.block ≠ mt) (hu : D.c.used < D.Bs) (hT : D.T = .map []) (hS : Small D.pub) (hcc : D.c.calls + 1 ≤ 1099511627776) :
    Calls Tryz.prog 10 #[ptr p, .string s, .slice (some a) D.B c] w fun e w' => e = .returned (.int .i64 0) ∧
      (∃ L, Rep w' lo p mf mt { D.numbered with ents := setE (nm s) { e0.file with blocks := e0.file.blocks ++ [bl] } L D.ents, c := { D.numbered.c with appends := D.c.appends + 1, used := D.c.used + 1, most := max D.c.most (D.c.used + 1) } } ∧ ∀ b ∈ L.foot, b ∈ e0.lay.foot ∨ w.heap.size ≤ b) ∧ Touch (p :: mt :: e0.lay.foot) w w' := by
  have H := hid (put_ok R s ho hn hf hs hbl hc hsrc ha hpl hml V.room hu (x := 0) (k := 0) (y := 0) (by rw [hT]; exact no_trouble _) (by decide) (by decide) hS hcc)
  have hF : ∀ b ∈ p :: mt :: e0.lay.foot, lo ≤ b := fun b hb => by
    rcases List.mem_cons.1 hb with rfl | hb
    · exact R.base _ (by simp [DiskC.foot])
    · rcases List.mem_cons.1 hb with rfl | hb
      · exact R.base _ (by simp [DiskC.foot])
      · exact R.base b (foot_ent hf b hb)
  have hr := hS.appends
  simp only [DiskC.pub] at hr
  obtain ⟨hr1, hr2⟩ := hr
  have hp := lt_of_block R.row
  clear hf hs R hS hT hbl hsrc
  go_enter Tryz.func10, Tryz.ntmps10
  go_wp2_with (first
    | (go_at_call 35; refine H.out.mono ?_; rintro e w1 ⟨rfl, ⟨L, hR1, hL⟩, ht1⟩; have k7 := hR1.cell 7; have f7 := hR1.unfrozen 7; simp only [dRow, DiskC.numbered] at k7; have HR1 := hid hR1; have HV1 := hid (V.touch ht1 hF); have HT1 := hid ht1; have HL := hid hL; clear hR1 ht1 hL)
    | (go_at_call 33; refine (answer_nil (E := E) (p := p) ?_).mono ?_; exact (HV1.out.touch (F := [p]) ((Touch.refl [p] w1).setCell (p := ⟨p, 7, none⟩) (by simp) _) (fun b hb => hF b (by simp at hb; simp [hb]))).sents; rintro e w2 ⟨rfl, rfl⟩))
  go_ret
  have t1 : Touch [p] w1 (w1.setCell ⟨p, 7, none⟩ (.int .i64 (D.c.appends + 1))) := (Touch.refl [p] w1).setCell (by simp) _
  refine ⟨rfl, ⟨L, HR1.out.setRow rfl rfl rfl t1 ?_, HL.out⟩, HT1.out.trans t1 (by simp)⟩
  rw [heap_setCell_row HR1.out.row 7]
  rfl

/-- the block that is handed in: bytes outside the disk's memory, or none. -/
structure Hand (w : World) (p mf mt : Nat) (D : DiskC) (sa : Option Addr) (n c : Nat) (bl : List UInt8) : Prop where
  len : bl.length = n
  cap : n ≤ c
  at_ : 0 < n → ∃ a, sa = some a ∧ a.block < w.heap.size ∧ a.block ∉ D.foot p mf mt ∧ ∀ j v, (Lib.byteCells bl)[j]? = some v → w.cell? (a.add j) = some v

theorem Append_any (V : Env w lo E) (R : Rep w lo p mf mt D) (hT : D.T = .map []) (ho : D.on = true) (hS : Small D.pub) (hcc : D.c.calls + 1 ≤ 1099511627776) (s : ByteArray) {sa : Option Addr} {n c : Nat} {bl : List UInt8} (hh : Hand w p mf mt D sa n c bl) :
    Calls Tryz.prog 10 #[ptr p, .string s, .slice sa n c] w fun e w' => e = .returned (.int .i64 (appendA s bl D.pub).1) ∧ Did w w' lo p mf mt D (appendA s bl D.pub).2 := by
  unfold appendA
  have hfp : findA D.pub.files (nm s) = (findE D.ents (nm s)).map Ent.file := find_pub _ _
  have err : ∀ j, j < 11 → j ≠ 1 → j ≠ 9 → (Calls Tryz.prog 35 #[ptr p, .string s, .slice sa n c] w fun e w' => e = .returned (errV E j) ∧ Touch [] w w') →
      Calls Tryz.prog 10 #[ptr p, .string s, .slice sa n c] w fun e w' => e = .returned (.int .i64 (code j)) ∧ Did w w' lo p mf mt D D.pub := fun j hj h1 h9 h =>
    Append_err h fun w1 ht => (answer_err (V.touch ht (by simp)).sents j hj h1 h9).mono fun e w2 ⟨e1, e2⟩ => ⟨e1, by subst e2; exact Did.same R hT ht⟩
  by_cases hn : nameB s = true
  · rw [if_pos hn, hfp]
    cases hf : findE D.ents (nm s) with
    | none => exact err 4 (by omega) (by omega) (by omega) (put_err s 4 _ (fun o1 o2 => find_none ((V.alloc o1).alloc o2).sents ((R.alloc o1).alloc o2) s ho hn hf) rfl)
    | some e0 =>
      simp only [Option.map_some]
      cases hs : e0.file.shut with
      | true =>
        simp only [if_true]
        exact err 6 (by omega) (by omega) (by omega) (put_no V R s ho hn hf 6 (.inl ⟨hs, rfl⟩))
      | false =>
        simp only [Bool.false_eq_true, if_false]
        by_cases hl : bl.length = D.B
        · have hl' : ¬ bl.length ≠ D.pub.B := fun h => h hl
          rw [if_neg hl']
          by_cases hu : D.Bs ≤ D.c.used
          · have hu' : D.pub.Bs ≤ D.pub.c.used := hu
            rw [if_pos hu']
            have hnB : n = D.B := hh.len.symm.trans hl
            refine Append_err (put_no V R s ho hn hf 9 (.inr (.inr ⟨hs, hnB, hu, rfl⟩))) fun w1 ht => ?_
            have R1 := R.touch ht (by simp)
            have V1 := V.touch ht (by simp)
            refine (answer_full V1.sents R1 hS.full.1 hS.full.2 fun v => (V1.touch (F := [p]) ((Touch.refl [p] w1).setCell (p := ⟨p, 9, none⟩) (by simp) _) (fun b hb => by simp at hb; subst hb; exact R.base b (by simp [DiskC.foot]))).sents).mono fun e w2 ⟨e1, hR, ht2⟩ => ⟨e1, _, hR, rfl, hT, ?_, fun b hb => .inl hb⟩
            exact ((ht.mono (by simp)).trans ht2 (fun b hb => by simp at hb; subst hb; exact .inl (by simp [DiskC.foot])))
          · have hu' : ¬ D.pub.Bs ≤ D.pub.c.used := hu
            rw [if_neg hu']
            have hB := hS.size
            simp only [DiskC.pub] at hB
            obtain ⟨a, rfl, ha, hout, hsrc⟩ := hh.at_ (by have := hh.len; omega)
            have hnB : n = D.B := hh.len.symm.trans hl
            subst hnB
            have h := Append_ok V R s ho hn hf hs hl (by rw [hl]; exact hh.cap) hsrc ha (fun e => hout (by simp [DiskC.foot, e])) (fun e => hout (by simp [DiskC.foot, e])) (by omega) hT hS hcc
            refine h.mono fun e w1 ⟨h1, ⟨L, hR, hL⟩, ht⟩ => ⟨h1, _, hR, ?_, ?_, ht.mono ?_, foot_set hf rfl hL⟩
            · simp only [DiskC.pub, DiskC.numbered, set_pub, hs]
            · show D.T.del _ = _
              rw [hT]
              rfl
            · intro b hb
              rcases List.mem_cons.1 hb with rfl | hb
              · simp [DiskC.foot]
              · rcases List.mem_cons.1 hb with rfl | hb
                · simp [DiskC.foot]
                · exact foot_ent hf b hb
        · have hl' : bl.length ≠ D.pub.B := hl
          rw [if_pos hl']
          exact err 8 (by omega) (by omega) (by omega) (put_no V R s ho hn hf 8 (.inr (.inl ⟨hs, fun h => hl (hh.len.trans h), rfl⟩)))
  · rw [if_neg hn]
    exact err 3 (by omega) (by omega) (by omega) (put_err s 3 _ (fun o1 o2 => find_bad ((V.alloc o1).alloc o2).sents ((R.alloc o1).alloc o2) s ho (by simpa using hn)) rfl)
end
end Go.Proofs.YtcpncfngadablaaGreatDoor
