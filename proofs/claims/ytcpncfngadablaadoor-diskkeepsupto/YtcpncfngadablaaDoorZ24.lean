import Derived.Test.YtcpncfngadablaaDoorZ23
/-
  Append under what befalls it.
-/
namespace Go.Proofs.YtcpncfngadablaaDoor
open Go.RowKit Go.Deep

section
variable {w w' : World} {E : Nat → Addr} {lo p mf mt : Nat} {D : DiskC}

set_option maxRecDepth 100000 in
set_option maxHeartbeats 400000 in
theorem carry_put_cut (V : Env w lo E) (R : Rep w lo p mf mt D) {s : ByteArray} {x y : Int} (bf bb bd : Nat) (hy : 0 < y) {e0 : Ent} (hf : findE D.ents (nm s) = some e0) (hS : Small D.pub) {bl : List UInt8} (a : Addr) (c : Nat) (hbl : bl.length = D.B) (hc : bl.length ≤ c)
    (hsrc : ∀ j v, (Lib.byteCells bl)[j]? = some v → w.cell? (a.add j) = some v) (ha : a.block < w.heap.size) (hap : a.block ≠ p)
    (hbf : w.heap[bf]? = some (.cells #[ptr e0.lay.fb] 76 (0, 0))) (hbb : w.heap[bb]? = some (.cells #[.slice (some a) bl.length c] 31 (0, 0))) (hbd : w.heap[bd]? = some (.cells #[ptr p] 23 (0, 0))) :
    Calls Tryd.prog 56 #[ptr p, .agg #[.int .i64 x, .int .i64 2, .int .i64 y], .func (.func 59) #[] #[ptr bf, ptr bb, ptr bd]] w fun e w' => e = .returned (errV E 2) ∧
      (∃ L, Rep w' lo p mf mt { D.off with ents := setE (nm s) { e0.file with blocks := e0.file.blocks ++ [cutB y.toNat bl] } L D.ents, c := { D.c with used := D.c.used + 1, most := max D.c.most (D.c.used + 1) } } ∧ ∀ b ∈ L.foot, b ∈ e0.lay.foot ∨ w.heap.size ≤ b) ∧ Touch (p :: e0.lay.foot) w w' := by
  have hlop : lo ≤ p := R.base p (by simp [DiskC.foot])
  have VO := V.touch R.off.2 (by simp; exact hlop)
  have RO := R.off.1
  have TO := R.off.2
  have hp := lt_of_block R.row
  have nbd : bd ≠ p := fun e => by subst e; rw [R.row] at hbd; simp [dRow] at hbd
  have nbb : bb ≠ p := fun e => by subst e; rw [R.row] at hbb; simp [dRow] at hbb
  have nbf : bf ≠ p := fun e => by subst e; rw [R.row] at hbf; simp [dRow] at hbf
  have obd : (w.setCell ⟨p, 2, none⟩ (.bool false)).heap[bd]? = some (.cells #[ptr p] 23 (0, 0)) := (TO.block bd (lt_of_block hbd) (by simp [nbd])).trans hbd
  have obb : (w.setCell ⟨p, 2, none⟩ (.bool false)).heap[bb]? = some (.cells #[.slice (some a) bl.length c] 31 (0, 0)) := (TO.block bb (lt_of_block hbb) (by simp [nbb])).trans hbb
  have obf : (w.setCell ⟨p, 2, none⟩ (.bool false)).heap[bf]? = some (.cells #[ptr e0.lay.fb] 76 (0, 0)) := (TO.block bf (lt_of_block hbf) (by simp [nbf])).trans hbf
  have hSO : Small D.off.pub := ⟨hS.calls, hS.reads, hS.appends, hS.full, hS.used, hS.files, hS.blocks, hS.size⟩
  have hz : (w.setCell ⟨p, 2, none⟩ (.bool false)).heap.size = w.heap.size := by simp [World.setCell]
  have hadd : ∀ j, (a.add j).block = a.block := fun j => by unfold Addr.add; split <;> rfl
  have hsrc' : ∀ (o : Obj) j v, (Lib.byteCells bl)[j]? = some v → ((w.setCell ⟨p, 2, none⟩ (.bool false)).alloc o).cell? (a.add j) = some v := fun o j v h => by
    rw [World.cell?_of_block (w := w.setCell ⟨p, 2, none⟩ (.bool false)) (Below.heap_alloc _ o _ (by rw [hadd, hz]; exact ha)), TO.cell (p := a.add j) (by rw [hadd]; exact ha) (by rw [hadd]; simp [hap])]
    exact hsrc j v h
  have H := hid (fun o : Obj => put1_any (RO.alloc o) y (by omega) bf bb bd hf hSO a c hbl hc (hsrc' o) (by simp [hz]; omega) (Nat.le_trans V.room (by simp [hz])) ((Below.heap_alloc _ o bf (lt_of_block obf)).trans obf) ((Below.heap_alloc _ o bb (lt_of_block obb)).trans obb) ((Below.heap_alloc _ o bd (lt_of_block obd)).trans obd))
  have HV := hid VO
  have HT := hid TO
  have HZ := hid hz
  have hF : Hid (∀ b ∈ p :: e0.lay.foot, lo ≤ b) := hid (fun b hb => by
    rcases List.mem_cons.1 hb with rfl | hb
    · exact hlop
    · exact R.base b (foot_ent hf b hb))
  have k2 := R.cell 2
  simp only [dRow] at k2
  have f2 := R.unfrozen 2
  clear hbd hbb hbf V VO RO TO obd obb obf nbd nbb nbf hf hS hSO hsrc hsrc' hadd hz ha hbl
  go_enter Tryd.func56, Tryd.ntmps56
  go_wp2_with (go_at_call 59; refine (H.out _).mono ?_; rintro e w1 ⟨rfl, ⟨L, hR, hL⟩, ht⟩; have c2 : w1.cell? ⟨2, 0, none⟩ = some (errV E 2) := (((HV.out.alloc _).touch ht hF.out).sents.var 2 (by omega)))
  go_ret
  have h1 : Touch (p :: e0.lay.foot) w w1 := (((HT.out.mono (by simp)).alloc _)).trans ht (fun b hb => .inl hb)
  refine ⟨rfl, ⟨L, hR, fun b hb => ?_⟩, h1⟩
  rcases hL b hb with h | h
  · exact .inl h
  · right; have := HZ.out; simp at h; omega

set_option maxRecDepth 100000 in
set_option maxHeartbeats 400000 in
theorem put_gen (V : Env w lo E) (R : Rep w lo p mf mt D) (s : ByteArray) (ho : D.on = true) (hn : nameB s = true) {e0 : Ent} (hf : findE D.ents (nm s) = some e0) (hs : e0.file.shut = false) {a : Addr} {c : Nat} (hu : D.c.used < D.Bs) {x k y : Int} (hT : TroubleIs D.T D.c.calls x k y) (h0 : 0 ≤ D.c.calls) (h1 : D.c.calls ≤ 1099511627776) {v : Value} {Post : World → World → Prop}
    (HC : ∀ (w2 : World) (bf bb bd : Nat), Env w2 lo E → Rep w2 lo p mf mt D.numbered → Touch [p, mt] w w2 → w2.heap[bf]? = some (.cells #[ptr e0.lay.fb] 76 (0, 0)) → w2.heap[bb]? = some (.cells #[.slice (some a) D.B c] 31 (0, 0)) → w2.heap[bd]? = some (.cells #[ptr p] 23 (0, 0)) →
      Calls Tryd.prog 56 #[ptr p, .agg #[.int .i64 x, .int .i64 k, .int .i64 y], .func (.func 59) #[] #[ptr bf, ptr bb, ptr bd]] w2 fun e w3 => e = .returned v ∧ Post w2 w3 ∧ Touch (p :: e0.lay.foot) w2 w3) :
    Calls Tryd.prog 43 #[ptr p, .string s, .slice (some a) D.B c] w fun e w' => e = .returned v ∧ (∃ w2, Touch [p, mt] w w2 ∧ Rep w2 lo p mf mt D.numbered ∧ Post w2 w') ∧ Touch (p :: mt :: e0.lay.foot) w w' := by
  obtain ⟨W, hW⟩ : ∃ W, W = (w.alloc (.cells #[ptr p] 23)).alloc (.cells #[.slice (some a) D.B c] 31) := ⟨_, rfl⟩
  have hW1 : W.heap[w.heap.size]? = some (.cells #[ptr p] 23) ∧ W.heap[w.heap.size + 1]? = some (.cells #[.slice (some a) D.B c] 31) := by rw [hW]; exact heap_two w _ _
  have hTW : Touch [] w W := by rw [hW]; exact ((Touch.refl [] w).alloc _).alloc _
  have RW : Rep W lo p mf mt D := R.touch hTW (by simp)
  have H := hid (find_some RW s ho hn hf)
  have hrow := (RW.each e0 (findE_mem hf).1).row
  have lfb := lt_of_block hrow
  have hp := lt_of_block RW.row
  have hpw := lt_of_block R.row
  have HR0 := hid R
  have hmw : mt < w.heap.size := R.lt mt (by simp [DiskC.foot])
  have c0 := cell_row hrow 0
  rw [hs] at c0
  simp at c0
  have x0 := RW.cell 0
  have x1 := RW.cell 1
  have x10 := RW.cell 10
  simp only [dRow] at x0 x1 x10
  have cd := cell_row hW1.1 0
  have cb := cell_row hW1.2 0
  have lz : w.heap.size + 1 < W.heap.size := lt_of_block hW1.2
  simp at cd cb
  have hnb : ((D.B : Int) != (D.B : Int)) = false := by simp
  have HE := hid hW
  have HTW := hid hTW
  have HR := hid RW
  have HF := hid hf
  have HV := hid (V.touch hTW (by simp))
  have HCC := hid HC
  have hlop : Hid (lo ≤ p ∧ lo ≤ mt) := hid ⟨R.base p (by simp [DiskC.foot]), R.base mt (by simp [DiskC.foot])⟩
  have HW := hid hW1
  clear hf R RW hW1 hTW hW hrow hs HC V
  go_enter Tryd.func43, Tryd.ntmps43
  go_wp2_with fail
  rw [← HE.out]
  refine H.out.mono ?_
  rintro e w1 ⟨rfl, hq⟩
  have d0 := (Quiet.cell hq _).trans c0
  have y0 := (Quiet.cell hq _).trans x0
  have y1 := (Quiet.cell hq _).trans x1
  have y10 := (Quiet.cell hq _).trans x10
  have yd := (Quiet.cell hq _).trans cd
  have yb := (Quiet.cell hq _).trans cb
  have ee := Quiet.heap hq
  have l1 : e0.lay.fb < w1.heap.size := by rw [ee]; exact lfb
  have l2 : p < w1.heap.size := by rw [ee]; exact hp
  have l3 : w.heap.size < w1.heap.size := by rw [ee]; omega
  have l4 : w.heap.size + 1 < w1.heap.size := by rw [ee]; omega
  have hb1 : Hid (w1.heap[w.heap.size]? = some (.cells #[ptr p] 23)) := (congrArg (fun h => h[w.heap.size]?) ee).trans HW.out.1
  have hb2 : Hid (w1.heap[w.heap.size + 1]? = some (.cells #[.slice (some a) D.B c] 31)) := (congrArg (fun h => h[w.heap.size + 1]?) ee).trans HW.out.2
  have HQ := hid hq
  clear hq ee c0 x0 x1 x10 cd cb lfb hp lz
  go_wp2
  go_quiet (fail)
  go_wp2
  go_quiet (fail)
  go_wp2
  go_region_held3 (fun W' => W'.cell? ⟨w.heap.size, 0, none⟩ = some (ptr p)) (go_keep)
    (first
      | (go_at_call 57; refine (number_any (((Quiet.rep HQ.out HR.out).alloc (.cells #[ptr e0.lay.fb] 76)).drewN _) hT h0 h1).mono ?_; rintro e w2 ⟨rfl, hR2, ht2⟩; have r0 := hid (put_row (o := .cells #[ptr e0.lay.fb] 76) hb1.out ht2 hpw hmw); have r1 := hid (put_row (o := .cells #[ptr e0.lay.fb] 76) hb2.out ht2 (by omega) (by omega)); have r2 := hid (put_new (o := .cells #[ptr e0.lay.fb] 76) ht2 l2 (by omega)); have z2 : w2.cell? ⟨w.heap.size, 0, none⟩ = some (ptr p) := cell_row r0.out 0)
      | (go_at_call 56; refine (HCC.out w2 _ _ _ ((((Quiet.env HQ.out HV.out).alloc _).drewN _).touch ht2 (by simp; exact hlop.out)) hR2 ((((((HTW.out.mono (by simp)).trans (Quiet.touch HQ.out []) (by simp))).alloc _).drewN _).trans ht2 (by simp)) r2.out r1.out r0.out).mono ?_; rintro e w3 ⟨rfl, hpost, ht3⟩; have z3 : w3.cell? ⟨w.heap.size, 0, none⟩ = some (ptr p) := (put_keeps HR0.out HF.out ht3 (lt_of_block r0.out)).trans z2))
  all_goals
    go_wp2
    go_ret
    have t2 : Touch [p, mt] w w2 := (((((HTW.out.mono (by simp)).trans (Quiet.touch HQ.out []) (by simp))).alloc _).drewN _).trans ht2 (by simp)
    exact ⟨rfl, ⟨w2, t2, hR2, hpost⟩, (t2.mono (by simp)).trans ht3 (fun b hb => by rcases List.mem_cons.1 hb with h | h <;> simp [h])⟩

set_option maxRecDepth 100000 in
set_option maxHeartbeats 400000 in
theorem Append_ok2 (V : Env w lo E) (R : Rep w lo p mf mt D) (s : ByteArray) (ho : D.on = true) (hn : nameB s = true) {e0 : Ent} (hf : findE D.ents (nm s) = some e0) (hs : e0.file.shut = false) {bl : List UInt8} {a : Addr} {c : Nat} (hbl : bl.length = D.B) (hc : bl.length ≤ c)
    (hsrc : ∀ j v, (Lib.byteCells bl)[j]? = some v → w.cell? (a.add j) = some v) (ha : a.block < w.heap.size) (hpl : a.block ≠ p) (hml : a.block ≠ mt) (hu : D.c.used < D.Bs) {x k y : Int} (hT : TroubleIs D.T D.c.calls x k y) (hk1 : (k == 1) = false) (hk2 : (k == 2) = false) (hS : Small D.pub) (hcc : D.c.calls + 1 ≤ 1099511627776) :
    Calls Tryd.prog 21 #[ptr p, .string s, .slice (some a) D.B c] w fun e w' => e = .returned (.int .i64 0) ∧
      (∃ L, Rep w' lo p mf mt { D.numbered with ents := setE (nm s) { e0.file with blocks := e0.file.blocks ++ [bl] } L D.ents, c := { D.numbered.c with appends := D.c.appends + 1, used := D.c.used + 1, most := max D.c.most (D.c.used + 1) } } ∧ ∀ b ∈ L.foot, b ∈ e0.lay.foot ∨ w.heap.size ≤ b) ∧ Touch (p :: mt :: e0.lay.foot) w w' := by
  have H := hid (put_ok R s ho hn hf hs hbl hc hsrc ha hpl hml V.room hu hT hk1 hk2 hS hcc)
  have hF : ∀ b ∈ p :: mt :: e0.lay.foot, lo ≤ b := fun b hb => by
    rcases List.mem_cons.1 hb with rfl | hb
    · exact R.base _ (by simp [DiskC.foot])
    · rcases List.mem_cons.1 hb with rfl | hb
      · exact R.base _ (by simp [DiskC.foot])
      · exact R.base b (foot_ent hf b hb)
  have hr := hS.appends
  simp only [DiskC.pub] at hr
  obtain ⟨hr1, hr2⟩ := hr
  have hp := lt_of_block R.row
  clear hf hs R hS hT hbl hsrc
  go_enter Tryd.func21, Tryd.ntmps21
  go_wp2_with (first
    | (go_at_call 43; refine H.out.mono ?_; rintro e w1 ⟨rfl, ⟨L, hR1, hL⟩, ht1⟩; have k7 := hR1.cell 7; have f7 := hR1.unfrozen 7; simp only [dRow, DiskC.numbered] at k7; have HR1 := hid hR1; have HV1 := hid (V.touch ht1 hF); have HT1 := hid ht1; have HL := hid hL; clear hR1 ht1 hL)
    | (go_at_call 41; refine (answer_nil (E := E) (p := p) ?_).mono ?_; exact (HV1.out.touch (F := [p]) ((Touch.refl [p] w1).setCell (p := ⟨p, 7, none⟩) (by simp) _) (fun b hb => hF b (by simp at hb; simp [hb]))).sents; rintro e w2 ⟨rfl, rfl⟩))
  go_ret
  have t1 : Touch [p] w1 (w1.setCell ⟨p, 7, none⟩ (.int .i64 (D.c.appends + 1))) := (Touch.refl [p] w1).setCell (by simp) _
  refine ⟨rfl, ⟨L, HR1.out.setRow rfl rfl rfl t1 ?_, HL.out⟩, HT1.out.trans t1 (by simp)⟩
  rw [heap_setCell_row HR1.out.row 7]
  rfl


set_option maxHeartbeats 400000 in
theorem Append_err2 {s : ByteArray} {sa : Option Addr} {n c : Nat} {j : Nat} {v : Int} {Post Post2 : World → Prop} (h : Calls Tryd.prog 43 #[ptr p, .string s, .slice sa n c] w fun e w' => e = .returned (errV E j) ∧ Post w')
    (ha : ∀ w1, Post w1 → Calls Tryd.prog 41 #[ptr p, errV E j] w1 fun e w' => e = .returned (.int .i64 v) ∧ Post2 w') :
    Calls Tryd.prog 21 #[ptr p, .string s, .slice sa n c] w fun e w' => e = .returned (.int .i64 v) ∧ Post2 w' := by
  have H := hid h
  have HA := hid ha
  clear h ha
  go_enter Tryd.func21, Tryd.ntmps21
  go_wp2_with (first | (go_at_call 43; refine H.out.mono ?_; rintro e w1 ⟨rfl, ht⟩; have HT := hid ht; clear ht) | (go_at_call 41; refine (HA.out _ HT.out).mono ?_; rintro e w2 ⟨rfl, hp⟩))
  go_ret
  exact ⟨rfl, hp⟩
end

end Go.Proofs.YtcpncfngadablaaDoor
namespace Go.Proofs.YtcpncfngadablaaDoor
open Go.RowKit Go.Deep

/-- What a cut may leave of an Append: the block's first bytes. -/
def PartA (s : ByteArray) (bl : List UInt8) (A A' : PubA) : Prop :=
  ∃ f m, findA A.files (nm s) = some f ∧ A' = { A with on := false, files := setA (nm s) { f with blocks := f.blocks ++ [cutB m bl] } A.files, c := { A.c with calls := A.c.calls + 1, used := A.c.used + 1, most := max A.c.most (A.c.used + 1) } }

section
variable {w w' : World} {E : Nat → Addr} {lo p mf mt : Nat} {D : DiskC}

theorem Append_t (V : Env w lo E) (R : Rep w lo p mf mt D) (ho : D.on = true) (hS : Small D.pub) (hfl : 0 ≤ D.c.faults ∧ D.c.faults ≤ 1099511627776) (hcc : D.c.calls + 1 ≤ 1099511627776) {x k y : Int} (hT : TroubleIs D.T D.c.calls x k y) (s : ByteArray) {sa : Option Addr} {n c : Nat} {bl : List UInt8} (hh : Hand w p mf mt D sa n c bl) :
    Calls Tryd.prog 21 #[ptr p, .string s, .slice sa n c] w fun e w' => ∃ v A', e = .returned (.int .i64 v) ∧ Did2 w w' lo p mf mt D A' ∧ Out D.pub (appendA s bl D.pub) (PartA s bl D.pub) v A' := by
  have hfp : findA D.pub.files (nm s) = (findE D.ents (nm s)).map Ent.file := find_pub _ _
  have err : ∀ (j : Nat) (r : Int), j < 11 → j ≠ 1 → j ≠ 9 → code j = r → appendA s bl D.pub = (r, D.pub) → (Calls Tryd.prog 43 #[ptr p, .string s, .slice sa n c] w fun e w' => e = .returned (errV E j) ∧ Touch [] w w') →
      Calls Tryd.prog 21 #[ptr p, .string s, .slice sa n c] w fun e w' => ∃ v A', e = .returned (.int .i64 v) ∧ Did2 w w' lo p mf mt D A' ∧ Out D.pub (appendA s bl D.pub) (PartA s bl D.pub) v A' := fun j r hj h1 h9 hcd hr h => by
    have h2 := Append_err2 (v := code j) (Post2 := fun w' => Did2 w w' lo p mf mt D D.pub) h fun w1 ht => (answer_err (V.touch ht (by simp)).sents j hj h1 h9).mono fun e w2 ⟨e1, e2⟩ => ⟨e1, by subst e2; exact Did2.same R ht⟩
    exact h2.mono fun e w' ⟨e1, e2⟩ => ⟨code j, D.pub, e1, e2, .inl (by rw [hr]; exact ⟨hcd, rfl⟩)⟩
  by_cases hn : nameB s = true
  · cases hf : findE D.ents (nm s) with
    | none =>
      exact err 4 12 (by omega) (by omega) (by omega) rfl (by unfold appendA; rw [if_pos hn, hfp, hf]; rfl) (put_err s 4 _ (fun o1 o2 => find_none ((V.alloc o1).alloc o2).sents ((R.alloc o1).alloc o2) s ho hn hf) rfl)
    | some e0 =>
      cases hs : e0.file.shut with
      | true => exact err 6 14 (by omega) (by omega) (by omega) rfl (by unfold appendA; rw [if_pos hn, hfp, hf]; simp [hs]) (put_no V R s ho hn hf 6 (.inl ⟨hs, rfl⟩))
      | false =>
        by_cases hl : bl.length = D.B
        · have hl' : ¬ bl.length ≠ D.pub.B := fun h => h hl
          by_cases hu : D.Bs ≤ D.c.used
          · have hu' : D.pub.Bs ≤ D.pub.c.used := hu
            have hr : appendA s bl D.pub = (17, { D.pub with c := { D.pub.c with full := D.pub.c.full + 1 } }) := by
              unfold appendA
              rw [if_pos hn, hfp, hf]
              simp only [Option.map_some, hs, Bool.false_eq_true, if_false]
              rw [if_neg hl', if_pos hu']
            have hnB : n = D.B := hh.len.symm.trans hl
            have h := Append_err2 (sa := sa) (c := c) (n := n) (s := s) (v := 17) (Post2 := fun w' => Did2 w w' lo p mf mt D { D.pub with c := { D.pub.c with full := D.pub.c.full + 1 } }) (put_no V R s ho hn hf 9 (.inr (.inr ⟨hs, hnB, hu, rfl⟩))) fun w1 ht => by
              have R1 := R.touch ht (by simp)
              have V1 := V.touch ht (by simp)
              refine (answer_full V1.sents R1 hS.full.1 hS.full.2 fun v => (V1.touch (F := [p]) ((Touch.refl [p] w1).setCell (p := ⟨p, 9, none⟩) (by simp) _) (fun b hb => by simp at hb; subst hb; exact R.base b (by simp [DiskC.foot]))).sents).mono fun e w2 ⟨e1, hR, ht2⟩ => ⟨e1, _, hR, rfl, .inl rfl, ?_, fun b hb => .inl hb⟩
              exact ((ht.mono (by simp)).trans ht2 (fun b hb => by simp at hb; subst hb; exact .inl (by simp [DiskC.foot])))
            exact h.mono fun e w' ⟨e1, e2⟩ => ⟨17, _, e1, e2, .inl (by rw [hr]; exact ⟨rfl, rfl⟩)⟩
          · have hu' : ¬ D.pub.Bs ≤ D.pub.c.used := hu
            have hr : appendA s bl D.pub = (0, { D.pub with files := setA (nm s) { e0.file with blocks := e0.file.blocks ++ [bl] } D.pub.files, c := { D.pub.c with calls := D.pub.c.calls + 1, appends := D.pub.c.appends + 1, used := D.pub.c.used + 1, most := max D.pub.c.most (D.pub.c.used + 1) } }) := by
              unfold appendA
              rw [if_pos hn, hfp, hf]
              simp only [Option.map_some, hs, Bool.false_eq_true, if_false]
              rw [if_neg hl', if_neg hu']
            have hB := hS.size
            simp only [DiskC.pub] at hB
            obtain ⟨a, rfl, ha, hout, hsrc⟩ := hh.at_ (by have := hh.len; omega)
            have hnB : n = D.B := hh.len.symm.trans hl
            subst hnB
            have hap : a.block ≠ p := fun e => hout (by simp [DiskC.foot, e])
            have ham : a.block ≠ mt := fun e => hout (by simp [DiskC.foot, e])
            have hG : ∀ b ∈ p :: mt :: e0.lay.foot, b ∈ D.foot p mf mt := fun b hb => by
              rcases List.mem_cons.1 hb with rfl | hb
              · simp [DiskC.foot]
              · rcases List.mem_cons.1 hb with rfl | hb
                · simp [DiskC.foot]
                · exact foot_ent hf b hb
            have hF : ∀ b ∈ p :: mt :: e0.lay.foot, lo ≤ b := fun b hb => R.base b (hG b hb)
            have hS2 := small_number hS hcc
            have hadd : ∀ j, (a.add j).block = a.block := fun j => by unfold Addr.add; split <;> rfl
            have hsr2 : ∀ w2, Touch [p, mt] w w2 → ∀ j v, (Lib.byteCells bl)[j]? = some v → w2.cell? (a.add j) = some v := fun w2 t j v h => by
              rw [t.cell (p := a.add j) (by rw [hadd]; exact ha) (by rw [hadd]; simp [hap, ham])]
              exact hsrc j v h
            by_cases k1 : k = 1
            · subst k1
              have hc := put_gen V R s ho hn hf hs (c := c) (a := a) (by omega) hT hS.calls.1 hS.calls.2 (v := errV E 1) (Post := fun w2 w3 => Touch [] w2 w3) fun w2 bf bb bd V2 R2 _ _ _ _ => (carry_fault V2 x y _).mono fun e w3 ⟨h1, h2⟩ => ⟨h1, h2, h2.mono (by simp)⟩
              have h := Append_err2 (v := 9) (Post2 := fun w' => Did2 w w' lo p mf mt D D.pub.faulted) hc fun w1 ⟨⟨w2, _, R2, t2⟩, t⟩ => by
                have R1 : Rep w1 lo p mf mt D.numbered := R2.touch t2 (by simp)
                refine (answer_fault (V.touch t hF) R1 hfl.1 hfl.2).mono fun e w' ⟨h1, h2, h3⟩ => ⟨h1, _, h2, rfl, .inr rfl, ?_, fun b hb => .inl hb⟩
                exact (t.mono hG).trans (h3.mono (G := D.foot p mf mt) (by simp [DiskC.foot])) (fun b hb => .inl hb)
              exact h.mono fun e w' ⟨h1, h2⟩ => ⟨9, _, h1, h2, .inr ⟨by rw [hr], .inl ⟨rfl, rfl⟩⟩⟩
            · by_cases k2 : k = 2
              · subst k2
                by_cases hy : 0 < y
                · have hc := put_gen V R s ho hn hf hs (c := c) (a := a) (by omega) hT hS.calls.1 hS.calls.2 (v := errV E 2) (Post := fun w2 w3 => ∃ L, Rep w3 lo p mf mt { D.numbered.off with ents := setE (nm s) { e0.file with blocks := e0.file.blocks ++ [cutB y.toNat bl] } L D.ents, c := { D.numbered.c with used := D.c.used + 1, most := max D.c.most (D.c.used + 1) } } ∧ ∀ b ∈ L.foot, b ∈ e0.lay.foot ∨ w2.heap.size ≤ b) fun w2 bf bb bd V2 R2 t2 hbf hbb hbd => by
                    rw [← hl] at hbb
                    exact carry_put_cut V2 R2 bf bb bd hy hf hS2 a c hl (by rw [hl]; exact hh.cap) (hsr2 w2 t2) (by have := t2.size; omega) hap hbf hbb hbd
                  have h := Append_err2 (v := 10) (Post2 := fun w' => Did2 w w' lo p mf mt D { D.pub with on := false, files := setA (nm s) { e0.file with blocks := e0.file.blocks ++ [cutB y.toNat bl] } D.pub.files, c := { D.pub.c with calls := D.pub.c.calls + 1, used := D.pub.c.used + 1, most := max D.pub.c.most (D.pub.c.used + 1) } }) hc fun w1 ⟨⟨w2, t2, _, L, R3, hL⟩, t⟩ => by
                    refine (answer_err (V.touch t hF).sents 2 (by omega) (by omega) (by omega)).mono fun e w' ⟨h1, h2⟩ => ?_
                    subst h2
                    refine ⟨h1, _, R3, ?_, .inr rfl, t.mono hG, foot_set hf rfl fun b hb => ?_⟩
                    · simp only [DiskC.pub, DiskC.numbered, set_pub]
                    · rcases hL b hb with h | h
                      · exact .inl h
                      · right; have := t2.size; omega
                  exact h.mono fun e w' ⟨h1, h2⟩ => ⟨10, _, h1, h2, .inr ⟨by rw [hr], .inr ⟨rfl, .inr ⟨e0.file, y.toNat, by rw [hfp, hf]; rfl, rfl⟩⟩⟩⟩
                · have hc := put_gen V R s ho hn hf hs (c := c) (a := a) (by omega) hT hS.calls.1 hS.calls.2 (v := errV E 2) (Post := fun w2 w3 => Rep w3 lo p mf mt D.numbered.off) fun w2 bf bb bd V2 R2 _ _ _ _ =>
                    (carry_cut0 V2 R2 x y (by omega) _).mono fun e w3 ⟨h1, h2, h3⟩ => ⟨h1, h2, h3.mono (by simp)⟩
                  have h := Append_err2 (v := 10) (Post2 := fun w' => Did2 w w' lo p mf mt D D.pub.shut) hc fun w1 ⟨⟨w2, _, _, R3⟩, t⟩ => by
                    refine (answer_err (V.touch t hF).sents 2 (by omega) (by omega) (by omega)).mono fun e w' ⟨h1, h2⟩ => ?_
                    subst h2
                    exact ⟨h1, _, R3, rfl, .inr rfl, t.mono hG, fun b hb => .inl hb⟩
                  exact h.mono fun e w' ⟨h1, h2⟩ => ⟨10, _, h1, h2, .inr ⟨by rw [hr], .inr ⟨rfl, .inl rfl⟩⟩⟩
              · have h := Append_ok2 V R s ho hn hf hs hl (by rw [hl]; exact hh.cap) hsrc ha hap ham (by omega) hT (by simp [k1]) (by simp [k2]) hS hcc
                refine h.mono fun e w1 ⟨h1, ⟨L, hR, hL⟩, ht⟩ => ⟨0, _, h1, ⟨_, hR, rfl, .inr rfl, ht.mono hG, foot_set hf rfl hL⟩, .inl ?_⟩
                rw [hr]
                refine ⟨rfl, ?_⟩
                simp only [DiskC.pub, DiskC.numbered, set_pub, hs]
        · have hl' : bl.length ≠ D.pub.B := hl
          exact err 8 16 (by omega) (by omega) (by omega) rfl (by
            unfold appendA
            rw [if_pos hn, hfp, hf]
            simp only [Option.map_some, hs, Bool.false_eq_true, if_false]
            rw [if_pos hl']) (put_no V R s ho hn hf 8 (.inr (.inl ⟨hs, fun h => hl (hh.len.trans h), rfl⟩)))
  · exact err 3 11 (by omega) (by omega) (by omega) rfl (by unfold appendA; rw [if_neg hn]) (put_err s 3 _ (fun o1 o2 => find_bad ((V.alloc o1).alloc o2).sents ((R.alloc o1).alloc o2) s ho (by simpa using hn)) rfl)
end

end Go.Proofs.YtcpncfngadablaaDoor
