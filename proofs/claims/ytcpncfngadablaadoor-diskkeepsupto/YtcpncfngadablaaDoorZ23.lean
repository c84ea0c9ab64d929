import Derived.Test.YtcpncfngadablaaDoorZ22
/-
  Delete under what befalls it: a fault does not.
-/
namespace Go.Proofs.YtcpncfngadablaaDoor
open Go.RowKit Go.Deep

section
variable {w w' : World} {E : Nat → Addr} {lo p mf mt : Nat} {D : DiskC}

set_option maxRecDepth 100000 in
set_option maxHeartbeats 400000 in
theorem carry_drop_cut (V : Env w lo E) (R : Rep w lo p mf mt D) {s : ByteArray} {a b : Int} (bd bn bf : Nat) (hb : 0 < b) (hs : s.size ≤ 32) {e0 : Ent} (hf : findE D.ents (nm s) = some e0) (hS : Small D.pub)
    (hbd : w.heap[bd]? = some (.cells #[ptr p] 23 (0, 0))) (hbn : w.heap[bn]? = some (.cells #[.string s] 9 (0, 0))) (hbf : w.heap[bf]? = some (.cells #[ptr e0.lay.fb] 76 (0, 0))) :
    Calls Tryd.prog 56 #[ptr p, .agg #[.int .i64 a, .int .i64 2, .int .i64 b], .func (.func 64) #[] #[ptr bd, ptr bn, ptr bf]] w fun e w' => e = .returned (errV E 2) ∧ Rep w' lo p mf mt { D.off with ents := dropE (nm s) D.ents, c := { D.c with used := D.c.used - e0.file.blocks.length, most := max D.c.most (D.c.used - e0.file.blocks.length) } } ∧ Touch [p, mf] w w' := by
  have hlop : lo ≤ p := R.base p (by simp [DiskC.foot])
  have hlom : lo ≤ mf := R.base mf (by simp [DiskC.foot])
  have VO := V.touch R.off.2 (by simp; exact hlop)
  have RO := R.off.1
  have TO := R.off.2
  have hp := lt_of_block R.row
  have nbd : bd ≠ p := fun e => by subst e; rw [R.row] at hbd; simp [dRow] at hbd
  have nbn : bn ≠ p := fun e => by subst e; rw [R.row] at hbn; simp [dRow] at hbn
  have nbf : bf ≠ p := fun e => by subst e; rw [R.row] at hbf; simp [dRow] at hbf
  have obd : (w.setCell ⟨p, 2, none⟩ (.bool false)).heap[bd]? = some (.cells #[ptr p] 23 (0, 0)) := (TO.block bd (lt_of_block hbd) (by simp [nbd])).trans hbd
  have obn : (w.setCell ⟨p, 2, none⟩ (.bool false)).heap[bn]? = some (.cells #[.string s] 9 (0, 0)) := (TO.block bn (lt_of_block hbn) (by simp [nbn])).trans hbn
  have obf : (w.setCell ⟨p, 2, none⟩ (.bool false)).heap[bf]? = some (.cells #[ptr e0.lay.fb] 76 (0, 0)) := (TO.block bf (lt_of_block hbf) (by simp [nbf])).trans hbf
  have hSO : Small D.off.pub := ⟨hS.calls, hS.reads, hS.appends, hS.full, hS.used, hS.files, hS.blocks, hS.size⟩
  have H := hid (fun o : Obj => drop1_any (RO.alloc o) b bd bn bf hs hf hSO ((Below.heap_alloc _ o bd (lt_of_block obd)).trans obd) ((Below.heap_alloc _ o bn (lt_of_block obn)).trans obn) ((Below.heap_alloc _ o bf (lt_of_block obf)).trans obf))
  have HV := hid VO
  have HT := hid TO
  have hF : Hid (∀ b ∈ [p, mf], lo ≤ b) := hid (by simp; exact ⟨hlop, hlom⟩)
  have k2 := R.cell 2
  simp only [dRow] at k2
  have f2 := R.unfrozen 2
  clear hbd hbn hbf V VO RO TO obd obn obf nbd nbn nbf hf hS hSO
  go_enter Tryd.func56, Tryd.ntmps56
  go_wp2_with (go_at_call 64; refine (H.out _).mono ?_; rintro e w1 ⟨rfl, hR, ht⟩; have c2 : w1.cell? ⟨2, 0, none⟩ = some (errV E 2) := (((HV.out.alloc _).touch ht hF.out).sents.var 2 (by omega)))
  go_ret
  have h1 : Touch [p, mf] w w1 := (((HT.out.mono (by simp)).alloc _)).trans ht (by simp)
  exact ⟨rfl, hR, h1⟩

set_option maxRecDepth 100000 in
set_option maxHeartbeats 400000 in
theorem drop_gen (V : Env w lo E) (R : Rep w lo p mf mt D) (s : ByteArray) (ho : D.on = true) (hn : nameB s = true) {e0 : Ent} (hf : findE D.ents (nm s) = some e0) {a k b : Int} (hT : TroubleIs D.T D.c.calls a k b) (h0 : 0 ≤ D.c.calls) (h1 : D.c.calls ≤ 1099511627776) {v : Value} {Post : World → World → Prop}
    (HC : ∀ (w2 : World) (bd bn bf : Nat), Env w2 lo E → Rep w2 lo p mf mt D.numbered → w.heap.size ≤ w2.heap.size → w2.heap[bd]? = some (.cells #[ptr p] 23 (0, 0)) → w2.heap[bn]? = some (.cells #[.string s] 9 (0, 0)) → w2.heap[bf]? = some (.cells #[ptr e0.lay.fb] 76 (0, 0)) →
      Calls Tryd.prog 56 #[ptr p, .agg (if k = 1 then #[.int .i64 0, .int .i64 0, .int .i64 0] else #[.int .i64 a, .int .i64 k, .int .i64 b]), .func (.func 64) #[] #[ptr bd, ptr bn, ptr bf]] w2 fun e w3 => e = .returned v ∧ Post w2 w3 ∧ Touch [p, mf] w2 w3) :
    Calls Tryd.prog 46 #[ptr p, .string s] w fun e w' => e = .returned v ∧ (∃ w2, w.heap.size ≤ w2.heap.size ∧ Rep w2 lo p mf mt D.numbered ∧ Post w2 w') ∧ Touch [p, mf, mt] w w' := by
  obtain ⟨W, hW⟩ : ∃ W, W = (w.alloc (.cells #[ptr p] 23)).alloc (.cells #[.string s] 9) := ⟨_, rfl⟩
  have hW1 : W.heap[w.heap.size]? = some (.cells #[ptr p] 23) ∧ W.heap[w.heap.size + 1]? = some (.cells #[.string s] 9) := by rw [hW]; exact heap_two w _ _
  have hTW : Touch [] w W := by rw [hW]; exact ((Touch.refl [] w).alloc _).alloc _
  have RW : Rep W lo p mf mt D := R.touch hTW (by simp)
  have VW : Env W lo E := V.touch hTW (by simp)
  have H := hid (find_some RW s ho hn hf)
  have HR := hid RW
  have HV := hid VW
  have HW := hid hW1
  have HTW := hid hTW
  have HE := hid hW
  have HCC := hid HC
  have hp := lt_of_block R.row
  have hmf := R.files.lt
  have hmt : mt < w.heap.size := R.lt mt (by simp [DiskC.foot])
  have hlop : Hid (lo ≤ p ∧ lo ≤ mt) := hid ⟨R.base p (by simp [DiskC.foot]), R.base mt (by simp [DiskC.foot])⟩
  clear hf R RW hW1 hTW hW V VW HC
  go_enter Tryd.func46, Tryd.ntmps46
  go_wp2_with fail
  rw [← HE.out]
  refine H.out.mono ?_
  rintro e w1 ⟨rfl, hq⟩
  have l1 : w.heap.size + 1 < w1.heap.size := by rw [Quiet.heap hq]; exact lt_of_block HW.out.2
  have cd : w1.cell? ⟨w.heap.size, 0, none⟩ = some (ptr p) := (Quiet.cell hq _).trans (cell_row HW.out.1 0)
  have cn : w1.cell? ⟨w.heap.size + 1, 0, none⟩ = some (.string s) := (Quiet.cell hq _).trans (cell_row HW.out.2 0)
  have l0 : w.heap.size < w1.heap.size := by omega
  have HL := hid l1
  have HQ := hid hq
  clear hq l1
  go_wp2_with fail
  refine (number_any ((Quiet.rep HQ.out HR.out).alloc (.cells #[ptr e0.lay.fb] 76)) hT h0 h1).mono ?_
  rintro e w2 ⟨rfl, hR2, ht2⟩
  have q0 : w1.heap[w.heap.size]? = some (.cells #[ptr p] 23) := by rw [Quiet.heap HQ.out]; exact HW.out.1
  have q1 : w1.heap[w.heap.size + 1]? = some (.cells #[.string s] 9) := by rw [Quiet.heap HQ.out]; exact HW.out.2
  have r0 := hid (kept_row ((Below.heap_alloc w1 (.cells #[ptr e0.lay.fb] 76) _ l0).trans q0) ht2 (by simp; omega))
  have r1 := hid (kept_row ((Below.heap_alloc w1 (.cells #[ptr e0.lay.fb] 76) _ HL.out).trans q1) ht2 (by simp; omega))
  have r2 := hid (kept_row (heap_alloc_new w1 (.cells #[ptr e0.lay.fb] 76)) ht2 (by simp; omega))
  have cd2 : w2.cell? ⟨w.heap.size, 0, none⟩ = some (ptr p) := cell_row r0.out 0
  have l2 : w.heap.size < w2.heap.size := lt_of_block r0.out
  have t2 : Touch [p, mt] w w2 := ((((HTW.out.mono (by simp)).trans (Quiet.touch HQ.out []) (by simp))).alloc _).trans ht2 (by simp)
  have HT2 := hid t2
  have HV2 := hid (((Quiet.env HQ.out HV.out).alloc (.cells #[ptr e0.lay.fb] 76)).touch ht2 (by simp; exact hlop.out))
  have HCW := hid (fun (o : Obj) => HCC.out (w2.alloc o) _ _ _ (HV2.out.alloc o) (hR2.alloc o) (Nat.le_trans t2.size (by simp)) ((Below.heap_alloc _ o _ (lt_of_block r0.out)).trans r0.out) ((Below.heap_alloc _ o _ (lt_of_block r1.out)).trans r1.out) ((Below.heap_alloc _ o _ (lt_of_block r2.out)).trans r2.out))
  clear q0 q1 cd cn t2 ht2
  by_cases k1 : k = 1
  · subst k1
    simp only [if_true] at HCW
    go_wp2_with (go_at_call 56; refine (HCW.out _).mono ?_; rintro e w3 ⟨rfl, hpost, ht3⟩)
    go_ret
    exact ⟨rfl, ⟨_, Nat.le_trans HT2.out.size (by simp), hR2.alloc _, hpost⟩, ((HT2.out.mono (by simp)).alloc _).trans ht3 (by simp)⟩
  · have hk1 : (k == 1) = false := by simp [k1]
    simp only [k1, if_false] at HCW
    go_wp2_with (go_at_call 56; refine (HCW.out _).mono ?_; rintro e w3 ⟨rfl, hpost, ht3⟩)
    go_ret
    exact ⟨rfl, ⟨_, Nat.le_trans HT2.out.size (by simp), hR2.alloc _, hpost⟩, ((HT2.out.mono (by simp)).alloc _).trans ht3 (by simp)⟩

set_option maxHeartbeats 400000 in
theorem Delete_of2 {ev : Value} {s : ByteArray} {Post Post2 : World → Prop} (h : Calls Tryd.prog 46 #[ptr p, .string s] w fun e w' => e = .returned ev ∧ Post w') {v : Int}
    (ha : ∀ w1, Post w1 → Calls Tryd.prog 41 #[ptr p, ev] w1 fun e w' => e = .returned (.int .i64 v) ∧ Post2 w') :
    Calls Tryd.prog 25 #[ptr p, .string s] w fun e w' => e = .returned (.int .i64 v) ∧ Post2 w' := by
  have H := hid h
  have HA := hid ha
  clear h ha
  go_enter Tryd.func25, Tryd.ntmps25
  go_wp2_with (first | (go_at_call 46; refine H.out.mono ?_; rintro e w1 ⟨rfl, hp⟩) | (go_at_call 41; refine (HA.out _ hp).mono ?_; rintro e w2 ⟨rfl, hq⟩))
  go_ret
  exact ⟨rfl, hq⟩

theorem Delete_t (V : Env w lo E) (R : Rep w lo p mf mt D) (ho : D.on = true) (hS : Small D.pub) (hcc : D.c.calls + 1 ≤ 1099511627776) {a k b : Int} (hT : TroubleIs D.T D.c.calls a k b) (s : ByteArray) :
    Calls Tryd.prog 25 #[ptr p, .string s] w fun e w' => ∃ v A', e = .returned (.int .i64 v) ∧ Did2 w w' lo p mf mt D A' ∧ Out D.pub (deleteA s D.pub) (fun A' => A' = { (deleteA s D.pub).2 with on := false }) v A' := by
  have hfp : findA D.pub.files (nm s) = (findE D.ents (nm s)).map Ent.file := find_pub _ _
  have F3 := foot3 R
  have hF : ∀ b ∈ [p, mf, mt], lo ≤ b := fun b hb => (F3 b hb).2
  have hG : ∀ b ∈ [p, mf, mt], b ∈ D.foot p mf mt := fun b hb => (F3 b hb).1
  by_cases hn : nameB s = true
  · cases hf : findE D.ents (nm s) with
    | none =>
      have hr : deleteA s D.pub = (12, D.pub) := by unfold deleteA; rw [if_pos hn, hfp, hf]; rfl
      have h := Delete_of (i := some 4) (drop_err s 4 fun o1 o2 => find_none ((V.alloc o1).alloc o2).sents ((R.alloc o1).alloc o2) s ho hn hf) (v := 12) fun w1 ht => answer_err (V.touch ht (by simp)).sents 4 (by omega) (by omega) (by omega)
      exact h.mono fun e w1 ⟨h1, h2⟩ => ⟨12, D.pub, h1, Did2.same R h2, .inl (by rw [hr]; exact ⟨rfl, rfl⟩)⟩
    | some e0 =>
      have hr1 : (deleteA s D.pub).1 = 0 := by unfold deleteA; rw [if_pos hn, hfp, hf]; rfl
      have hpub : ({ D.numbered with ents := dropE (nm s) D.ents, c := { D.numbered.c with used := D.c.used - e0.file.blocks.length, most := max D.c.most (D.c.used - e0.file.blocks.length) } } : DiskC).pub = (deleteA s D.pub).2 := by
        unfold deleteA
        rw [if_pos hn, hfp, hf]
        simp only [DiskC.pub, DiskC.numbered, drop_pub]
        rfl
      have hS2 := small_number hS hcc
      by_cases k2 : k = 2
      · subst k2
        by_cases hb : 0 < b
        · have hc := drop_gen V R s ho hn hf hT hS.calls.1 hS.calls.2 (v := errV E 2) (Post := fun w2 w3 => Rep w3 lo p mf mt { D.numbered.off with ents := dropE (nm s) D.ents, c := { D.numbered.c with used := D.c.used - e0.file.blocks.length, most := max D.c.most (D.c.used - e0.file.blocks.length) } }) fun w2 bd bn bf V2 R2 _ hbd hbn hbf => by
            rw [if_neg (by decide)]
            exact carry_drop_cut V2 R2 bd bn bf hb (name_size hn) hf hS2 hbd hbn hbf
          have h := Delete_of2 (v := 10) (Post2 := fun w' => Did2 w w' lo p mf mt D { (deleteA s D.pub).2 with on := false }) hc fun w1 ⟨⟨w2, hz, _, R3⟩, t⟩ => by
            refine (answer_err (V.touch t hF).sents 2 (by omega) (by omega) (by omega)).mono fun e w' ⟨h1, h2⟩ => ?_
            subst h2
            refine ⟨h1, _, R3, ?_, .inr rfl, t.mono hG, foot_drop rfl⟩
            rw [← hpub]
            rfl
          exact h.mono fun e w' ⟨h1, h2⟩ => ⟨10, _, h1, h2, .inr ⟨hr1, .inr ⟨rfl, .inr rfl⟩⟩⟩
        · have hc := drop_gen V R s ho hn hf hT hS.calls.1 hS.calls.2 (v := errV E 2) (Post := fun w2 w3 => Rep w3 lo p mf mt D.numbered.off) fun w2 bd bn bf V2 R2 _ _ _ _ => by
            rw [if_neg (by decide)]
            exact (carry_cut0 V2 R2 a b (by omega) _).mono fun e w3 ⟨h1, h2, h3⟩ => ⟨h1, h2, h3.mono (by simp)⟩
          have h := Delete_of2 (v := 10) (Post2 := fun w' => Did2 w w' lo p mf mt D D.pub.shut) hc fun w1 ⟨⟨w2, hz, _, R3⟩, t⟩ => by
            refine (answer_err (V.touch t hF).sents 2 (by omega) (by omega) (by omega)).mono fun e w' ⟨h1, h2⟩ => ?_
            subst h2
            exact ⟨h1, _, R3, rfl, .inr rfl, t.mono hG, fun b hb => .inl hb⟩
          exact h.mono fun e w' ⟨h1, h2⟩ => ⟨10, _, h1, h2, .inr ⟨hr1, .inr ⟨rfl, .inl rfl⟩⟩⟩
      · have hc := drop_gen V R s ho hn hf hT hS.calls.1 hS.calls.2 (v := .nilIface) (Post := fun w2 w3 => Rep w3 lo p mf mt { D.numbered with ents := dropE (nm s) D.ents, c := { D.numbered.c with used := D.c.used - e0.file.blocks.length, most := max D.c.most (D.c.used - e0.file.blocks.length) } }) fun w2 bd bn bf V2 R2 _ hbd hbn hbf => by
          by_cases k1 : k = 1
          · rw [if_pos k1]
            exact carry_drop R2 bd bn bf (by decide) (by decide) (name_size hn) hf hS2 hbd hbn hbf
          · rw [if_neg k1]
            exact carry_drop R2 bd bn bf (by simp [k1]) (by simp [k2]) (name_size hn) hf hS2 hbd hbn hbf
        have h := Delete_of2 (v := 0) (Post2 := fun w' => Did2 w w' lo p mf mt D (deleteA s D.pub).2) hc fun w1 ⟨⟨w2, hz, _, R3⟩, t⟩ => by
          refine (answer_nil (V.touch t hF).sents).mono fun e w' ⟨h1, h2⟩ => ?_
          subst h2
          exact ⟨h1, _, R3, hpub, .inr rfl, t.mono hG, foot_drop rfl⟩
        exact h.mono fun e w' ⟨h1, h2⟩ => ⟨0, _, h1, h2, .inl ⟨hr1.symm, rfl⟩⟩
  · have hr : deleteA s D.pub = (11, D.pub) := by unfold deleteA; rw [if_neg hn]
    have h := Delete_of (i := some 3) (drop_err s 3 fun o1 o2 => find_bad ((V.alloc o1).alloc o2).sents ((R.alloc o1).alloc o2) s ho (by simpa using hn)) (v := 11) fun w1 ht => answer_err (V.touch ht (by simp)).sents 3 (by omega) (by omega) (by omega)
    exact h.mono fun e w1 ⟨h1, h2⟩ => ⟨11, D.pub, h1, Did2.same R h2, .inl (by rw [hr]; exact ⟨rfl, rfl⟩)⟩
end

end Go.Proofs.YtcpncfngadablaaDoor
