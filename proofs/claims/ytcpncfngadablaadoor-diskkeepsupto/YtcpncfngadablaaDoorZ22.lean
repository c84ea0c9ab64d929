import Derived.Test.YtcpncfngadablaaDoorZ21
/-
  What is told of a fault; Create whole, under what befalls it.
-/
namespace Go.Proofs.YtcpncfngadablaaDoor
open Go.RowKit Go.Deep

abbrev DiskC.faulted (D : DiskC) : DiskC := { D with c := { D.c with faults := D.c.faults + 1 } }
abbrev PubA.faulted (A : PubA) : PubA := { A with c := { A.c with calls := A.c.calls + 1, faults := A.c.faults + 1 } }
abbrev PubA.shut (A : PubA) : PubA := { A with on := false, c := { A.c with calls := A.c.calls + 1 } }

/-- What a call may answer, and what is held then: r is what it answers if nothing befalls it; part: what a cut may leave of it. -/
def Out (A : PubA) (r : Int × PubA) (part : PubA → Prop) (v : Int) (A' : PubA) : Prop :=
  (v = r.1 ∧ A' = r.2) ∨ (r.1 = 0 ∧ ((v = 9 ∧ A' = A.faulted) ∨ (v = 10 ∧ (A' = A.shut ∨ part A'))))

/-- A call of the disk has been made, whatever befell it. -/
def Did2 (w w' : World) (lo p mf mt : Nat) (D : DiskC) (A' : PubA) : Prop :=
  ∃ D', Rep w' lo p mf mt D' ∧ D'.pub = A' ∧ (D'.T = D.T ∨ D'.T = D.T.del (.int .i64 D.c.calls)) ∧ Touch (D.foot p mf mt) w w' ∧ ∀ b ∈ D'.foot p mf mt, b ∈ D.foot p mf mt ∨ w.heap.size ≤ b

section
variable {w w' : World} {E : Nat → Addr} {lo p mf mt : Nat} {D : DiskC}

theorem Did2.same (R : Rep w lo p mf mt D) (ht : Touch [] w w') : Did2 w w' lo p mf mt D D.pub :=
  ⟨D, R.touch ht (by simp), rfl, .inl rfl, ht.mono (by simp), fun _ h => .inl h⟩

theorem Rep.fault (R : Rep w lo p mf mt D) : Rep (w.setCell ⟨p, 8, none⟩ (.int .i64 (D.c.faults + 1))) lo p mf mt D.faulted ∧ Touch [p] w (w.setCell ⟨p, 8, none⟩ (.int .i64 (D.c.faults + 1))) := by
  have ht : Touch [p] w (w.setCell ⟨p, 8, none⟩ (.int .i64 (D.c.faults + 1))) := (Touch.refl [p] w).setCell (by simp) _
  refine ⟨R.setRow rfl rfl rfl ht ?_, ht⟩
  rw [heap_setCell_row R.row 8]
  rfl

set_option maxHeartbeats 400000 in
theorem answer_fault (V : Env w lo E) (R : Rep w lo p mf mt D) (h0 : 0 ≤ D.c.faults) (h1 : D.c.faults ≤ 1099511627776) :
    Calls Tryd.prog 41 #[ptr p, errV E 1] w fun e w' => e = .returned (.int .i64 9) ∧ Rep w' lo p mf mt D.faulted ∧ Touch [p] w w' := by
  have hlop : lo ≤ p := R.base p (by simp [DiskC.foot])
  have VF := V.touch R.fault.2 (by simp; exact hlop)
  have c1 := V.sents.var 1 (by omega)
  have k8 := R.cell 8
  simp only [dRow] at k8
  have f8 := R.unfrozen 8
  have H1 := hid (is_at V.sents 1 1 (by omega) (by omega))
  have HT := hid (tell_err VF.sents 1 (by omega))
  have HR := hid R.fault
  clear V VF R
  go_enter Tryd.func41, Tryd.ntmps41
  go_wp2_with fail
  refine H1.out.mono ?_
  rintro e w1 ⟨rfl, rfl⟩
  go_wp2_with fail
  refine HT.out.mono ?_
  rintro e w1 ⟨rfl, rfl⟩
  go_wp2
  go_ret
  exact ⟨rfl, HR.out.1, HR.out.2⟩

set_option maxHeartbeats 400000 in
theorem Create_of2 {ev : Value} {s : ByteArray} {Post Post2 : World → Prop} (h : Calls Tryd.prog 42 #[ptr p, .string s] w fun e w' => e = .returned ev ∧ Post w') {v : Int}
    (ha : ∀ w1, Post w1 → Calls Tryd.prog 41 #[ptr p, ev] w1 fun e w' => e = .returned (.int .i64 v) ∧ Post2 w') :
    Calls Tryd.prog 19 #[ptr p, .string s] w fun e w' => e = .returned (.int .i64 v) ∧ Post2 w' := by
  have H := hid h
  have HA := hid ha
  clear h ha
  go_enter Tryd.func19, Tryd.ntmps19
  go_wp2_with (first | (go_at_call 42; refine H.out.mono ?_; rintro e w1 ⟨rfl, hp⟩) | (go_at_call 41; refine (HA.out _ hp).mono ?_; rintro e w2 ⟨rfl, hq⟩))
  go_ret
  exact ⟨rfl, hq⟩
end

end Go.Proofs.YtcpncfngadablaaDoor
namespace Go.Proofs.YtcpncfngadablaaDoor
open Go.RowKit Go.Deep

section
variable {w w' : World} {E : Nat → Addr} {lo p mf mt : Nat} {D : DiskC}

theorem foot3 (R : Rep w lo p mf mt D) : ∀ b ∈ [p, mf, mt], b ∈ D.foot p mf mt ∧ lo ≤ b := fun b hb => by
  have h : b ∈ D.foot p mf mt := by simp at hb; rcases hb with rfl | rfl | rfl <;> simp [DiskC.foot]
  exact ⟨h, R.base b h⟩

theorem Create_t (V : Env w lo E) (R : Rep w lo p mf mt D) (ho : D.on = true) (hS : Small D.pub) (hfl : 0 ≤ D.c.faults ∧ D.c.faults ≤ 1099511627776) {a k b : Int} (hT : TroubleIs D.T D.c.calls a k b) (s : ByteArray) :
    Calls Tryd.prog 19 #[ptr p, .string s] w fun e w' => ∃ v A', e = .returned (.int .i64 v) ∧ Did2 w w' lo p mf mt D A' ∧ Out D.pub (createA s D.pub) (fun A' => A' = { (createA s D.pub).2 with on := false }) v A' := by
  have hfp : findA D.pub.files (nm s) = (findE D.ents (nm s)).map Ent.file := find_pub _ _
  have F3 := foot3 R
  have hF : ∀ b ∈ [p, mf, mt], lo ≤ b := fun b hb => (F3 b hb).2
  have hG : ∀ b ∈ [p, mf, mt], b ∈ D.foot p mf mt := fun b hb => (F3 b hb).1
  by_cases hn : nameB s = true
  · cases hf : findE D.ents (nm s) with
    | some e0 =>
      have hr : createA s D.pub = (13, D.pub) := by unfold createA; rw [if_pos hn, hfp, hf]; rfl
      have h := Create_of (i := some 5) (create_there V R s ho hn hf) (v := 13) fun w1 ht => answer_err (V.touch ht (by simp)).sents 5 (by omega) (by omega) (by omega)
      exact h.mono fun e w1 ⟨h1, h2⟩ => ⟨13, D.pub, h1, Did2.same R h2, .inl (by rw [hr]; exact ⟨rfl, rfl⟩)⟩
    | none =>
      have hr : createA s D.pub = (0, { D.pub with files := insA (nm s, ⟨false, []⟩) D.pub.files, c := { D.pub.c with calls := D.pub.c.calls + 1 } }) := by unfold createA; rw [if_pos hn, hfp, hf]; rfl
      have hfl' : D.ents.length ≤ 1099511627776 := by have := hS.files; simpa [DiskC.pub] using this
      by_cases k1 : k = 1
      · subst k1
        have hc := create_gen V R s ho hn hf hT hS.calls.1 hS.calls.2 (v := errV E 1) (Post := fun w2 w3 => Touch [] w2 w3) fun w2 bd bn V2 R2 _ _ _ => (carry_fault V2 a b _).mono fun e w3 ⟨h1, h2⟩ => ⟨h1, h2, h2.mono (by simp)⟩
        have h := Create_of2 (v := 9) (Post2 := fun w' => Did2 w w' lo p mf mt D D.pub.faulted) hc fun w1 ⟨⟨w2, hz, R2, t2⟩, t⟩ => by
          have R1 : Rep w1 lo p mf mt D.numbered := R2.touch t2 (by simp)
          refine (answer_fault (V.touch t hF) R1 hfl.1 hfl.2).mono fun e w' ⟨h1, h2, h3⟩ => ⟨h1, _, h2, rfl, .inr rfl, ?_, fun b hb => .inl hb⟩
          exact (t.mono hG).trans (h3.mono (G := D.foot p mf mt) (by simp [DiskC.foot])) (fun b hb => .inl hb)
        exact h.mono fun e w' ⟨h1, h2⟩ => ⟨9, _, h1, h2, .inr ⟨by rw [hr], .inl ⟨rfl, rfl⟩⟩⟩
      · by_cases k2 : k = 2
        · subst k2
          by_cases hb : 0 < b
          · have hc := create_gen V R s ho hn hf hT hS.calls.1 hS.calls.2 (v := errV E 2) (Post := fun w2 w3 => ∃ fb, w2.heap.size ≤ fb ∧ Rep w3 lo p mf mt { D.numbered.off with ents := insE ⟨nm s, ⟨false, []⟩, ⟨fb, .slice none 0 0, []⟩⟩ D.ents }) fun w2 bd bn V2 R2 _ hbd hbn =>
              carry_create_cut V2 R2 bd bn hb (name_size hn) hf hfl' hbd hbn
            have h := Create_of2 (v := 10) (Post2 := fun w' => Did2 w w' lo p mf mt D { (createA s D.pub).2 with on := false }) hc fun w1 ⟨⟨w2, hz, _, fb, hfb, R3⟩, t⟩ => by
              refine (answer_err (V.touch t hF).sents 2 (by omega) (by omega) (by omega)).mono fun e w' ⟨h1, h2⟩ => ?_
              subst h2
              refine ⟨h1, _, R3, ?_, .inr rfl, t.mono hG, foot_insert rfl (by simp [Lay.foot, Value.ownBlock]; omega)⟩
              rw [hr]
              simp only [DiskC.pub, DiskC.numbered, ins_pub]
              rfl
            exact h.mono fun e w' ⟨h1, h2⟩ => ⟨10, _, h1, h2, .inr ⟨by rw [hr], .inr ⟨rfl, .inr rfl⟩⟩⟩
          · have hc := create_gen V R s ho hn hf hT hS.calls.1 hS.calls.2 (v := errV E 2) (Post := fun w2 w3 => Rep w3 lo p mf mt D.numbered.off) fun w2 bd bn V2 R2 _ _ _ =>
              (carry_cut0 V2 R2 a b (by omega) _).mono fun e w3 ⟨h1, h2, h3⟩ => ⟨h1, h2, h3.mono (by simp)⟩
            have h := Create_of2 (v := 10) (Post2 := fun w' => Did2 w w' lo p mf mt D D.pub.shut) hc fun w1 ⟨⟨w2, hz, _, R3⟩, t⟩ => by
              refine (answer_err (V.touch t hF).sents 2 (by omega) (by omega) (by omega)).mono fun e w' ⟨h1, h2⟩ => ?_
              subst h2
              exact ⟨h1, _, R3, rfl, .inr rfl, t.mono hG, fun b hb => .inl hb⟩
            exact h.mono fun e w' ⟨h1, h2⟩ => ⟨10, _, h1, h2, .inr ⟨by rw [hr], .inr ⟨rfl, .inl rfl⟩⟩⟩
        · have hc := create_ok V R s ho hn hf hT (by simp [k1]) (by simp [k2]) hS.calls.1 hS.calls.2 hfl'
          have h := Create_of2 (v := 0) (Post2 := fun w' => Did2 w w' lo p mf mt D (createA s D.pub).2) hc fun w1 ⟨⟨fb, hfb, R3⟩, t⟩ => by
            refine (answer_nil (V.touch t hF).sents).mono fun e w' ⟨h1, h2⟩ => ?_
            subst h2
            refine ⟨h1, _, R3, ?_, .inr rfl, t.mono hG, foot_insert rfl (by simp [Lay.foot, Value.ownBlock]; omega)⟩
            rw [hr]
            simp only [DiskC.pub, DiskC.numbered, ins_pub]
            rfl
          exact h.mono fun e w' ⟨h1, h2⟩ => ⟨0, _, h1, h2, .inl (by rw [hr]; exact ⟨rfl, rfl⟩)⟩
  · have hr : createA s D.pub = (11, D.pub) := by unfold createA; rw [if_neg hn]
    have h := Create_of (i := some 3) (create_bad V R s ho (by simpa using hn)) (v := 11) fun w1 ht => answer_err (V.touch ht (by simp)).sents 3 (by omega) (by omega) (by omega)
    exact h.mono fun e w1 ⟨h1, h2⟩ => ⟨11, D.pub, h1, Did2.same R h2, .inl (by rw [hr]; exact ⟨rfl, rfl⟩)⟩
end

end Go.Proofs.YtcpncfngadablaaDoor
/-
  Seal under what befalls it.
-/
namespace Go.Proofs.YtcpncfngadablaaDoor
open Go.RowKit Go.Deep

section
variable {w w' : World} {E : Nat → Addr} {lo p mf mt : Nat} {D : DiskC}

set_option maxRecDepth 100000 in
set_option maxHeartbeats 400000 in
theorem carry_seal_cut (V : Env w lo E) (R : Rep w lo p mf mt D) {a b : Int} (bf fb : Nat) (hb : 0 < b) {v : Value} {sv : Value} (hlf : lo ≤ fb) (hnp : fb ≠ p) (hbf : w.heap[bf]? = some (.cells #[ptr fb] 76 (0, 0))) (hfb : w.heap[fb]? = some (.cells #[v, sv] 97 (0, 0))) :
    Calls Tryd.prog 56 #[ptr p, .agg #[.int .i64 a, .int .i64 2, .int .i64 b], .func (.func 61) #[] #[ptr bf]] w fun e w' => e = .returned (errV E 2) ∧
      ∃ w1, Rep w1 lo p mf mt D.off ∧ Touch [p] w w1 ∧ Touch [fb] w1 w' ∧ w'.heap[fb]? = some (.cells #[.int .i64 1, sv] 97 (0, 0)) := by
  have hlop : lo ≤ p := R.base p (by simp [DiskC.foot])
  have VO := V.touch R.off.2 (by simp; exact hlop)
  have RO := R.off.1
  have TO := R.off.2
  have hp := lt_of_block R.row
  have nbf : bf ≠ p := fun e => by subst e; rw [R.row] at hbf; simp [dRow] at hbf
  have obf : (w.setCell ⟨p, 2, none⟩ (.bool false)).heap[bf]? = some (.cells #[ptr fb] 76 (0, 0)) := (TO.block bf (lt_of_block hbf) (by simp [nbf])).trans hbf
  have ofb : (w.setCell ⟨p, 2, none⟩ (.bool false)).heap[fb]? = some (.cells #[v, sv] 97 (0, 0)) := (TO.block fb (lt_of_block hfb) (by simp [hnp])).trans hfb
  have H := hid (fun o : Obj => seal1_any (w := (w.setCell ⟨p, 2, none⟩ (.bool false)).alloc o) b bf fb ((Below.heap_alloc _ o bf (lt_of_block obf)).trans obf) ((Below.heap_alloc _ o fb (lt_of_block ofb)).trans ofb))
  have HV := hid VO
  have HT := hid TO
  have HR := hid RO
  have HO := hid ofb
  have c2 : ∀ (o : Obj), (((w.setCell ⟨p, 2, none⟩ (.bool false)).alloc o).setCell ⟨fb, 0, none⟩ (.int .i64 1)).cell? ⟨2, 0, none⟩ = some (errV E 2) := fun o =>
    ((VO.alloc o).touch (F := [fb]) ((Touch.refl [fb] _).setCell (by simp) _) (by simp; exact hlf)).sents.var 2 (by omega)
  have k2 := R.cell 2
  simp only [dRow] at k2
  have f2 := R.unfrozen 2
  clear hbf hfb V VO RO TO obf ofb nbf
  go_enter Tryd.func56, Tryd.ntmps56
  go_wp2_with (go_at_call 61; refine (H.out _).mono ?_; rintro e w1 ⟨rfl, hw1⟩; have d2 : w1.cell? ⟨2, 0, none⟩ = some (errV E 2) := by (rw [hw1]; exact c2 _))
  go_ret
  refine ⟨rfl, (w.setCell ⟨p, 2, none⟩ (.bool false)).alloc (.cells #[.int .i64 a, .int .i64 2, .int .i64 b] 110), HR.out.alloc _, HT.out.alloc _, (Touch.refl [fb] _).setCell (by simp) _, ?_⟩
  rw [heap_setCell_row ((Below.heap_alloc _ _ fb (lt_of_block HO.out)).trans HO.out) 0]
  rfl

set_option maxRecDepth 100000 in
set_option maxHeartbeats 400000 in
theorem seal_gen (V : Env w lo E) (R : Rep w lo p mf mt D) (s : ByteArray) (ho : D.on = true) (hn : nameB s = true) {e0 : Ent} (hf : findE D.ents (nm s) = some e0) (hs : e0.file.shut = false) {a k b : Int} (hT : TroubleIs D.T D.c.calls a k b)
    (h0 : 0 ≤ D.c.calls) (h1 : D.c.calls ≤ 1099511627776) {v : Value} {Post : World → World → Prop}
    (HC : ∀ (w2 : World) (bf : Nat), Env w2 lo E → Rep w2 lo p mf mt D.numbered → w.heap.size ≤ w2.heap.size → w2.heap[bf]? = some (.cells #[ptr e0.lay.fb] 76 (0, 0)) →
      Calls Tryd.prog 56 #[ptr p, .agg #[.int .i64 a, .int .i64 k, .int .i64 b], .func (.func 61) #[] #[ptr bf]] w2 fun e w3 => e = .returned v ∧ Post w2 w3 ∧ Touch [p, e0.lay.fb] w2 w3) :
    Calls Tryd.prog 44 #[ptr p, .string s] w fun e w' => e = .returned v ∧ (∃ w2, w.heap.size ≤ w2.heap.size ∧ Rep w2 lo p mf mt D.numbered ∧ Post w2 w') ∧ Touch [p, mt, e0.lay.fb] w w' := by
  have H := hid (find_some R s ho hn hf)
  have hat := R.each e0 (findE_mem hf).1
  have hrow := hat.row
  have lfb := lt_of_block hrow
  have c0 := cell_row hrow 0
  simp [hs] at c0
  have hne := R.ent_ne (findE_mem hf).1 (b := e0.lay.fb) (by simp [Lay.foot])
  have hp := lt_of_block R.row
  have hmt : mt < w.heap.size := R.lt mt (by simp [DiskC.foot])
  have hlop : Hid (lo ≤ p ∧ lo ≤ mt) := hid ⟨R.base p (by simp [DiskC.foot]), R.base mt (by simp [DiskC.foot])⟩
  have HR := hid R
  have HV := hid V
  have HCC := hid HC
  have HSZ : Hid (∀ (w1 : World), w1.heap = w.heap → w.heap.size ≤ w1.heap.size) := hid fun w1 h => by rw [h]; exact Nat.le_refl _
  clear hf hs hrow hat R V HC
  go_enter Tryd.func44, Tryd.ntmps44
  go_wp2_with (first
    | (go_at_call 47; refine H.out.mono ?_; rintro e w1 ⟨rfl, hq⟩; have d0 := (Quiet.cell hq _).trans c0; rw [← Quiet.heap hq] at lfb hp hmt; have HQ := hid hq; clear hq c0)
    | (go_at_call 57; refine (number_any ((Quiet.rep HQ.out HR.out).alloc (.cells #[ptr e0.lay.fb] 76)) hT h0 h1).mono ?_; rintro e w2 ⟨rfl, hR2, ht2⟩; have q2 := hid (kept_row (heap_alloc_new w1 (.cells #[ptr e0.lay.fb] 76)) ht2 (by simp; omega)))
    | (go_at_call 56; refine (HCC.out w2 _ ((Quiet.env HQ.out HV.out |>.alloc _).touch ht2 (by simp; exact hlop.out)) hR2 (Nat.le_trans (HSZ.out _ (Quiet.heap HQ.out)) (Nat.le_trans (by simp) ht2.size)) q2.out).mono ?_; rintro e w3 ⟨rfl, hpost, ht3⟩))
  go_ret
  have t2 : Touch [p, mt] w w2 := ((Quiet.touch HQ.out [p, mt]).alloc _).trans ht2 (by simp)
  exact ⟨rfl, ⟨w2, t2.size, hR2, hpost⟩, (t2.mono (by simp)).trans ht3 (by simp)⟩

set_option maxHeartbeats 400000 in
theorem Seal_of2 {ev : Value} {s : ByteArray} {Post Post2 : World → Prop} (h : Calls Tryd.prog 44 #[ptr p, .string s] w fun e w' => e = .returned ev ∧ Post w') {v : Int}
    (ha : ∀ w1, Post w1 → Calls Tryd.prog 41 #[ptr p, ev] w1 fun e w' => e = .returned (.int .i64 v) ∧ Post2 w') :
    Calls Tryd.prog 23 #[ptr p, .string s] w fun e w' => e = .returned (.int .i64 v) ∧ Post2 w' := by
  have H := hid h
  have HA := hid ha
  clear h ha
  go_enter Tryd.func23, Tryd.ntmps23
  go_wp2_with (first | (go_at_call 44; refine H.out.mono ?_; rintro e w1 ⟨rfl, hp⟩) | (go_at_call 41; refine (HA.out _ hp).mono ?_; rintro e w2 ⟨rfl, hq⟩))
  go_ret
  exact ⟨rfl, hq⟩

theorem Seal_t (V : Env w lo E) (R : Rep w lo p mf mt D) (ho : D.on = true) (hS : Small D.pub) (hfl : 0 ≤ D.c.faults ∧ D.c.faults ≤ 1099511627776) {a k b : Int} (hT : TroubleIs D.T D.c.calls a k b) (s : ByteArray) :
    Calls Tryd.prog 23 #[ptr p, .string s] w fun e w' => ∃ v A', e = .returned (.int .i64 v) ∧ Did2 w w' lo p mf mt D A' ∧ Out D.pub (sealA s D.pub) (fun A' => A' = { (sealA s D.pub).2 with on := false }) v A' := by
  have hfp : findA D.pub.files (nm s) = (findE D.ents (nm s)).map Ent.file := find_pub _ _
  by_cases hn : nameB s = true
  · cases hf : findE D.ents (nm s) with
    | none =>
      have hr : sealA s D.pub = (12, D.pub) := by unfold sealA; rw [if_pos hn, hfp, hf]; rfl
      have h := Seal_of (i := some 4) (seal_err s 4 (find_none V.sents R s ho hn hf)) (v := 12) fun w1 ht => answer_err (V.touch ht (by simp)).sents 4 (by omega) (by omega) (by omega)
      exact h.mono fun e w1 ⟨h1, h2⟩ => ⟨12, D.pub, h1, Did2.same R h2, .inl (by rw [hr]; exact ⟨rfl, rfl⟩)⟩
    | some e0 =>
      cases hs : e0.file.shut with
      | true =>
        have hr : sealA s D.pub = (14, D.pub) := by unfold sealA; rw [if_pos hn, hfp, hf]; simp [hs]
        have h := Seal_of (i := some 6) (seal_shut V R s ho hn hf hs) (v := 14) fun w1 ht => answer_err (V.touch ht (by simp)).sents 6 (by omega) (by omega) (by omega)
        exact h.mono fun e w1 ⟨h1, h2⟩ => ⟨14, D.pub, h1, Did2.same R h2, .inl (by rw [hr]; exact ⟨rfl, rfl⟩)⟩
      | false =>
        have hr : sealA s D.pub = (0, { D.pub with files := setA (nm s) { e0.file with shut := true } D.pub.files, c := { D.pub.c with calls := D.pub.c.calls + 1 } }) := by unfold sealA; rw [if_pos hn, hfp, hf]; simp [hs]
        have hfb : e0.lay.fb ∈ D.foot p mf mt := foot_ent hf _ (by simp [Lay.foot])
        have hG : ∀ b ∈ [p, mt, e0.lay.fb], b ∈ D.foot p mf mt := fun b hb => by
          simp at hb
          rcases hb with rfl | rfl | rfl
          · simp [DiskC.foot]
          · simp [DiskC.foot]
          · exact hfb
        have hF : ∀ b ∈ [p, mt, e0.lay.fb], lo ≤ b := fun b hb => R.base b (hG b hb)
        have hm := (findE_mem hf).1
        have hne := R.ent_ne hm (b := e0.lay.fb) (by simp [Lay.foot])
        by_cases k1 : k = 1
        · subst k1
          have hc := seal_gen V R s ho hn hf hs hT hS.calls.1 hS.calls.2 (v := errV E 1) (Post := fun w2 w3 => Touch [] w2 w3) fun w2 bf V2 R2 _ _ => (carry_fault V2 a b _).mono fun e w3 ⟨h1, h2⟩ => ⟨h1, h2, h2.mono (by simp)⟩
          have h := Seal_of2 (v := 9) (Post2 := fun w' => Did2 w w' lo p mf mt D D.pub.faulted) hc fun w1 ⟨⟨w2, hz, R2, t2⟩, t⟩ => by
            have R1 : Rep w1 lo p mf mt D.numbered := R2.touch t2 (by simp)
            refine (answer_fault (V.touch t hF) R1 hfl.1 hfl.2).mono fun e w' ⟨h1, h2, h3⟩ => ⟨h1, _, h2, rfl, .inr rfl, ?_, fun b hb => .inl hb⟩
            exact (t.mono hG).trans (h3.mono (G := D.foot p mf mt) (by simp [DiskC.foot])) (fun b hb => .inl hb)
          exact h.mono fun e w' ⟨h1, h2⟩ => ⟨9, _, h1, h2, .inr ⟨by rw [hr], .inl ⟨rfl, rfl⟩⟩⟩
        · by_cases k2 : k = 2
          · subst k2
            by_cases hb : 0 < b
            · have hc := seal_gen V R s ho hn hf hs hT hS.calls.1 hS.calls.2 (v := errV E 2) (Post := fun w2 w3 => Rep w3 lo p mf mt { D.numbered.off with ents := setE (nm s) { e0.file with shut := true } e0.lay D.ents }) fun w2 bf V2 R2 hz hbf => by
                have hat := R2.each e0 hm
                refine (carry_seal_cut V2 R2 bf e0.lay.fb hb (R.base _ hfb) hne.1 hbf hat.row).mono fun e w3 ⟨h1, w1, R1, t1, t3, hr3⟩ => ?_
                have hnd := R1.parts.1 e0 hm
                have hat3 := (R1.each e0 hm).shut hnd t3 hr3
                refine ⟨h1, R1.setFile hf rfl hat3 (fun b hb => .inl hb) hnd (t3.mono (by simp [Lay.foot])) (Nat.le_trans V2.room t1.size), (t1.mono (by simp)).trans t3 (by simp)⟩
              have h := Seal_of2 (v := 10) (Post2 := fun w' => Did2 w w' lo p mf mt D { (sealA s D.pub).2 with on := false }) hc fun w1 ⟨⟨w2, hz, _, R3⟩, t⟩ => by
                refine (answer_err (V.touch t hF).sents 2 (by omega) (by omega) (by omega)).mono fun e w' ⟨h1, h2⟩ => ?_
                subst h2
                refine ⟨h1, _, R3, ?_, .inr rfl, t.mono hG, foot_set hf rfl fun b hb => .inl hb⟩
                rw [hr]
                simp only [DiskC.pub, DiskC.numbered, set_pub]
              exact h.mono fun e w' ⟨h1, h2⟩ => ⟨10, _, h1, h2, .inr ⟨by rw [hr], .inr ⟨rfl, .inr rfl⟩⟩⟩
            · have hc := seal_gen V R s ho hn hf hs hT hS.calls.1 hS.calls.2 (v := errV E 2) (Post := fun w2 w3 => Rep w3 lo p mf mt D.numbered.off) fun w2 bf V2 R2 _ _ =>
                (carry_cut0 V2 R2 a b (by omega) _).mono fun e w3 ⟨h1, h2, h3⟩ => ⟨h1, h2, h3.mono (by simp)⟩
              have h := Seal_of2 (v := 10) (Post2 := fun w' => Did2 w w' lo p mf mt D D.pub.shut) hc fun w1 ⟨⟨w2, hz, _, R3⟩, t⟩ => by
                refine (answer_err (V.touch t hF).sents 2 (by omega) (by omega) (by omega)).mono fun e w' ⟨h1, h2⟩ => ?_
                subst h2
                exact ⟨h1, _, R3, rfl, .inr rfl, t.mono hG, fun b hb => .inl hb⟩
              exact h.mono fun e w' ⟨h1, h2⟩ => ⟨10, _, h1, h2, .inr ⟨by rw [hr], .inr ⟨rfl, .inl rfl⟩⟩⟩
          · have hc := seal_ok R s ho hn hf hs hT (by simp [k1]) (by simp [k2]) hS.calls.1 hS.calls.2 V.room
            have h := Seal_of2 (v := 0) (Post2 := fun w' => Did2 w w' lo p mf mt D (sealA s D.pub).2) hc fun w1 ⟨R3, t⟩ => by
              refine (answer_nil (V.touch t hF).sents).mono fun e w' ⟨h1, h2⟩ => ?_
              subst h2
              refine ⟨h1, _, R3, ?_, .inr rfl, t.mono hG, foot_set hf rfl fun b hb => .inl hb⟩
              rw [hr]
              simp only [DiskC.pub, DiskC.numbered, set_pub]
            exact h.mono fun e w' ⟨h1, h2⟩ => ⟨0, _, h1, h2, .inl (by rw [hr]; exact ⟨rfl, rfl⟩)⟩
  · have hr : sealA s D.pub = (11, D.pub) := by unfold sealA; rw [if_neg hn]
    have h := Seal_of (i := some 3) (seal_err s 3 (find_bad V.sents R s ho (by simpa using hn))) (v := 11) fun w1 ht => answer_err (V.touch ht (by simp)).sents 3 (by omega) (by omega) (by omega)
    exact h.mono fun e w1 ⟨h1, h2⟩ => ⟨11, D.pub, h1, Did2.same R h2, .inl (by rw [hr]; exact ⟨rfl, rfl⟩)⟩
end

end Go.Proofs.YtcpncfngadablaaDoor
