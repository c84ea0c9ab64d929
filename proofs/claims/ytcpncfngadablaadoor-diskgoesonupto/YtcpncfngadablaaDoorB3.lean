import Derived.Test.YtcpncfngadablaaDoorB2
namespace Go.Proofs.YtcpncfngadablaaDoor
open Go.RowKit Go.Deep

theorem FileAt.shut {w w' : World} {B : Nat} {L : Lay} {f : FileA} (h : FileAt w B L f) (hnd : L.foot.Nodup) (ht : Touch [L.fb] w w') (hrow : w'.heap[L.fb]? = some (.cells #[.int .i64 1, L.sv] 97 (0, 0))) : FileAt w' B L { f with shut := true } := by
  have hne : ∀ b ∈ L.foot, b ≠ L.fb → w'.heap[b]? = w.heap[b]? := fun b hb hn => ht.block b (h.lt b hb) (by simp [hn])
  unfold Lay.foot at hnd
  rw [List.nodup_cons] at hnd
  refine ⟨hrow, ⟨h.own.1, ?_⟩, fun i b bl hb hbl => ?_⟩
  · rcases h.own.2 with hn | ⟨g, cap, cur, hv, hb, hg, rest⟩
    · exact .inl hn
    · refine .inr ⟨g, cap, cur, hv, hb, (hne g (by simp [Lay.foot, hv, Value.ownBlock]) fun e => ?_).trans hg, rest⟩
      subst e
      exact hnd.1 (by simp [hv, Value.ownBlock])
  · have h1 := h.bytes i b bl hb hbl
    have hm : b ∈ L.bs := List.mem_of_getElem? hb
    refine ⟨h1.1, (hne b (by simp [Lay.foot, hm]) fun e => ?_).trans h1.2⟩
    subst e
    exact hnd.1 (by simp [hm])

/-- nothing but draws. -/
def Quiet (w w' : World) : Prop := ∃ n, w' = w.drewN n
section
variable {w w' : World} {E : Nat → Addr} {lo p mf mt : Nat} {D : DiskC}
theorem Quiet.heap (h : Quiet w w') : w'.heap = w.heap := by obtain ⟨n, rfl⟩ := h; rfl
theorem Quiet.cell (h : Quiet w w') (a : Addr) : w'.cell? a = w.cell? a := by obtain ⟨n, rfl⟩ := h; rfl
theorem Quiet.touch (h : Quiet w w') (F : List Nat) : Touch F w w' := by obtain ⟨n, rfl⟩ := h; exact (Touch.refl F w).drewN n
theorem Quiet.rep (h : Quiet w w') (R : Rep w lo p mf mt D) : Rep w' lo p mf mt D := by obtain ⟨n, rfl⟩ := h; exact R.drewN n
theorem Quiet.env (h : Quiet w w') (V : Env w lo E) : Env w' lo E := by obtain ⟨n, rfl⟩ := h; exact V.drewN n
end

section
variable {w w' : World} {E : Nat → Addr} {lo p mf mt : Nat} {D : DiskC}

set_option maxHeartbeats 400000 in
theorem seal1_any (k : Int) (bf fb : Nat) {v : Value} {sv : Value} (hbf : w.heap[bf]? = some (.cells #[ptr fb] 76 (0, 0))) (hfb : w.heap[fb]? = some (.cells #[v, sv] 97 (0, 0))) :
    Calls Tryd.prog 61 #[.int .i64 k, ptr bf] w fun e w' => e = .returned (.tuple #[]) ∧ w' = w.setCell ⟨fb, 0, none⟩ (.int .i64 1) := by
  have c1 := cell_row hbf 0
  have c2 := cell_row hfb 0
  have f2 := unfrozen_row hfb 0
  simp at c1 c2
  go_enter Tryd.func61, Tryd.ntmps61
  go_wp2
  go_end0
  exact ⟨rfl, rfl⟩

set_option maxRecDepth 100000 in
set_option maxHeartbeats 400000 in
theorem carry_seal (R : Rep w lo p mf mt D) {a k b : Int} (bf fb : Nat) {v : Value} {sv : Value} (hk1 : (k == 1) = false) (hk2 : (k == 2) = false) (hbf : w.heap[bf]? = some (.cells #[ptr fb] 76 (0, 0))) (hfb : w.heap[fb]? = some (.cells #[v, sv] 97 (0, 0))) :
    Calls Tryd.prog 56 #[ptr p, .agg #[.int .i64 a, .int .i64 k, .int .i64 b], .func (.func 61) #[] #[ptr bf]] w fun e w' => e = .returned .nilIface ∧ Touch [fb] w w' ∧ w'.heap[fb]? = some (.cells #[.int .i64 1, sv] 97 (0, 0)) := by
  have k0 := R.cell 0
  simp only [dRow] at k0
  have hp := lt_of_block R.row
  have H := hid (fun o : Obj => seal1_any (w := w.alloc o) (D.B : Int) bf fb ((Below.heap_alloc w o bf (lt_of_block hbf)).trans hbf) ((Below.heap_alloc w o fb (lt_of_block hfb)).trans hfb))
  have HB := hid hfb
  clear hbf hfb
  go_enter Tryd.func56, Tryd.ntmps56
  go_wp2_with (go_at_call 61; refine (H.out _).mono ?_; rintro e w1 ⟨rfl, rfl⟩)
  go_ret
  refine ⟨rfl, ((Touch.refl [fb] w).alloc _).setCell (by simp) _, ?_⟩
  rw [heap_setCell_row ((Below.heap_alloc w _ fb (lt_of_block HB.out)).trans HB.out) 0]
  rfl

/-! ### seal -/
theorem kept_row {F : List Nat} {b : Nat} {o : Obj} (hb : w.heap[b]? = some o) (ht : Touch F w w') (h : b ∉ F) : w'.heap[b]? = some o := (ht.block b (lt_of_block hb) h).trans hb
set_option maxHeartbeats 400000 in
theorem seal_err (s : ByteArray) (i : Nat)
    (hf : Calls Tryd.prog 47 #[ptr p, .string s] w fun e w' => e = .returned (.tuple #[.pointer none, errV E i]) ∧ ∃ n, w' = w.drewN n) :
    Calls Tryd.prog 44 #[ptr p, .string s] w fun e w' => e = .returned (errV E i) ∧ Touch [] w w' := by
  have H := hid hf
  clear hf
  go_enter Tryd.func44, Tryd.ntmps44
  go_wp2_with (go_at_call 47; refine H.out.mono ?_; rintro e w1 ⟨rfl, hq⟩; have HQ := hid (Quiet.touch hq []); clear hq)
  go_ret
  exact ⟨rfl, HQ.out.alloc _⟩

set_option maxHeartbeats 400000 in
theorem seal_shut (V : Env w lo E) (R : Rep w lo p mf mt D) (s : ByteArray) (ho : D.on = true) (hn : nameB s = true) {e0 : Ent} (hf : findE D.ents (nm s) = some e0) (hs : e0.file.shut = true) :
    Calls Tryd.prog 44 #[ptr p, .string s] w fun e w' => e = .returned (errV E 6) ∧ Touch [] w w' := by
  have H := hid (find_some R s ho hn hf)
  have hrow := (R.each e0 (findE_mem hf).1).row
  have lfb := lt_of_block hrow
  have c0 := cell_row hrow 0
  simp [hs] at c0
  have c6 := V.sents.var 6 (by omega)
  have l6 : 6 < w.heap.size := by have := V.vars; have := V.room; omega
  clear hf hs hrow
  go_enter Tryd.func44, Tryd.ntmps44
  go_wp2_with (go_at_call 47; refine H.out.mono ?_; rintro e w1 ⟨rfl, hq⟩; have d0 := (Quiet.cell hq _).trans c0; have d6 := (Quiet.cell hq _).trans c6; rw [← Quiet.heap hq] at lfb l6; have HQ := hid (Quiet.touch hq []); clear hq c0 c6)
  go_ret
  exact ⟨rfl, HQ.out.alloc _⟩

set_option maxRecDepth 100000 in
set_option maxHeartbeats 400000 in
theorem seal_ok (R : Rep w lo p mf mt D) (s : ByteArray) (ho : D.on = true) (hn : nameB s = true) {e0 : Ent} (hf : findE D.ents (nm s) = some e0) (hs : e0.file.shut = false) {a k b : Int} (hT : TroubleIs D.T D.c.calls a k b) (hk1 : (k == 1) = false) (hk2 : (k == 2) = false)
    (h0 : 0 ≤ D.c.calls) (h1 : D.c.calls ≤ 1099511627776) (hlo : lo ≤ w.heap.size) :
    Calls Tryd.prog 44 #[ptr p, .string s] w fun e w' => e = .returned .nilIface ∧ Rep w' lo p mf mt { D.numbered with ents := setE (nm s) { e0.file with shut := true } e0.lay D.ents } ∧ Touch [p, mt, e0.lay.fb] w w' := by
  have H := hid (find_some R s ho hn hf)
  have hat := R.each e0 (findE_mem hf).1
  have hrow := hat.row
  have lfb := lt_of_block hrow
  have c0 := cell_row hrow 0
  simp [hs] at c0
  have hne := R.ent_ne (findE_mem hf).1 (b := e0.lay.fb) (by simp [Lay.foot])
  have hp := lt_of_block R.row
  have hmt : mt < w.heap.size := R.lt mt (by simp [DiskC.foot])
  have HR := hid R
  have HF := hid hf
  have HROW := hid hrow
  clear hf hs hrow hat R
  go_enter Tryd.func44, Tryd.ntmps44
  go_wp2_with (first
    | (go_at_call 47; refine H.out.mono ?_; rintro e w1 ⟨rfl, hq⟩; have d0 := (Quiet.cell hq _).trans c0; rw [← Quiet.heap hq] at lfb hp hmt; have HQ := hid hq; clear hq c0)
    | (go_at_call 57; refine (number_any ((Quiet.rep HQ.out HR.out).alloc (.cells #[ptr e0.lay.fb] 76)) hT h0 h1).mono ?_; rintro e w2 ⟨rfl, hR2, ht2⟩; have q2 := hid (kept_row (heap_alloc_new w1 (.cells #[ptr e0.lay.fb] 76)) ht2 (by simp; omega)); have q3 := hid (kept_row ((Below.heap_alloc w1 (.cells #[ptr e0.lay.fb] 76) e0.lay.fb lfb).trans ((congrArg (fun h => h[e0.lay.fb]?) (Quiet.heap HQ.out)).trans HROW.out)) ht2 (by simp; omega)))
    | (go_at_call 56; refine (carry_seal hR2 _ _ hk1 hk2 q2.out q3.out).mono ?_; rintro e w3 ⟨rfl, ht3, hr3⟩))
  go_ret
  have hm := (findE_mem HF.out).1
  have hnd := hR2.parts.1 e0 hm
  have hat3 := (hR2.each e0 hm).shut hnd ht3 hr3
  have t2 : Touch [p, mt] w w2 := ((Quiet.touch HQ.out [p, mt]).alloc _).trans ht2 (by simp)
  have hl2 : lo ≤ w2.heap.size := Nat.le_trans hlo t2.size
  exact ⟨rfl, hR2.setFile HF.out rfl hat3 (fun b hb => .inl hb) hnd (ht3.mono (by simp [Lay.foot])) hl2, (t2.mono (by simp)).trans ht3 (by simp)⟩

/-! ### Seal -/
def sealA (s : ByteArray) (A : PubA) : Int × PubA :=
  if nameB s then
    match findA A.files (nm s) with
    | none => (12, A)
    | some f => if f.shut then (14, A) else (0, { A with files := setA (nm s) { f with shut := true } A.files, c := { A.c with calls := A.c.calls + 1 } })
  else (11, A)

set_option maxHeartbeats 400000 in
theorem Seal_of {i : Option Nat} {s : ByteArray} {Post : World → Prop} (h : Calls Tryd.prog 44 #[ptr p, .string s] w fun e w' => e = .returned (i.elim .nilIface (errV E)) ∧ Post w') {v : Int}
    (ha : ∀ w1, Post w1 → Calls Tryd.prog 41 #[ptr p, i.elim .nilIface (errV E)] w1 fun e w' => e = .returned (.int .i64 v) ∧ w' = w1) :
    Calls Tryd.prog 23 #[ptr p, .string s] w fun e w' => e = .returned (.int .i64 v) ∧ Post w' := by
  have H := hid h
  have HA := hid ha
  clear h ha
  go_enter Tryd.func23, Tryd.ntmps23
  go_wp2_with (first | (go_at_call 44; refine H.out.mono ?_; rintro e w1 ⟨rfl, hp⟩) | (go_at_call 41; refine (HA.out _ hp).mono ?_; rintro e w2 ⟨rfl, rfl⟩))
  go_ret
  exact ⟨rfl, hp⟩

theorem Seal_any (V : Env w lo E) (R : Rep w lo p mf mt D) (hT : D.T = .map []) (ho : D.on = true) (hS : Small D.pub) (s : ByteArray) :
    Calls Tryd.prog 23 #[ptr p, .string s] w fun e w' => e = .returned (.int .i64 (sealA s D.pub).1) ∧ Did w w' lo p mf mt D (sealA s D.pub).2 := by
  unfold sealA
  have hfp : findA D.pub.files (nm s) = (findE D.ents (nm s)).map Ent.file := find_pub _ _
  by_cases hn : nameB s = true
  · rw [if_pos hn, hfp]
    cases hf : findE D.ents (nm s) with
    | none =>
      have h := Seal_of (i := some 4) (seal_err s 4 (find_none V.sents R s ho hn hf)) (v := 12) fun w1 ht => answer_err (V.touch ht (by simp)).sents 4 (by omega) (by omega) (by omega)
      exact h.mono fun e w1 ⟨h1, h2⟩ => ⟨h1, Did.same R hT h2⟩
    | some e0 =>
      simp only [Option.map_some]
      cases hs : e0.file.shut with
      | true =>
        simp only [if_true]
        have h := Seal_of (i := some 6) (seal_shut V R s ho hn hf hs) (v := 14) fun w1 ht => answer_err (V.touch ht (by simp)).sents 6 (by omega) (by omega) (by omega)
        exact h.mono fun e w1 ⟨h1, h2⟩ => ⟨h1, Did.same R hT h2⟩
      | false =>
        simp only [Bool.false_eq_true, if_false]
        have hc := seal_ok R s ho hn hf hs (a := 0) (k := 0) (b := 0) (by rw [hT]; exact no_trouble _) (by decide) (by decide) hS.calls.1 hS.calls.2 V.room
        have hfb : e0.lay.fb ∈ D.foot p mf mt := foot_ent hf _ (by simp [Lay.foot])
        have hF : ∀ b ∈ [p, mt, e0.lay.fb], b ∈ D.foot p mf mt := fun b hb => by
          simp at hb
          rcases hb with rfl | rfl | rfl
          · simp [DiskC.foot]
          · simp [DiskC.foot]
          · exact hfb
        have h := Seal_of (E := E) (i := none) hc (v := 0) fun w1 h => answer_nil (V.touch h.2 fun b hb => R.base b (hF b hb)).sents
        refine h.mono fun e w1 ⟨h1, hR, ht⟩ => ⟨h1, _, hR, ?_, ?_, ht.mono hF, ?_⟩
        · simp only [DiskC.pub, DiskC.numbered, set_pub]
        · show D.T.del _ = _
          rw [hT]
          rfl
        · exact foot_set hf rfl fun b hb => .inl hb
  · rw [if_neg hn]
    have h := Seal_of (i := some 3) (seal_err s 3 (find_bad V.sents R s ho (by simpa using hn))) (v := 11) fun w1 ht => answer_err (V.touch ht (by simp)).sents 3 (by omega) (by omega) (by omega)
    exact h.mono fun e w1 ⟨h1, h2⟩ => ⟨h1, Did.same R hT h2⟩
end
end Go.Proofs.YtcpncfngadablaaDoor
