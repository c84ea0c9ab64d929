import Derived.Test.YtcpncfngadablaaGreatDoorZ04
namespace Go.Proofs.YtcpncfngadablaaGreatDoor
open Go.RowKit Go.Deep

theorem FileAt.shut {w w' : World} {B : Nat} {L : Lay} {f : FileA} (h : FileAt w B L f) (hnd : L.foot.Nodup) (ht : Touch [L.fb] w w') (hrow : w'.heap[L.fb]? = some (.cells #[.int .i64 1, L.sv] 118 (0, 0))) : FileAt w' B L { f with shut := true } := by
  have hne : ∀ b ∈ L.foot, b ≠ L.fb → w'.heap[b]? = w.heap[b]? := fun b hb hn => ht.block b (h.lt b hb) (by simp [hn])
  unfold Lay.foot at hnd
  rw [List.nodup_cons] at hnd
  refine ⟨hrow, ⟨h.own.1, ?_⟩, fun i b bl hb hbl => ?_⟩
  · rcases h.own.2 with hn | ⟨g, cap, cur, hv, hb, hg, rest⟩
    · exact .inl hn
    · refine .inr ⟨g, cap, cur, hv, hb, (hne g (by simp [Lay.foot, hv, Value.ownBlock]) fun e => ?_).trans hg, rest⟩
      subst e
      exact hnd.1 (by simp [hv, Value.ownBlock])
  · have h1 := h.bytes i b bl hb hbl
    have hm : b ∈ L.bs := List.mem_of_getElem? hb
    refine ⟨h1.1, (hne b (by simp [Lay.foot, hm]) fun e => ?_).trans h1.2⟩
    subst e
    exact hnd.1 (by simp [hm])

/-- nothing but draws. -/
def Quiet (w w' : World) : Prop := ∃ n, w' = w.drewN n
section
variable {w w' : World} {E : Nat → Addr} {lo p mf mt : Nat} {D : DiskC}
theorem Quiet.heap (h : Quiet w w') : w'.heap = w.heap := by obtain ⟨n, rfl⟩ := h; rfl
theorem Quiet.cell (h : Quiet w w') (a : Addr) : w'.cell? a = w.cell? a := by obtain ⟨n, rfl⟩ := h; rfl
theorem Quiet.touch (h : Quiet w w') (F : List Nat) : Touch F w w' := by obtain ⟨n, rfl⟩ := h; exact (Touch.refl F w).drewN n
theorem Quiet.rep (h : Quiet w w') (R : Rep w lo p mf mt D) : Rep w' lo p mf mt D := by obtain ⟨n, rfl⟩ := h; exact R.drewN n
theorem Quiet.env (h : Quiet w w') (V : Env w lo E) : Env w' lo E := by obtain ⟨n, rfl⟩ := h; exact V.drewN n
end

section
variable {w w' : World} {E : Nat → Addr} {lo p mf mt : Nat} {D : DiskC}

set_option maxHeartbeats 400000 in
theorem seal1_any (k : Int) (bf fb : Nat) {v : Value} {sv : Value} (hbf : w.heap[bf]? = some (.cells #[ptr fb] 92 (0, 0))) (hfb : w.heap[fb]? = some (.cells #[v, sv] 118 (0, 0))) :
    Calls Tryz.prog 72 #[.int .i64 k, ptr bf] w fun e w' => e = .returned (.tuple #[]) ∧ w' = w.setCell ⟨fb, 0, none⟩ (.int .i64 1) := by
  have c1 := cell_row hbf 0
  have c2 := cell_row hfb 0
  have f2 := unfrozen_row hfb 0
  simp at c1 c2
  go_enter Tryz.func72, Tryz.ntmps72
  go_wp2
  go_end0
  exact ⟨rfl, rfl⟩

set_option maxRecDepth 100000 in
set_option maxHeartbeats 400000 in
theorem carry_seal (R : Rep w lo p mf mt D) {a k b : Int} (bf fb : Nat) {v : Value} {sv : Value} (hk1 : (k == 1) = false) (hk2 : (k == 2) = false) (hbf : w.heap[bf]? = some (.cells #[ptr fb] 92 (0, 0))) (hfb : w.heap[fb]? = some (.cells #[v, sv] 118 (0, 0))) :
    Calls Tryz.prog 67 #[ptr p, .agg #[.int .i64 a, .int .i64 k, .int .i64 b], .func (.func 72) #[] #[ptr bf]] w fun e w' => e = .returned .nilIface ∧ Touch [fb] w w' ∧ w'.heap[fb]? = some (.cells #[.int .i64 1, sv] 118 (0, 0)) := by
  have k0 := R.cell 0
  simp only [dRow] at k0
  have hp := lt_of_block R.row
  have H := hid (fun o : Obj => seal1_any (w := w.alloc o) (D.B : Int) bf fb ((Below.heap_alloc w o bf (lt_of_block hbf)).trans hbf) ((Below.heap_alloc w o fb (lt_of_block hfb)).trans hfb))
  have HB := hid hfb
  clear hbf hfb
  go_enter Tryz.func67, Tryz.ntmps67
  go_wp2_with (go_at_call 72; refine (H.out _).mono ?_; rintro e w1 ⟨rfl, rfl⟩)
  go_ret
  refine ⟨rfl, ((Touch.refl [fb] w).alloc _).setCell (by simp) _, ?_⟩
  rw [heap_setCell_row ((Below.heap_alloc w _ fb (lt_of_block HB.out)).trans HB.out) 0]
  rfl

/-! ### seal -/
theorem kept_row {F : List Nat} {b : Nat} {o : Obj} (hb : w.heap[b]? = some o) (ht : Touch F w w') (h : b ∉ F) : w'.heap[b]? = some o := (ht.block b (lt_of_block hb) h).trans hb
set_option maxHeartbeats 400000 in
theorem seal_err (s : ByteArray) (i : Nat)
    (hf : Calls Tryz.prog 65 #[ptr p, .string s] w fun e w' => e = .returned (.tuple #[.pointer none, errV E i]) ∧ ∃ n, w' = w.drewN n) :
    Calls Tryz.prog 36 #[ptr p, .string s] w fun e w' => e = .returned (errV E i) ∧ Touch [] w w' := by
  have H := hid hf
  clear hf
  go_enter Tryz.func36, Tryz.ntmps36
  go_wp2_with (go_at_call 65; refine H.out.mono ?_; rintro e w1 ⟨rfl, hq⟩; have HQ := hid (Quiet.touch hq []); clear hq)
  go_ret
  exact ⟨rfl, HQ.out.alloc _⟩

set_option maxHeartbeats 400000 in
theorem seal_shut (V : Env w lo E) (R : Rep w lo p mf mt D) (s : ByteArray) (ho : D.on = true) (hn : nameB s = true) {e0 : Ent} (hf : findE D.ents (nm s) = some e0) (hs : e0.file.shut = true) :
    Calls Tryz.prog 36 #[ptr p, .string s] w fun e w' => e = .returned (errV E 6) ∧ Touch [] w w' := by
  have H := hid (find_some R s ho hn hf)
  have hrow := (R.each e0 (findE_mem hf).1).row
  have lfb := lt_of_block hrow
  have c0 := cell_row hrow 0
  simp [hs] at c0
  have c6 := V.sents.var 6 (by omega)
  have l6 : 6 < w.heap.size := by have := V.vars; have := V.room; omega
  clear hf hs hrow
  go_enter Tryz.func36, Tryz.ntmps36
  go_wp2_with (go_at_call 65; refine H.out.mono ?_; rintro e w1 ⟨rfl, hq⟩; have d0 := (Quiet.cell hq _).trans c0; have d6 := (Quiet.cell hq _).trans c6; rw [← Quiet.heap hq] at lfb l6; have HQ := hid (Quiet.touch hq []); clear hq c0 c6)
  go_ret
  exact ⟨rfl, HQ.out.alloc _⟩

set_option maxRecDepth 100000 in
set_option maxHeartbeats 400000 in
theorem seal_ok (R : Rep w lo p mf mt D) (s : ByteArray) (ho : D.on = true) (hn : nameB s = true) {e0 : Ent} (hf : findE D.ents (nm s) = some e0) (hs : e0.file.shut = false) {a k b : Int} (hT : TroubleIs D.T D.c.calls a k b) (hk1 : (k == 1) = false) (hk2 : (k == 2) = false)
    (h0 : 0 ≤ D.c.calls) (h1 : D.c.calls ≤ 1099511627776) (hlo : lo ≤ w.heap.size) :
    Calls Tryz.prog 36 #[ptr p, .string s] w fun e w' => e = .returned .nilIface ∧ Rep w' lo p mf mt { D.numbered with ents := setE (nm s) { e0.file with shut := true } e0.lay D.ents } ∧ Touch [p, mt, e0.lay.fb] w w' := by
  have H := hid (find_some R s ho hn hf)
  have hat := R.each e0 (findE_mem hf).1
  have hrow := hat.row
  have lfb := lt_of_block hrow
  have c0 := cell_row hrow 0
  simp [hs] at c0
  have hne := R.ent_ne (findE_mem hf).1 (b := e0.lay.fb) (by simp [Lay.foot])
  have hp := lt_of_block R.row
  have hmt : mt < w.heap.size := R.lt mt (by simp [DiskC.foot])
  have HR := hid R
  have HF := hid hf
  have HROW := hid hrow
  clear hf hs hrow hat R
  go_enter Tryz.func36, Tryz.ntmps36
  go_wp2_with (first
    | (go_at_call 65; refine H.out.mono ?_; rintro e w1 ⟨rfl, hq⟩; have d0 := (Quiet.cell hq _).trans c0; rw [← Quiet.heap hq] at lfb hp hmt; have HQ := hid hq; clear hq c0)
    | (go_at_call 68; refine (number_any ((Quiet.rep HQ.out HR.out).alloc (.cells #[ptr e0.lay.fb] 92)) hT h0 h1).mono ?_; rintro e w2 ⟨rfl, hR2, ht2⟩; have q2 := hid (kept_row (heap_alloc_new w1 (.cells #[ptr e0.lay.fb] 92)) ht2 (by simp; omega)); have q3 := hid (kept_row ((Below.heap_alloc w1 (.cells #[ptr e0.lay.fb] 92) e0.lay.fb lfb).trans ((congrArg (fun h => h[e0.lay.fb]?) (Quiet.heap HQ.out)).trans HROW.out)) ht2 (by simp; omega)))
    | (go_at_call 67; refine (carry_seal hR2 _ _ hk1 hk2 q2.out q3.out).mono ?_; rintro e w3 ⟨rfl, ht3, hr3⟩))
  go_ret
  have hm := (findE_mem HF.out).1
  have hnd := hR2.parts.1 e0 hm
  have hat3 := (hR2.each e0 hm).shut hnd ht3 hr3
  have t2 : Touch [p, mt] w w2 := ((Quiet.touch HQ.out [p, mt]).alloc _).trans ht2 (by simp)
  have hl2 : lo ≤ w2.heap.size := Nat.le_trans hlo t2.size
  exact ⟨rfl, hR2.setFile HF.out rfl hat3 (fun b hb => .inl hb) hnd (ht3.mono (by simp [Lay.foot])) hl2, (t2.mono (by simp)).trans ht3 (by simp)⟩

/-! ### Seal -/
def sealA (s : ByteArray) (A : PubA) : Int × PubA :=
  if nameB s then
    match findA A.files (nm s) with
    | none => (12, A)
    | some f => if f.shut then (14, A) else (0, { A with files := setA (nm s) { f with shut := true } A.files, c := { A.c with calls := A.c.calls + 1 } })
  else (11, A)

set_option maxHeartbeats 400000 in
theorem Seal_of {i : Option Nat} {s : ByteArray} {Post : World → Prop} (h : Calls Tryz.prog 36 #[ptr p, .string s] w fun e w' => e = .returned (i.elim .nilIface (errV E)) ∧ Post w') {v : Int}
    (ha : ∀ w1, Post w1 → Calls Tryz.prog 33 #[ptr p, i.elim .nilIface (errV E)] w1 fun e w' => e = .returned (.int .i64 v) ∧ w' = w1) :
    Calls Tryz.prog 12 #[ptr p, .string s] w fun e w' => e = .returned (.int .i64 v) ∧ Post w' := by
  have H := hid h
  have HA := hid ha
  clear h ha
  go_enter Tryz.func12, Tryz.ntmps12
  go_wp2_with (first | (go_at_call 36; refine H.out.mono ?_; rintro e w1 ⟨rfl, hp⟩) | (go_at_call 33; refine (HA.out _ hp).mono ?_; rintro e w2 ⟨rfl, rfl⟩))
  go_ret
  exact ⟨rfl, hp⟩

theorem Seal_any (V : Env w lo E) (R : Rep w lo p mf mt D) (hT : D.T = .map []) (ho : D.on = true) (hS : Small D.pub) (s : ByteArray) :
    Calls Tryz.prog 12 #[ptr p, .string s] w fun e w' => e = .returned (.int .i64 (sealA s D.pub).1) ∧ Did w w' lo p mf mt D (sealA s D.pub).2 := by
  unfold sealA
  have hfp : findA D.pub.files (nm s) = (findE D.ents (nm s)).map Ent.file := find_pub _ _
  by_cases hn : nameB s = true
  · rw [if_pos hn, hfp]
    cases hf : findE D.ents (nm s) with
    | none =>
      have h := Seal_of (i := some 4) (seal_err s 4 (find_none V.sents R s ho hn hf)) (v := 12) fun w1 ht => answer_err (V.touch ht (by simp)).sents 4 (by omega) (by omega) (by omega)
      exact h.mono fun e w1 ⟨h1, h2⟩ => ⟨h1, Did.same R hT h2⟩
    | some e0 =>
      simp only [Option.map_some]
      cases hs : e0.file.shut with
      | true =>
        simp only [if_true]
        have h := Seal_of (i := some 6) (seal_shut V R s ho hn hf hs) (v := 14) fun w1 ht => answer_err (V.touch ht (by simp)).sents 6 (by omega) (by omega) (by omega)
        exact h.mono fun e w1 ⟨h1, h2⟩ => ⟨h1, Did.same R hT h2⟩
      | false =>
        simp only [Bool.false_eq_true, if_false]
        have hc := seal_ok R s ho hn hf hs (a := 0) (k := 0) (b := 0) (by rw [hT]; exact no_trouble _) (by decide) (by decide) hS.calls.1 hS.calls.2 V.room
        have hfb : e0.lay.fb ∈ D.foot p mf mt := foot_ent hf _ (by simp [Lay.foot])
        have hF : ∀ b ∈ [p, mt, e0.lay.fb], b ∈ D.foot p mf mt := fun b hb => by
          simp at hb
          rcases hb with rfl | rfl | rfl
          · simp [DiskC.foot]
          · simp [DiskC.foot]
          · exact hfb
        have h := Seal_of (E := E) (i := none) hc (v := 0) fun w1 h => answer_nil (V.touch h.2 fun b hb => R.base b (hF b hb)).sents
        refine h.mono fun e w1 ⟨h1, hR, ht⟩ => ⟨h1, _, hR, ?_, ?_, ht.mono hF, ?_⟩
        · simp only [DiskC.pub, DiskC.numbered, set_pub]
        · show D.T.del _ = _
          rw [hT]
          rfl
        · exact foot_set hf rfl fun b hb => .inl hb
  · rw [if_neg hn]
    have h := Seal_of (i := some 3) (seal_err s 3 (find_bad V.sents R s ho (by simpa using hn))) (v := 11) fun w1 ht => answer_err (V.touch ht (by simp)).sents 3 (by omega) (by omega) (by omega)
    exact h.mono fun e w1 ⟨h1, h2⟩ => ⟨h1, Did.same R hT h2⟩
end
end Go.Proofs.YtcpncfngadablaaGreatDoor
namespace Go.Proofs.YtcpncfngadablaaGreatDoor
open Go.RowKit Go.Deep

theorem ownsMap_tight {w : World} {k : TypeId} {R : Value → Option (DataW Unit × List MemPlace)} {b n : Nat} {L : List (Lit × DataW Unit)} (h : w.ownsMap Tryz.prog k R b n (.map L)) : w.ownsMap Tryz.prog k R b L.length (.map L) := by
  obtain ⟨es, clock, hb, F, _, hD⟩ := h
  refine ⟨es, clock, hb, F, ?_, hD⟩
  simp only [DataW.map.injEq] at hD
  rw [hD, length_sorted]
  simp

section
variable {w w' : World} {E : Nat → Addr} {lo p mf mt : Nat} {D : DiskC}

/-- A file is gone. -/
theorem Rep.remove (R : Rep w lo p mf mt D) {k : List UInt8} {n : Nat} (ht : Touch [mf] w w') (hmap : w'.ownsMap Tryz.prog 9 ptrElem mf n ((mapOf D.ents).del (.string k))) : Rep w' lo p mf mt { D with ents := dropE k D.ents } := by
  obtain ⟨m, hT⟩ := R.troubles
  have hne := R.p_ne
  have hold : ∀ b ∈ D.foot p mf mt, b ≠ mf → w'.heap[b]? = w.heap[b]? := fun b hb h => ht.block b (R.lt b hb) (by simp [h])
  have hsub : (dropE k D.ents).Sublist D.ents := List.filter_sublist
  have hfoot : (DiskC.foot { D with ents := dropE k D.ents } p mf mt).Sublist (D.foot p mf mt) := by
    simp only [DiskC.foot]
    have h : ∀ {l l' : List Ent}, l.Sublist l' → (l.flatMap fun e => e.lay.foot).Sublist (l'.flatMap fun e => e.lay.foot) := by
      intro l l' h
      induction h with
      | slnil => exact .slnil
      | cons a _ ih => exact ih.trans (by simp)
      | cons_cons a _ ih => simpa using ih
    exact ((h hsub).cons_cons _).cons_cons _ |>.cons_cons _
  rw [del_map] at hmap
  refine ⟨(hold p (by simp [DiskC.foot]) hne.2.1).trans R.row, ?_, ⟨m, ownsMap_kept hT (hold mt (by simp [DiskC.foot]) hne.2.2.symm)⟩, ?_, hfoot.nodup R.apart, fun b hb => R.base b (hfoot.subset hb), fun e he => R.names e (hsub.subset he)⟩
  · have := ownsMap_tight hmap
    rw [List.length_map] at this
    exact this
  · intro e he
    have he' := hsub.subset he
    exact (R.each e he').kept fun b hb => by
      have := R.ent_ne he' hb
      exact ht.block b this.2.2.2.1 (by simp [this.2.1])

set_option maxRecDepth 100000 in
set_option maxHeartbeats 400000 in
theorem drop1_any (R : Rep w lo p mf mt D) {s : ByteArray} (k : Int) (bd bn bf : Nat) (hs : s.size ≤ 32) {e0 : Ent} (hf : findE D.ents (nm s) = some e0) (hS : Small D.pub)
    (hbd : w.heap[bd]? = some (.cells #[ptr p] 23 (0, 0))) (hbn : w.heap[bn]? = some (.cells #[.string s] 9 (0, 0))) (hbf : w.heap[bf]? = some (.cells #[ptr e0.lay.fb] 92 (0, 0))) :
    Calls Tryz.prog 76 #[.int .i64 k, ptr bd, ptr bn, ptr bf] w fun e w' => e = .returned (.tuple #[]) ∧ Rep w' lo p mf mt { D with ents := dropE (nm s) D.ents, c := { D.c with used := D.c.used - e0.file.blocks.length, most := max D.c.most (D.c.used - e0.file.blocks.length) } } ∧ Touch [p, mf] w w' := by
  have k3 := R.cell 3
  simp only [dRow] at k3
  have cd := cell_row hbd 0
  have cn := cell_row hbn 0
  have cf := cell_row hbf 0
  simp at cd cn cf
  have hat := R.each e0 (findE_mem hf).1
  have hlen := hat.own
  have cb := cell_row hat.row 1
  simp at cb
  obtain ⟨w1, hdel, hm1, ht1⟩ := (show (w.drew).ownsMap Tryz.prog 9 ptrElem mf D.ents.length (mapOf D.ents) from R.files).drop (t := 88) (e := 92) (Maps.string_keyed Tryz.underlying9) Tryz.underlying88 (WideMaps.keyOf_string_mk Tryz.underlying9 (s := s) (by unfold maxLen; omega)) 0
  have hg := ht1.grown
  obtain ⟨es, clock, hes, _⟩ := R.files
  have n1 : some p ≠ some mf := by simp [R.p_ne.2.1]
  have n2 : some bd ≠ some mf := by intro e; simp at e; subst e; rw [hes] at hbd; simp at hbd
  have n3 : some bn ≠ some mf := by intro e; simp at e; subst e; rw [hes] at hbn; simp at hbn
  have n4 : some bf ≠ some mf := by intro e; simp at e; subst e; rw [hes] at hbf; simp at hbf
  have n5 : some e0.lay.fb ≠ some mf := by intro e; simp at e; have := hat.row; rw [e, hes] at this; simp at this
  have m2 : bd ≠ p := by intro e; have := R.row; rw [← e, hbd] at this; simp at this
  have m4 : bf ≠ p := by intro e; have := R.row; rw [← e, hbf] at this; simp at this
  have m5 : e0.lay.fb ≠ p := by intro e; have := R.row; rw [← e, hat.row] at this; simp at this
  have k3' : w.cell? ⟨p, 3, none⟩ = some (.map (some mf)) := k3
  have y1 := hg.cell (a := ⟨p, 3, none⟩) k3' n1
  have y2 := hg.cell (a := ⟨bd, 0, none⟩) cd n2
  have y3 := hg.cell (a := ⟨bn, 0, none⟩) cn n3
  have y4 := hg.cell (a := ⟨bf, 0, none⟩) cf n4
  have y5 := hg.cell (a := ⟨e0.lay.fb, 1, none⟩) cb n5
  have t1 : Touch [mf] w w1 := (Touch.refl [mf] w).drew.grown hg (by simp)
  have R1 := R.remove t1 hm1
  have HR1 := hid R1
  have HT1 := hid t1
  have hu := hS.used
  have hbl := hS.blocks e0.pub (List.mem_map.2 ⟨e0, (findE_mem hf).1, rfl⟩)
  simp only [DiskC.pub, Ent.pub] at hu hbl
  obtain ⟨hu1, hu2⟩ := hu
  clear hbd hbn hbf hes R R1 t1 hg hm1 ht1 n1 n2 n3 n4 n5 hf hS k3
  have hwr : IntKind.i64.wrap (-(e0.file.blocks.length : Int)) = -(e0.file.blocks.length : Int) := by
    rw [IntKind.wrap_i64]
    omega
  have hz := fun (w2 : World) (ht : Touch [p] w1.drew w2) (b o : Nat) (v : Value) (hb : b ≠ p) (hv : w1.cell? ⟨b, o, none⟩ = some v) => (ht.cell (p := ⟨b, o, none⟩) (World.block_lt_of_cell? w1 _ hv) (by simpa using hb)).trans hv
  have HZ := hid hz
  have hsv : ∃ a cap, e0.lay.sv = .slice a e0.file.blocks.length cap := by
    rcases hlen.2 with ⟨hsv, hl0⟩ | ⟨g, cap, cur, hsv, _⟩
    · exact ⟨none, 0, by rw [hsv, hl0]⟩
    · exact ⟨_, cap, hsv⟩
  obtain ⟨ga, gc, hsv⟩ := hsv
  rw [hsv] at cb y5
  clear hlen hz hsv hat
  go_enter Tryz.func76, Tryz.ntmps76
  go_wp2
  go_region_held3 (fun W => W.cell? ⟨p, 3, none⟩ = some (.map (some mf)) ∧ W.cell? ⟨bd, 0, none⟩ = some (ptr p) ∧ W.cell? ⟨bn, 0, none⟩ = some (.string s)) (go_keep) (fail)
  go_wp2
  go_region_held3 (fun W => W.cell? ⟨bd, 0, none⟩ = some (ptr p) ∧ W.cell? ⟨bf, 0, none⟩ = some (ptr e0.lay.fb) ∧ W.cell? ⟨e0.lay.fb, 1, none⟩ = some (.slice ga e0.file.blocks.length gc)) (go_keep)
    (first | (go_at_call 59; refine (use_any (w := w1.drew) (Quiet.rep ⟨1, rfl⟩ HR1.out) _ hu1 hu2 (by omega) (by omega)).mono ?_; rintro e w2 ⟨rfl, hR2, ht2⟩; have z2 := HZ.out w2 ht2 bd 0 _ m2 y2; have z4 := HZ.out w2 ht2 bf 0 _ m4 y4; have z5 := HZ.out w2 ht2 e0.lay.fb 1 _ m5 y5))
  go_wp2
  go_end0
  refine ⟨rfl, hR2, (HT1.out.mono (by simp)).drew.trans ht2 (by simp)⟩

set_option maxRecDepth 100000 in
set_option maxHeartbeats 400000 in
theorem carry_drop (R : Rep w lo p mf mt D) {s : ByteArray} {a k b : Int} (bd bn bf : Nat) (hk1 : (k == 1) = false) (hk2 : (k == 2) = false) (hs : s.size ≤ 32) {e0 : Ent} (hf : findE D.ents (nm s) = some e0) (hS : Small D.pub)
    (hbd : w.heap[bd]? = some (.cells #[ptr p] 23 (0, 0))) (hbn : w.heap[bn]? = some (.cells #[.string s] 9 (0, 0))) (hbf : w.heap[bf]? = some (.cells #[ptr e0.lay.fb] 92 (0, 0))) :
    Calls Tryz.prog 67 #[ptr p, .agg #[.int .i64 a, .int .i64 k, .int .i64 b], .func (.func 76) #[] #[ptr bd, ptr bn, ptr bf]] w fun e w' => e = .returned .nilIface ∧ Rep w' lo p mf mt { D with ents := dropE (nm s) D.ents, c := { D.c with used := D.c.used - e0.file.blocks.length, most := max D.c.most (D.c.used - e0.file.blocks.length) } } ∧ Touch [p, mf] w w' := by
  have k0 := R.cell 0
  simp only [dRow] at k0
  have hp := lt_of_block R.row
  have H := hid (fun o : Obj => drop1_any (R.alloc o) (D.B : Int) bd bn bf hs hf hS ((Below.heap_alloc w o bd (lt_of_block hbd)).trans hbd) ((Below.heap_alloc w o bn (lt_of_block hbn)).trans hbn) ((Below.heap_alloc w o bf (lt_of_block hbf)).trans hbf))
  clear hbd hbn hbf hf hS
  go_enter Tryz.func67, Tryz.ntmps67
  go_wp2_with (go_at_call 76; refine (H.out _).mono ?_; rintro e w1 ⟨rfl, hR, ht⟩)
  go_ret
  exact ⟨rfl, hR, ((Touch.refl [p, mf] w).alloc _).trans ht (by simp)⟩

set_option maxHeartbeats 400000 in
theorem drop_err (s : ByteArray) (i : Nat)
    (hf : ∀ o1 o2 : Obj, Calls Tryz.prog 65 #[ptr p, .string s] ((w.alloc o1).alloc o2) fun e w' => e = .returned (.tuple #[.pointer none, errV E i]) ∧ ∃ n, w' = ((w.alloc o1).alloc o2).drewN n) :
    Calls Tryz.prog 40 #[ptr p, .string s] w fun e w' => e = .returned (errV E i) ∧ Touch [] w w' := by
  have H := hid hf
  clear hf
  go_enter Tryz.func40, Tryz.ntmps40
  go_wp2_with (go_at_call 65; refine (H.out _ _).mono ?_; rintro e w1 ⟨rfl, hq⟩; have HQ := hid (Quiet.touch hq []); clear hq)
  go_ret
  exact ⟨rfl, ((((Touch.refl [] w).alloc _).alloc _).trans HQ.out (by simp)).alloc _⟩

/-- numbers with room for one more. -/
theorem small_number (hS : Small D.pub) (hc : D.c.calls + 1 ≤ 1099511627776) : Small D.numbered.pub := by
  obtain ⟨h1, h2, h3, h4, h5, h6, h7, h8⟩ := hS
  simp only [DiskC.pub] at h1 h2 h3 h4 h5 h6 h7 h8
  exact ⟨⟨by simp only [DiskC.pub, DiskC.numbered]; omega, hc⟩, h2, h3, h4, h5, h6, h7, h8⟩

set_option maxRecDepth 100000 in
set_option maxHeartbeats 400000 in
theorem drop_ok (R : Rep w lo p mf mt D) (s : ByteArray) (ho : D.on = true) (hn : nameB s = true) {e0 : Ent} (hf : findE D.ents (nm s) = some e0) {a k b : Int} (hT : TroubleIs D.T D.c.calls a k b) (hk1 : (k == 1) = false) (hk2 : (k == 2) = false) (hS : Small D.pub) (hcc : D.c.calls + 1 ≤ 1099511627776) :
    Calls Tryz.prog 40 #[ptr p, .string s] w fun e w' => e = .returned .nilIface ∧ Rep w' lo p mf mt { D.numbered with ents := dropE (nm s) D.ents, c := { D.numbered.c with used := D.c.used - e0.file.blocks.length, most := max D.c.most (D.c.used - e0.file.blocks.length) } } ∧ Touch [p, mf, mt] w w' := by
  obtain ⟨W, hW⟩ : ∃ W, W = (w.alloc (.cells #[ptr p] 23)).alloc (.cells #[.string s] 9) := ⟨_, rfl⟩
  have hW1 : W.heap[w.heap.size]? = some (.cells #[ptr p] 23) ∧ W.heap[w.heap.size + 1]? = some (.cells #[.string s] 9) := by rw [hW]; exact heap_two w _ _
  have hTW : Touch [] w W := by rw [hW]; exact ((Touch.refl [] w).alloc _).alloc _
  have RW : Rep W lo p mf mt D := R.touch hTW (by simp)
  have H := hid (find_some RW s ho hn hf)
  have HR := hid RW
  have HW := hid hW1
  have HF := hid hf
  have HTW := hid hTW
  have HE := hid hW
  have hp := lt_of_block R.row
  have hmf := R.files.lt
  have hmt : mt < w.heap.size := R.lt mt (by simp [DiskC.foot])
  have h0 := hS.calls.1
  have h1 := hS.calls.2
  simp only [DiskC.pub] at h0 h1
  have HS := hid hS
  clear hf R RW hW1 hTW hW hS
  go_enter Tryz.func40, Tryz.ntmps40
  go_wp2_with fail
  rw [← HE.out]
  refine H.out.mono ?_
  rintro e w1 ⟨rfl, hq⟩
  have l1 : w.heap.size + 1 < w1.heap.size := by rw [Quiet.heap hq]; exact lt_of_block HW.out.2
  have cd : w1.cell? ⟨w.heap.size, 0, none⟩ = some (ptr p) := (Quiet.cell hq _).trans (cell_row HW.out.1 0)
  have cn : w1.cell? ⟨w.heap.size + 1, 0, none⟩ = some (.string s) := (Quiet.cell hq _).trans (cell_row HW.out.2 0)
  have l0 : w.heap.size < w1.heap.size := by omega
  have HL := hid l1
  have HQ := hid hq
  clear hq l1
  go_wp2_with fail
  refine (number_any ((Quiet.rep HQ.out HR.out).alloc (.cells #[ptr e0.lay.fb] 92)) hT h0 h1).mono ?_
  rintro e w2 ⟨rfl, hR2, ht2⟩
  have q0 : w1.heap[w.heap.size]? = some (.cells #[ptr p] 23) := by rw [Quiet.heap HQ.out]; exact HW.out.1
  have q1 : w1.heap[w.heap.size + 1]? = some (.cells #[.string s] 9) := by rw [Quiet.heap HQ.out]; exact HW.out.2
  have r0 := hid (kept_row ((Below.heap_alloc w1 (.cells #[ptr e0.lay.fb] 92) _ l0).trans q0) ht2 (by simp; omega))
  have r1 := hid (kept_row ((Below.heap_alloc w1 (.cells #[ptr e0.lay.fb] 92) _ HL.out).trans q1) ht2 (by simp; omega))
  have r2 := hid (kept_row (heap_alloc_new w1 (.cells #[ptr e0.lay.fb] 92)) ht2 (by simp; omega))
  have cd2 : w2.cell? ⟨w.heap.size, 0, none⟩ = some (ptr p) := cell_row r0.out 0
  have l2 : w.heap.size < w2.heap.size := lt_of_block r0.out
  have HS2 := hid (small_number HS.out hcc)
  clear q0 q1 cd cn
  go_wp2_with (go_at_call 67; refine (carry_drop (hR2.alloc (.cells #[.int .i64 a, .int .i64 k, .int .i64 b] 65)) _ _ _ hk1 hk2 (name_size hn) HF.out HS2.out ?_ ?_ ?_).mono ?_; exact (Below.heap_alloc _ _ _ (lt_of_block r0.out)).trans r0.out; exact (Below.heap_alloc _ _ _ (lt_of_block r1.out)).trans r1.out; exact (Below.heap_alloc _ _ _ (lt_of_block r2.out)).trans r2.out; rintro e w3 ⟨rfl, hR3, ht3⟩)
  go_ret
  have t2 : Touch [p, mt] w w2 := ((((HTW.out.mono (by simp)).trans (Quiet.touch HQ.out []) (by simp))).alloc _).trans ht2 (by simp)
  exact ⟨rfl, hR3, ((t2.mono (by simp)).alloc _).trans ht3 (by simp)⟩
end
end Go.Proofs.YtcpncfngadablaaGreatDoor
