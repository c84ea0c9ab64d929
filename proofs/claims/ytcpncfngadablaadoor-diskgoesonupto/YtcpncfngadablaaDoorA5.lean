import Derived.Test.YtcpncfngadablaaDoorA4
namespace Go.Proofs.YtcpncfngadablaaDoor
open Go.RowKit Go.Deep

section
variable {w : World} {E : Nat → Addr} {lo p mf mt : Nat} {D : DiskC}

/-- What befalls call n, by the map of troubles. -/
def TroubleIs (T : DataW Unit) (n a k b : Int) : Prop := T.atKey (.int .i64 n) (.agg [.lit (.int .i64 0), .lit (.int .i64 0), .lit (.int .i64 0)]) = .agg [.lit (.int .i64 a), .lit (.int .i64 k), .lit (.int .i64 b)]

theorem trElem_inv {v : Value} {a k b : Int} {ps : List MemPlace} (h : trElem v = some (.agg [.lit (.int .i64 a), .lit (.int .i64 k), .lit (.int .i64 b)], ps)) : v = .agg #[.int .i64 a, .int .i64 k, .int .i64 b] := by
  unfold trElem at h
  split at h
  · rename_i cs
    split at h
    · rename_i a' k' b' hl
      simp at h
      obtain ⟨⟨rfl, rfl, rfl⟩, _⟩ := h
      have : cs = #[.int .i64 a', .int .i64 k', .int .i64 b'] := Array.toList_inj.1 hl
      rw [this]
    · simp at h
  · simp at h
theorem Tryd.zero110 (w : World) : (zeroValue 110).run Tryd.prog w = .ok (.agg #[.int .i64 0, .int .i64 0, .int .i64 0]) w := by kernel_rfl

theorem i64_wf {n : Int} (h : 0 ≤ n) (h2 : n ≤ 4611686018427387904) : (Lit.int .i64 n).wf = true := by
  have e1 : IntKind.min .i64 = -9223372036854775808 := by decide
  have e2 : IntKind.max .i64 = 9223372036854775807 := by decide
  simp only [Lit.wf, e1, e2, Bool.and_eq_true, decide_eq_true_eq]
  omega

theorem trouble_look {n : Nat} {T : DataW Unit} {at_ a k b : Int} (hT : w.ownsMap Tryd.prog 3 trElem mt n T) (h : TroubleIs T at_ a k b) (h0 : 0 ≤ at_) (h1 : at_ ≤ 4611686018427387904) :
    (Instr.lookup 70 (.map (some mt)) (.int .i64 at_) false).run Tryd.prog w = .ok (.agg #[.int .i64 a, .int .i64 k, .int .i64 b]) w := by
  obtain ⟨v, ps, hrun, hv⟩ := hT.lookup (t := 70) (e := 110) (Maps.int_keyed Tryd.underlying3) Tryd.underlying70 (Tryd.zero110 w) (zd := .agg [.lit (.int .i64 0), .lit (.int .i64 0), .lit (.int .i64 0)]) (zp := []) rfl (Maps.keyOf_int_mk Tryd.underlying3 (i64_wf h0 h1))
  unfold TroubleIs at h
  rw [h] at hv
  rw [hrun, trElem_inv hv]

theorem Tryd.delTy : True := trivial

/-- one more alloc: the new block holds it. -/
theorem heap_two (w : World) (o1 o2 : Obj) : ((w.alloc o1).alloc o2).heap[w.heap.size]? = some o1 ∧ ((w.alloc o1).alloc o2).heap[w.heap.size + 1]? = some o2 := by
  refine ⟨?_, ?_⟩
  · rw [Below.heap_alloc _ _ _ (by simp)]; exact heap_alloc_new w o1
  · have := heap_alloc_new (w.alloc o1) o2
    simpa using this

set_option maxRecDepth 100000 in
set_option maxHeartbeats 400000 in
theorem number_any (R : Rep w lo p mf mt D) {a k b : Int} (h : TroubleIs D.T D.c.calls a k b) (h0 : 0 ≤ D.c.calls) (h1 : D.c.calls ≤ 1099511627776) :
    Calls Tryd.prog 57 #[ptr p] w fun e w' => e = .returned (.agg #[.int .i64 a, .int .i64 k, .int .i64 b]) ∧ Rep w' lo p mf mt { D with T := D.T.del (.int .i64 D.c.calls), c := { D.c with calls := D.c.calls + 1 } } ∧ Touch [p, mt] w w' := by
  have k4 := R.cell 4
  have k5 := R.cell 5
  simp only [dRow] at k4 k5
  have f5 := R.unfrozen 5
  have hp := lt_of_block R.row
  obtain ⟨n, hT⟩ := R.troubles
  have hmt := hT.lt
  have hne : p ≠ mt ∧ p ≠ mf ∧ mf ≠ mt := by
    have := R.apart
    simp [DiskC.foot] at this
    exact ⟨this.1.2.1, this.1.1, this.2.1.1⟩
  obtain ⟨W0, hW0⟩ : ∃ W0, W0 = w.setCell ⟨p, 5, none⟩ (.int .i64 (D.c.calls + 1)) := ⟨_, rfl⟩
  have hT0 : W0.ownsMap Tryd.prog 3 trElem mt n D.T := by rw [hW0]; exact hT.setCell (by simpa using hne.1.symm) _
  have hz0 : W0.heap.size = w.heap.size := by rw [hW0]; simp [World.setCell]
  have hl := trouble_look (hT0.alloc (.cells #[.int .i64 0, .int .i64 0, .int .i64 0] 110)) h h0 (by omega)
  obtain ⟨w3, hdel, hT3, hturn⟩ := ((hT0.alloc (.cells #[.int .i64 0, .int .i64 0, .int .i64 0] 110)).alloc (.cells #[.int .i64 a, .int .i64 k, .int .i64 b] 110)).drop (t := 70) (e := 110) (Maps.int_keyed Tryd.underlying3) Tryd.underlying70 (Maps.keyOf_int_mk Tryd.underlying3 (i64_wf h0 (by omega))) 0
  have hg := hturn.grown
  have hb := heap_two W0 (.cells #[.int .i64 0, .int .i64 0, .int .i64 0] 110) (.cells #[.int .i64 a, .int .i64 k, .int .i64 b] 110)
  have q2 : w3.heap[w.heap.size]? = some (.cells #[.int .i64 0, .int .i64 0, .int .i64 0] 110) := by
    rw [hg.block _ (by simp; omega) (by simp; omega), ← hz0]
    exact hb.1
  have q4 : w3.heap[w.heap.size + 1]? = some (.cells #[.int .i64 a, .int .i64 k, .int .i64 b] 110) := by
    rw [hg.block _ (by simp; omega) (by simp; omega), ← hz0]
    exact hb.2
  have d0 := cell_row q4 0
  have d1 := cell_row q4 1
  have d2 := cell_row q4 2
  have e0 := unfrozen_row q2 0
  have e1 := unfrozen_row q2 1
  have e2 := unfrozen_row q2 2
  have q20 := cell_row q2 0
  have q21 := cell_row q2 1
  have q22 := cell_row q2 2
  simp at d0 d1 d2 q20 q21 q22
  have HQ2 := hid q2
  have HQ4 := hid q4
  have HZ := hid hz0
  clear hb q2 q4 hz0 h
  subst hW0
  go_enter Tryd.func57, Tryd.ntmps57
  go_wp2
  refine bodyPost_ret (v := .agg #[.int .i64 a, .int .i64 k, .int .i64 b]) (by simp [results, Tryd.results57, go_sem, q20, q21, q22]) rfl ⟨rfl, ?_⟩
  have ht : Touch [p, mt] w (((w3.setCell ⟨w.heap.size, 0, none⟩ (.int .i64 a)).setCell ⟨w.heap.size, 1, none⟩ (.int .i64 k)).setCell ⟨w.heap.size, 2, none⟩ (.int .i64 b)) :=
    ((((((Touch.refl [p, mt] w).setCell (p := ⟨p, 5, none⟩) (by simp) _).alloc _).alloc _).grown hg (by simp)).setCell (by simp) _).setCell (by simp) _ |>.setCell (by simp) _
  have hpz : p ≠ w.heap.size := by omega
  refine ⟨R.reset rfl rfl ?_ ⟨n, ?_⟩ ht, ht⟩
  · rw [Below.heap_setCell _ _ _ _ hpz, Below.heap_setCell _ _ _ _ hpz, Below.heap_setCell _ _ _ _ hpz, hg.block p (by simp; omega) (by simp [hne.1]), Below.heap_alloc _ _ _ (by simp; omega), Below.heap_alloc _ _ _ (by simp [World.setCell]; omega), heap_setCell_row R.row 5]
    rfl
  · have hmz : mt ≠ w.heap.size := by omega
    exact ((hT3.setCell (by simpa using hmz) _).setCell (by simpa using hmz) _).setCell (by simpa using hmz) _
end
end Go.Proofs.YtcpncfngadablaaDoor
