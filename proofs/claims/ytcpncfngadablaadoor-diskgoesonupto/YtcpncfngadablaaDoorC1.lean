import Derived.Test.YtcpncfngadablaaDoorB5
namespace Go.Proofs.YtcpncfngadablaaDoor
open Go.RowKit Go.Deep

section
variable {w w' : World} {E : Nat → Addr} {lo p mf mt : Nat} {D : DiskC}

/-! ### put -/
set_option maxHeartbeats 400000 in
theorem put_err (s : ByteArray) (i : Nat) (bv : Value)
    (hf : ∀ o1 o2 : Obj, Calls Tryd.prog 47 #[ptr p, .string s] ((w.alloc o1).alloc o2) fun e w' => e = .returned (.tuple #[.pointer none, errV E i]) ∧ ∃ n, w' = ((w.alloc o1).alloc o2).drewN n) {sa : Option Addr} {n c : Nat} (hbv : bv = .slice sa n c) :
    Calls Tryd.prog 43 #[ptr p, .string s, bv] w fun e w' => e = .returned (errV E i) ∧ Touch [] w w' := by
  subst hbv
  have H := hid hf
  clear hf
  go_enter Tryd.func43, Tryd.ntmps43
  go_wp2_with (go_at_call 47; refine (H.out _ _).mono ?_; rintro e w1 ⟨rfl, hq⟩; have HQ := hid (Quiet.touch hq []); clear hq)
  go_ret
  exact ⟨rfl, ((((Touch.refl [] w).alloc _).alloc _).trans HQ.out (by simp)).alloc _⟩

set_option maxRecDepth 100000 in
set_option maxHeartbeats 400000 in
theorem put_no (V : Env w lo E) (R : Rep w lo p mf mt D) (s : ByteArray) (ho : D.on = true) (hn : nameB s = true) {e0 : Ent} (hf : findE D.ents (nm s) = some e0) {sa : Option Addr} {n c : Nat} (j : Nat)
    (hj : (e0.file.shut = true ∧ j = 6) ∨ (e0.file.shut = false ∧ n ≠ D.B ∧ j = 8) ∨ (e0.file.shut = false ∧ n = D.B ∧ D.Bs ≤ D.c.used ∧ j = 9)) :
    Calls Tryd.prog 43 #[ptr p, .string s, .slice sa n c] w fun e w' => e = .returned (errV E j) ∧ Touch [] w w' := by
  obtain ⟨W, hW⟩ : ∃ W, W = (w.alloc (.cells #[ptr p] 23)).alloc (.cells #[.slice sa n c] 31) := ⟨_, rfl⟩
  have hW1 : W.heap[w.heap.size]? = some (.cells #[ptr p] 23) ∧ W.heap[w.heap.size + 1]? = some (.cells #[.slice sa n c] 31) := by rw [hW]; exact heap_two w _ _
  have hTW : Touch [] w W := by rw [hW]; exact ((Touch.refl [] w).alloc _).alloc _
  have VW : Env W lo E := V.touch hTW (by simp)
  have RW : Rep W lo p mf mt D := R.touch hTW (by simp)
  have H := hid (find_some RW s ho hn hf)
  have hat := RW.each e0 (findE_mem hf).1
  have hrow := hat.row
  have lfb := lt_of_block hrow
  have hp := lt_of_block RW.row
  have c0 := cell_row hrow 0
  simp at c0
  have x0 := RW.cell 0
  have x1 := RW.cell 1
  have x10 := RW.cell 10
  simp only [dRow] at x0 x1 x10
  have c6 := VW.sents.var 6 (by omega)
  have c8 := VW.sents.var 8 (by omega)
  have c9 := VW.sents.var 9 (by omega)
  have l9 : 9 < W.heap.size := by have := VW.vars; have := VW.room; omega
  have cd := cell_row hW1.1 0
  have cb := cell_row hW1.2 0
  have lz : w.heap.size + 1 < W.heap.size := lt_of_block hW1.2
  simp at cd cb
  have HE := hid hW
  have HTW := hid hTW
  clear hf R RW hW1 hTW hW V VW hat hrow
  rcases hj with ⟨hs, rfl⟩ | ⟨hs, hne, rfl⟩ | ⟨hs, rfl, hu, rfl⟩
  all_goals
    rw [hs] at c0
    simp at c0
    clear hs
  · go_enter Tryd.func43, Tryd.ntmps43
    go_wp2_with fail
    rw [← HE.out]
    refine H.out.mono ?_
    rintro e w1 ⟨rfl, hq⟩
    have d0 := (Quiet.cell hq _).trans c0
    have d6 := (Quiet.cell hq _).trans c6
    have ee := Quiet.heap hq
    have l1 : e0.lay.fb < w1.heap.size := by rw [ee]; exact lfb
    have l6 : 6 < w1.heap.size := by rw [ee]; omega
    have HQ := hid (Quiet.touch hq [])
    clear hq ee c0 c6 c8 c9 x0 x1 x10 cd cb lfb hp l9 lz
    go_wp2
    go_ret
    exact ⟨rfl, (HTW.out.trans HQ.out (by simp)).alloc _⟩
  · have hnb : ((n : Int) != (D.B : Int)) = true := by simp; omega
    go_enter Tryd.func43, Tryd.ntmps43
    go_wp2_with fail
    rw [← HE.out]
    refine H.out.mono ?_
    rintro e w1 ⟨rfl, hq⟩
    have d0 := (Quiet.cell hq _).trans c0
    have d8 := (Quiet.cell hq _).trans c8
    have y0 := (Quiet.cell hq _).trans x0
    have yd := (Quiet.cell hq _).trans cd
    have yb := (Quiet.cell hq _).trans cb
    have ee := Quiet.heap hq
    have l1 : e0.lay.fb < w1.heap.size := by rw [ee]; exact lfb
    have l2 : p < w1.heap.size := by rw [ee]; exact hp
    have l3 : w.heap.size < w1.heap.size := by rw [ee]; omega
    have l4 : w.heap.size + 1 < w1.heap.size := by rw [ee]; omega
    have l8 : 8 < w1.heap.size := by rw [ee]; omega
    have HQ := hid (Quiet.touch hq [])
    clear hq ee c0 c6 c8 c9 x0 x1 x10 cd cb lfb hp l9 lz hne
    go_wp2
    go_quiet (fail)
    go_wp2
    go_ret
    exact ⟨rfl, ((HTW.out.trans HQ.out (by simp)).alloc _).drewN _⟩
  · have hnb : ((D.B : Int) != (D.B : Int)) = false := by simp
    go_enter Tryd.func43, Tryd.ntmps43
    go_wp2_with fail
    rw [← HE.out]
    refine H.out.mono ?_
    rintro e w1 ⟨rfl, hq⟩
    have d0 := (Quiet.cell hq _).trans c0
    have d9 := (Quiet.cell hq _).trans c9
    have y0 := (Quiet.cell hq _).trans x0
    have y1 := (Quiet.cell hq _).trans x1
    have y10 := (Quiet.cell hq _).trans x10
    have yd := (Quiet.cell hq _).trans cd
    have yb := (Quiet.cell hq _).trans cb
    have ee := Quiet.heap hq
    have l1 : e0.lay.fb < w1.heap.size := by rw [ee]; exact lfb
    have l2 : p < w1.heap.size := by rw [ee]; exact hp
    have l3 : w.heap.size < w1.heap.size := by rw [ee]; omega
    have l4 : w.heap.size + 1 < w1.heap.size := by rw [ee]; omega
    have l9' : 9 < w1.heap.size := by rw [ee]; omega
    have HQ := hid (Quiet.touch hq [])
    clear hq ee c0 c6 c8 c9 x0 x1 x10 cd cb lfb hp l9 lz
    go_wp2
    go_quiet (fail)
    go_wp2
    go_quiet (fail)
    go_wp2
    go_ret
    exact ⟨rfl, (((HTW.out.trans HQ.out (by simp)).alloc _).drewN _)⟩
end
end Go.Proofs.YtcpncfngadablaaDoor
