import Derived.Test.YtcpncfngadablaaDoorA8
namespace Go.Proofs.YtcpncfngadablaaDoor
open Go.RowKit Go.Deep

/-- The errors lie below lo. -/
structure Env (w : World) (lo : Nat) (E : Nat → Addr) : Prop where
  sents : Sents w E
  vars : 11 ≤ lo
  objs : ∀ i, i < 11 → (E i).block < lo
  room : lo ≤ w.heap.size

theorem Env.touch {w w' : World} {lo : Nat} {E : Nat → Addr} {F : List Nat} (h : Env w lo E) (ht : Touch F w w') (hF : ∀ b ∈ F, lo ≤ b) : Env w' lo E :=
  ⟨h.sents.below (ht.below h.room hF) h.vars h.objs, h.vars, h.objs, Nat.le_trans h.room ht.size⟩

section
variable {w w' : World} {E : Nat → Addr} {lo p mf mt : Nat} {D : DiskC}

theorem Rep.alloc (R : Rep w lo p mf mt D) (o : Obj) : Rep (w.alloc o) lo p mf mt D := R.touch (F := []) ((Touch.refl _ _).alloc _) (by simp)
theorem Rep.drewN (R : Rep w lo p mf mt D) (n : Nat) : Rep (w.drewN n) lo p mf mt D := R.kept fun _ _ => rfl
theorem Touch.drewN {F : List Nat} {a : World} (h : Touch F a w) (n : Nat) : Touch F a (w.drewN n) := ⟨h.os, h.tape, h.output, h.size, h.block⟩
theorem Env.alloc (h : Env w lo E) (o : Obj) : Env (w.alloc o) lo E := h.touch (F := []) ((Touch.refl _ _).alloc _) (by simp)
theorem Env.drewN (h : Env w lo E) (n : Nat) : Env (w.drewN n) lo E := h.touch (F := []) ((Touch.refl _ _).drewN n) (by simp)

set_option maxRecDepth 100000 in
set_option maxHeartbeats 400000 in
theorem carry_create (R : Rep w lo p mf mt D) {s : ByteArray} {a k b : Int} (bd bn : Nat) (hk1 : (k == 1) = false) (hk2 : (k == 2) = false) (hs : s.size ≤ 32) (hfind : findE D.ents (nm s) = none) (hlo : lo ≤ w.heap.size) (hsmall : D.ents.length ≤ 1099511627776)
    (hbd : w.heap[bd]? = some (.cells #[ptr p] 23 (0, 0))) (hbn : w.heap[bn]? = some (.cells #[.string s] 9 (0, 0))) :
    Calls Tryd.prog 56 #[ptr p, .agg #[.int .i64 a, .int .i64 k, .int .i64 b], .func (.func 58) #[] #[ptr bd, ptr bn]] w fun e w' => e = .returned .nilIface ∧ (∃ fb, w.heap.size ≤ fb ∧ Rep w' lo p mf mt { D with ents := insE ⟨nm s, ⟨false, []⟩, ⟨fb, .slice none 0 0, []⟩⟩ D.ents }) ∧ Touch [mf] w w' := by
  have k0 := R.cell 0
  simp only [dRow] at k0
  have hp := lt_of_block R.row
  have lbd := lt_of_block hbd
  have lbn := lt_of_block hbn
  have H := hid (fun o : Obj => create1_any (R.alloc o) (D.B : Int) bd bn hs hfind (Nat.le_trans hlo (by simp)) hsmall ((Below.heap_alloc w o bd lbd).trans hbd) ((Below.heap_alloc w o bn lbn).trans hbn))
  clear hbd hbn hfind
  go_enter Tryd.func56, Tryd.ntmps56
  go_wp2_with (go_at_call 58; refine (H.out _).mono ?_; rintro e w1 ⟨rfl, ⟨fb, hfb, hR⟩, ht⟩)
  go_ret
  have h1 : Touch [mf] w w1 := ((Touch.refl [mf] w).alloc _).trans ht (by simp)
  exact ⟨rfl, ⟨fb, Nat.le_trans (by simp) hfb, hR⟩, h1⟩

/-! ### create -/
set_option maxHeartbeats 400000 in
theorem create_err (V : Env w lo E) (s : ByteArray) (i : Nat) (hi : i < 11) (h4 : i ≠ 4)
    (hf : ∀ o1 o2 : Obj, Calls Tryd.prog 47 #[ptr p, .string s] ((w.alloc o1).alloc o2) fun e w' => e = .returned (.tuple #[.pointer none, errV E i]) ∧ ∃ n, w' = ((w.alloc o1).alloc o2).drewN n) :
    Calls Tryd.prog 42 #[ptr p, .string s] w fun e w' => e = .returned (errV E i) ∧ Touch [] w w' := by
  have H := hid hf
  have H2 := hid (fun (o1 o2 : Obj) (n : Nat) => is_at (((V.alloc o1).alloc o2).drewN n).sents i 4 hi (by omega))
  have c4 : ∀ (o1 o2 : Obj) (n : Nat), (((w.alloc o1).alloc o2).drewN n).cell? ⟨4, 0, none⟩ = some (errV E 4) := fun o1 o2 n => (((V.alloc o1).alloc o2).drewN n).sents.var 4 (by omega)
  have hd : decide (i = 4) = false := by simp [h4]
  clear hf h4 hi
  go_enter Tryd.func42, Tryd.ntmps42
  go_wp2_with (first | (go_at_call 47; refine (H.out _ _).mono ?_; rintro e w1 ⟨rfl, n, rfl⟩) | (go_at_call 39; refine (H2.out _ _ _).mono ?_; rintro e w1 ⟨rfl, rfl⟩))
  go_ret
  exact ⟨rfl, (((Touch.refl [] w).alloc _).alloc _).drewN _⟩

theorem create_off (V : Env w lo E) (R : Rep w lo p mf mt D) (s : ByteArray) (ho : D.on = false) :
    Calls Tryd.prog 42 #[ptr p, .string s] w fun e w' => e = .returned (errV E 2) ∧ Touch [] w w' :=
  create_err V s 2 (by omega) (by omega) fun o1 o2 => find_off ((V.alloc o1).alloc o2).sents ((R.alloc o1).alloc o2) s ho
theorem create_bad (V : Env w lo E) (R : Rep w lo p mf mt D) (s : ByteArray) (ho : D.on = true) (hn : nameB s = false) :
    Calls Tryd.prog 42 #[ptr p, .string s] w fun e w' => e = .returned (errV E 3) ∧ Touch [] w w' :=
  create_err V s 3 (by omega) (by omega) fun o1 o2 => find_bad ((V.alloc o1).alloc o2).sents ((R.alloc o1).alloc o2) s ho hn

set_option maxHeartbeats 400000 in
theorem create_there (V : Env w lo E) (R : Rep w lo p mf mt D) (s : ByteArray) (ho : D.on = true) (hn : nameB s = true) {e0 : Ent} (hf : findE D.ents (nm s) = some e0) :
    Calls Tryd.prog 42 #[ptr p, .string s] w fun e w' => e = .returned (errV E 5) ∧ Touch [] w w' := by
  have H := hid (fun o1 o2 : Obj => find_some ((R.alloc o1).alloc o2) s ho hn hf)
  have c5 : ∀ (o1 o2 : Obj) (n : Nat), (((w.alloc o1).alloc o2).drewN n).cell? ⟨5, 0, none⟩ = some (errV E 5) := fun o1 o2 n => (((V.alloc o1).alloc o2).drewN n).sents.var 5 (by omega)
  clear hf
  go_enter Tryd.func42, Tryd.ntmps42
  go_wp2_with (go_at_call 47; refine (H.out _ _).mono ?_; rintro e w1 ⟨rfl, n, rfl⟩)
  go_ret
  exact ⟨rfl, (((Touch.refl [] w).alloc _).alloc _).drewN _⟩

/-- the numbers behind a call that is numbered. -/
def DiskC.numbered (D : DiskC) : DiskC := { D with T := D.T.del (.int .i64 D.c.calls), c := { D.c with calls := D.c.calls + 1 } }

theorem number_row {W w2 : World} {b : Nat} {o : Obj} {n : Nat} (hb : W.heap[b]? = some o) (ht : Touch [p, mt] (W.drewN n) w2) (h1 : p < b) (h2 : mt < b) : w2.heap[b]? = some o :=
  (ht.block b (lt_of_block (w := W) hb) (by simp; omega)).trans hb
theorem number_box {W w2 : World} {b : Nat} {v : Value} {t : TypeId} {n : Nat} (hb : W.heap[b]? = some (.cells #[v] t)) (ht : Touch [p, mt] (W.drewN n) w2) (h1 : p < b) (h2 : mt < b) : w2.cell? ⟨b, 0, none⟩ = some v :=
  cell_row (number_row hb ht h1 h2) 0

set_option maxRecDepth 100000 in
set_option maxHeartbeats 400000 in
theorem create_ok (V : Env w lo E) (R : Rep w lo p mf mt D) (s : ByteArray) (ho : D.on = true) (hn : nameB s = true) (hf : findE D.ents (nm s) = none) {a k b : Int} (hT : TroubleIs D.T D.c.calls a k b) (hk1 : (k == 1) = false) (hk2 : (k == 2) = false)
    (h0 : 0 ≤ D.c.calls) (h1 : D.c.calls ≤ 1099511627776) (hsmall : D.ents.length ≤ 1099511627776) :
    Calls Tryd.prog 42 #[ptr p, .string s] w fun e w' => e = .returned .nilIface ∧ (∃ fb, w.heap.size ≤ fb ∧ Rep w' lo p mf mt { D.numbered with ents := insE ⟨nm s, ⟨false, []⟩, ⟨fb, .slice none 0 0, []⟩⟩ D.ents }) ∧ Touch [p, mf, mt] w w' := by
  obtain ⟨W, hW⟩ : ∃ W, W = (w.alloc (.cells #[ptr p] 23)).alloc (.cells #[.string s] 9) := ⟨_, rfl⟩
  have hW1 : W.heap[w.heap.size]? = some (.cells #[ptr p] 23) ∧ W.heap[w.heap.size + 1]? = some (.cells #[.string s] 9) := by rw [hW]; exact heap_two w _ _
  have hTW : Touch [] w W := by rw [hW]; exact ((Touch.refl [] w).alloc _).alloc _
  have VW : Env W lo E := V.touch hTW (by simp)
  have RW : Rep W lo p mf mt D := R.touch hTW (by simp)
  have H := hid (find_none VW.sents RW s ho hn hf)
  have H2 := hid (fun n : Nat => is_at (VW.drewN n).sents 4 4 (by omega) (by omega))
  have c4 : ∀ n : Nat, (W.drewN n).cell? ⟨4, 0, none⟩ = some (errV E 4) := fun n => (VW.drewN n).sents.var 4 (by omega)
  have cd : ∀ n : Nat, (W.drewN n).cell? ⟨w.heap.size, 0, none⟩ = some (ptr p) := fun n => cell_row (w := W.drewN n) hW1.1 0
  have cn : ∀ n : Nat, (W.drewN n).cell? ⟨w.heap.size + 1, 0, none⟩ = some (.string s) := fun n => cell_row (w := W.drewN n) hW1.2 0
  have HV := hid VW
  have HR := hid RW
  have HW := hid hW1
  have HF := hid hf
  have HTW := hid hTW
  have HE := hid hW
  have hp := lt_of_block R.row
  have hmf := R.files.lt
  have hmt : mt < w.heap.size := R.lt mt (by simp [DiskC.foot])
  clear hf V R VW RW hW1 hTW hW
  go_enter Tryd.func42, Tryd.ntmps42
  go_wp2_with fail
  rw [← HE.out]
  refine H.out.mono ?_
  rintro e w1 ⟨rfl, n, rfl⟩
  go_wp2_with (go_at_call 39; refine (H2.out _).mono ?_; rintro e w1 ⟨rfl, rfl⟩)
  go_region_held3 (fun W' => W'.cell? ⟨w.heap.size, 0, none⟩ = some (ptr p)) (go_keep)
    (first
      | (go_at_call 57; refine (number_any (HR.out.drewN _) hT h0 h1).mono ?_; rintro e w2 ⟨rfl, hR2, ht2⟩; have hb2 := HW.out; have z2 : w2.cell? ⟨w.heap.size, 0, none⟩ = some (ptr p) := number_box hb2.1 ht2 hp hmt; have q2 := hid (number_row hb2.1 ht2 hp hmt); have q3 := hid (number_row hb2.2 ht2 (by omega) (by omega)); clear hb2)
      | (go_at_call 56; refine (carry_create hR2 _ _ hk1 hk2 (name_size hn) HF.out ?_ hsmall q2.out q3.out).mono ?_; exact Nat.le_trans HV.out.room ht2.size; rintro e w3 ⟨rfl, ⟨fb, hfb, hR3⟩, ht3⟩; have z3 : w3.cell? ⟨w.heap.size, 0, none⟩ = some (ptr p) := (ht3.cell (p := ⟨w.heap.size, 0, none⟩) (lt_of_block q2.out) (by simp; omega)).trans z2))
  all_goals
    go_wp2
    go_ret
    have t3 : Touch [p, mf, mt] w w3 := (((HTW.out.mono (by simp)).drewN _).trans ht2 (by simp)).trans ht3 (by simp)
    exact ⟨rfl, ⟨fb, Nat.le_trans (Nat.le_trans HTW.out.size ht2.size) hfb, hR3⟩, t3⟩
end
end Go.Proofs.YtcpncfngadablaaDoor
