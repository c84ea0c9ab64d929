import Derived.Test.YthehcjjckabljaaGreatDoorZ12
/-
  Reader.Peek.
-/
namespace Go.Proofs.YthehcjjckabljaaGreatDoor
open Go.RowKit Go.Deep
set_option linter.unusedSimpArgs false
set_option linter.unusedVariables false

/-- what is left of a block that was read. -/
structure LsAt (w : World) (g : Nat) (lv : Value) (l : List Rc) : Prop where
  val : ∃ o c, lv = .slice o l.length c ∧ l.length ≤ c ∧ (l ≠ [] → ∃ off, o = some ⟨g, off, none⟩ ∧ RdR w g off l ∧ g < w.heap.size)
theorem LsAt.touch {w w' : World} {g : Nat} {lv : Value} {l : List Rc} {G : List Nat} (h : LsAt w g lv l) (t : Touch G w w') (hG : g ∉ G) : LsAt w' g lv l := by
  obtain ⟨o, c, h1, h2, h3⟩ := h.val
  refine ⟨o, c, h1, h2, fun hl => ?_⟩
  obtain ⟨off, h4, h5, h6⟩ := h3 hl
  exact ⟨off, h4, h5.touch t h6 hG, Nat.lt_of_lt_of_le h6 t.size⟩
theorem LsAt.none (w : World) (g : Nat) : LsAt w g (.slice none 0 0) [] := ⟨Option.none, 0, rfl, Nat.le_refl _, fun h => absurd rfl h⟩

abbrev Rc.val (r : Rc) : Value := recV r.1 r.2.1 r.2.2.1 r.2.2.2
abbrev zeroR : Value := .agg #[.int .u64 0, .int .u64 0, .int .u64 0, .int .u64 0]

section
variable {w w' : World} {b : Bn} {n : Nat} {A : PubA} {s : Pu.St} {F : List Nat} {kb rb : Nat} {K : Nat} {T : Int} {x : ByteArray}

theorem WentN.box {W w2 W2 : World} {n0 m : Nat} {A0 A' : PubA} {s0 s' : Pu.St} {G B N : List Nat} (S : Stand w b n0 A0 s0 F) (t1 : Touch [] w W) (h : WentN W w2 b m A' s' F G N) (t2 : Touch B w2 W2) (hB : ∀ y ∈ B, w.heap.size ≤ y ∧ y < W.heap.size) : WentN w W2 b m A' s' F G N := by
  obtain ⟨F', S', t', f', hN⟩ := h
  refine ⟨F', S'.touch t2 (fun y hy => ⟨fun hx => ?_, Nat.le_trans S.room (hB y hy).1⟩), ((t1.mono (by simp)).trans t' (fun y hy => .inl hy)).trans t2 (fun y hy => .inr (hB y hy).1), fun y hy => ?_, fun y hy => ?_⟩
  · have h1 := hB y hy
    rcases f' y hx with h | h
    · have := S.lt y h; omega
    · omega
  · rcases f' y hy with h | h
    · exact .inl h
    · exact .inr (Nat.le_trans t1.size h)
  · obtain ⟨h1, h2, h3⟩ := hN y hy
    exact ⟨h1, Nat.le_trans t1.size h2, Nat.lt_of_lt_of_le h3 t2.size⟩

theorem box4 {w2 : World} {q : Nat} {t : TypeId} {u0 u1 u2 u3 : Value} (hr : w2.heap[q]? = some (.cells #[u0, u1, u2, u3] t (0, 0))) (v0 v1 v2 v3 : Value) :
    ∃ W2, W2 = (((w2.setCell ⟨q, 0, none⟩ v0).setCell ⟨q, 1, none⟩ v1).setCell ⟨q, 2, none⟩ v2).setCell ⟨q, 3, none⟩ v3 ∧ W2.heap[q]? = some (.cells #[v0, v1, v2, v3] t (0, 0)) ∧ Touch [q] w2 W2 := by
  refine ⟨_, rfl, ?_, ?_⟩
  · refine (heap_setCell_row (heap_setCell_row (heap_setCell_row (heap_setCell_row hr 0 _) 1 _) 2 _) 3 _).trans ?_
    simp
  · repeat' refine Touch.setCell ?_ (by simp) _
    exact Touch.refl _ _

set_option maxRecDepth 100000 in
set_option maxHeartbeats 4000000 in
theorem Peek_have {kind blocks taken g : Nat} {lv : Value} {back : Bool} {r : Rc} {t : List Rc} (hrow : w.heap[rb]? = some (.cells (rrow kb x kind lv 0 back blocks taken) 289 (0, 0))) (hl : LsAt w g lv (r :: t)) (hlen : (r :: t).length ≤ 65536) :
    Calls Tryz.prog 198 #[ptr rb] w fun e w' => e = .returned (.tuple #[r.val, .bool true, .int .i64 0]) ∧ Touch [] w w' := by
  obtain ⟨W, hW⟩ : ∃ W, W = w.alloc (.cells #[.int .u64 0, .int .u64 0, .int .u64 0, .int .u64 0] 176) := ⟨_, rfl⟩
  have t0 : Touch [] w W := by rw [hW]; exact (Touch.refl [] w).alloc _
  have hb : W.heap[w.heap.size]? = some (.cells #[.int .u64 0, .int .u64 0, .int .u64 0, .int .u64 0] 176) := by rw [hW]; exact heap_alloc_new w _
  have hrowW := (t0.block rb (lt_of_block hrow) (by simp)).trans hrow
  obtain ⟨o, c, rfl, hcc, hoff⟩ := (hl.touch t0 (by simp)).val
  obtain ⟨off, rfl, hrd, hgl⟩ := hoff (by simp)
  have HRf := hid (refusal_any (x := x) (kb := kb) (kind := (kind : Int)) (lv := .slice (some ⟨g, off, none⟩) (r :: t).length c) (dead := 0) (cl := false) (w := W) (hb := rb) ⟨_, _, hrowW, rfl, rfl, rfl, rfl, rfl, rfl⟩)
  simp only [Bool.false_eq_true, if_false] at HRf
  have c3 := cell_row hrowW 3
  have c7 := cell_row hrowW 7
  have c8 := cell_row hrowW 8
  simp only [List.getElem?_toArray, List.getElem?_cons_zero, List.getElem?_cons_succ] at c3 c7 c8
  have hz : ∀ i, i < 4 → W.cell? ⟨g, off + i, none⟩ = (Rc.vals r)[i]? := fun i hi => by
    have := hrd 0 (by simp) i hi
    simpa using this
  have z0 := hz 0 (by omega)
  have z1 := hz 1 (by omega)
  have z2 := hz 2 (by omega)
  have z3 := hz 3 (by omega)
  simp only [Rc.vals, recL, Nat.add_zero, List.getElem?_cons_zero, List.getElem?_cons_succ] at z0 z1 z2 z3
  have q := fun i => cell_row hb i
  have u := fun i => unfrozen_row hb i
  have hlt : 0 < (r :: t).length := by simp
  generalize (r :: t).length = L at hlt hlen hcc c3 HRf
  have hne0 : ¬ (L : Int) = 0 := by omega
  have hd0 : decide ((L : Int) = 0) = false := by simpa using hne0
  have hd1 : ((L : Int) == 0) = false := by simpa using hne0
  have HT0 := hid t0
  have HE := hid hW
  have HB := hid hb
  have hlb := lt_of_block hb
  clear hrow hl t0 hb hrowW hrd hoff hz hW
  go_enter Tryz.func198, Tryz.ntmps198
  go_wp2_with fail
  rw [← HE.out]
  go_wp2_with (go_at_call 148; refine HRf.out.mono ?_; rintro e w1 ⟨rfl, hh⟩; have hh := hh.symm; subst hh)
  go_quiet (fail)
  go_wp2_with fail
  obtain ⟨W2, hW2, q2, t2⟩ := box4 (w2 := W.drewN nq) HB.out (.int .u64 (r.1 : Int)) (.int .u64 (r.2.1 : Int)) (.int .u64 (r.2.2.1 : Int)) (.int .u64 (r.2.2.2 : Int))
  rw [← hW2]
  clear q u hW2
  have q := fun i => cell_row q2 i
  refine bodyPost_ret (v := .tuple #[r.val, .bool true, .int .i64 0]) (by simp [results, Tryz.results198, go_sem, q]) rfl ⟨rfl, ?_⟩
  exact (HT0.out.drewN nq).trans t2 (by simp)

set_option maxRecDepth 100000 in
set_option maxHeartbeats 4000000 in
theorem Peek_end {kind blocks : Nat} {o : Option Addr} {c : Nat} {back : Bool} (hrow : w.heap[rb]? = some (.cells (rrow kb x kind (.slice o 0 c) 0 back blocks blocks) 289 (0, 0))) :
    Calls Tryz.prog 198 #[ptr rb] w fun e w' => e = .returned (.tuple #[zeroR, .bool false, .int .i64 0]) ∧ Touch [] w w' := by
  obtain ⟨W, hW⟩ : ∃ W, W = w.alloc (.cells #[.int .u64 0, .int .u64 0, .int .u64 0, .int .u64 0] 176) := ⟨_, rfl⟩
  have t0 : Touch [] w W := by rw [hW]; exact (Touch.refl [] w).alloc _
  have hb : W.heap[w.heap.size]? = some (.cells #[.int .u64 0, .int .u64 0, .int .u64 0, .int .u64 0] 176) := by rw [hW]; exact heap_alloc_new w _
  have hrowW := (t0.block rb (lt_of_block hrow) (by simp)).trans hrow
  have HRf := hid (refusal_any (x := x) (kb := kb) (kind := (kind : Int)) (lv := .slice o 0 c) (dead := 0) (cl := false) (w := W) (hb := rb) ⟨_, _, hrowW, rfl, rfl, rfl, rfl, rfl, rfl⟩)
  simp only [Bool.false_eq_true, if_false] at HRf
  have c3 := cell_row hrowW 3
  have c7 := cell_row hrowW 7
  have c8 := cell_row hrowW 8
  simp only [List.getElem?_toArray, List.getElem?_cons_zero, List.getElem?_cons_succ] at c3 c7 c8
  have q := fun i => cell_row hb i
  have u := fun i => unfrozen_row hb i
  have HT0 := hid t0
  have HE := hid hW
  have HB := hid hb
  have HRW := hid hrowW
  have hlb := lt_of_block hb
  have hd2 : decide ((blocks : Int) < (blocks : Int)) = false := by simp
  clear hrow t0 hb hrowW hW
  go_enter Tryz.func198, Tryz.ntmps198
  go_wp2_with fail
  rw [← HE.out]
  go_wp2_with (go_at_call 148; refine HRf.out.mono ?_; rintro e w1 ⟨rfl, hh⟩; have hh := hh.symm; subst hh)
  go_quiet (fail)
  go_wp2_with fail
  obtain ⟨W2, hW2, q2, t2⟩ := box4 (w2 := W.drewN nq) HB.out (.int .u64 0) (.int .u64 0) (.int .u64 0) (.int .u64 0)
  rw [← hW2]
  clear q u hW2
  have q := fun i => cell_row q2 i
  refine bodyPost_ret (v := .tuple #[zeroR, .bool false, .int .i64 0]) (by simp [results, Tryz.results198, go_sem, q]) rfl ⟨rfl, ?_⟩
  exact (HT0.out.drewN nq).trans t2 (by simp)

set_option maxRecDepth 100000 in
set_option maxHeartbeats 4000000 in
theorem Peek_load (S : Stand w b n A s F) {kind blocks taken : Nat} {o : Option Addr} {c : Nat} {back : Bool} (hrow : w.heap[rb]? = some (.cells (rrow kb x kind (.slice o 0 c) 0 back blocks taken) 289 (0, 0))) (htb : taken < blocks) {n1 : Nat} {A1 : PubA} {r : Rc} {t : List Rc} (hlen : (r :: t).length ≤ 65536)
    (H : ∀ W, Touch [] w W → Calls Tryz.prog 238 #[ptr rb] W fun e w' => e = .returned (.int .i64 0) ∧ ∃ g, WentN W w' b n1 A1 s F [rb] [g] ∧ w'.heap[rb]? = some (.cells (rrow kb x kind (.slice (some ⟨g, 0, none⟩) (r :: t).length (r :: t).length) 0 back blocks (taken + 1)) 289 (0, 0)) ∧ RdR w' g 0 (r :: t)) :
    Calls Tryz.prog 198 #[ptr rb] w fun e w' => e = .returned (.tuple #[r.val, .bool true, .int .i64 0]) ∧ ∃ g, WentN w w' b n1 A1 s F [rb] [g] ∧ w'.heap[rb]? = some (.cells (rrow kb x kind (.slice (some ⟨g, 0, none⟩) (r :: t).length (r :: t).length) 0 back blocks (taken + 1)) 289 (0, 0)) ∧ RdR w' g 0 (r :: t) := by
  obtain ⟨W, hW⟩ : ∃ W, W = w.alloc (.cells #[.int .u64 0, .int .u64 0, .int .u64 0, .int .u64 0] 176) := ⟨_, rfl⟩
  have t0 : Touch [] w W := by rw [hW]; exact (Touch.refl [] w).alloc _
  have hb : W.heap[w.heap.size]? = some (.cells #[.int .u64 0, .int .u64 0, .int .u64 0, .int .u64 0] 176) := by rw [hW]; exact heap_alloc_new w _
  have hrowW := (t0.block rb (lt_of_block hrow) (by simp)).trans hrow
  have HRf := hid (refusal_any (x := x) (kb := kb) (kind := (kind : Int)) (lv := .slice o 0 c) (dead := 0) (cl := false) (w := W) (hb := rb) ⟨_, _, hrowW, rfl, rfl, rfl, rfl, rfl, rfl⟩)
  simp only [Bool.false_eq_true, if_false] at HRf
  have c3 := cell_row hrowW 3
  have c7 := cell_row hrowW 7
  have c8 := cell_row hrowW 8
  simp only [List.getElem?_toArray, List.getElem?_cons_zero, List.getElem?_cons_succ] at c3 c7 c8
  have q := fun i => cell_row hb i
  have u := fun i => unfrozen_row hb i
  have HT0 := hid t0
  have HE := hid hW
  have HB := hid hb
  have HRW := hid hrowW
  have hlb := lt_of_block hb
  have hd2 : decide ((taken : Int) < (blocks : Int)) = true := by simp; omega
  have HH : Hid (∀ nq, Calls Tryz.prog 238 #[ptr rb] (W.drewN nq) fun e w' => e = .returned (.int .i64 0) ∧ ∃ g, WentN (W.drewN nq) w' b n1 A1 s F [rb] [g] ∧ w'.heap[rb]? = some (.cells (rrow kb x kind (.slice (some ⟨g, 0, none⟩) (r :: t).length (r :: t).length) 0 back blocks (taken + 1)) 289 (0, 0)) ∧ RdR w' g 0 (r :: t)) := fun nq => H _ (t0.drewN nq)
  have HS := hid S
  have lrw := lt_of_block hrow
  have hlt : 0 < (r :: t).length := by simp
  obtain ⟨L, hL⟩ : ∃ L, L = (r :: t).length := ⟨_, rfl⟩
  rw [← hL] at HH hlt hlen ⊢
  have HL := hid hL
  have hne0 : ¬ (L : Int) = 0 := by omega
  clear hrow t0 hb hrowW hW H S hL
  go_enter Tryz.func198, Tryz.ntmps198
  go_wp2_with fail
  rw [← HE.out]
  go_wp2_with (go_at_call 148; refine HRf.out.mono ?_; rintro e w1 ⟨rfl, hh⟩; have hh := hh.symm; subst hh)
  go_quiet (fail)
  go_wp2_with fail
  refine (HH.out _).mono ?_
  rintro e w1 ⟨rfl, g, hg, hr1, hrd⟩
  have d3 := cell_row hr1 3
  simp only [List.getElem?_toArray, List.getElem?_cons_zero, List.getElem?_cons_succ] at d3
  have z0 := hrd 0 (by simp) 0 (by omega)
  have z1 := hrd 0 (by simp) 1 (by omega)
  have z2 := hrd 0 (by simp) 2 (by omega)
  have z3 := hrd 0 (by simp) 3 (by omega)
  simp only [Rc.vals, recL, List.getElem_cons_zero, Nat.zero_mul, Nat.zero_add, Nat.add_zero, List.getElem?_cons_zero, List.getElem?_cons_succ] at z0 z1 z2 z3
  have hbb := (hg.choose_spec.2.1.block w.heap.size hlb (by have h1 := HS.out.lt; simp; exact ⟨fun e => by omega, fun h => Nat.lt_irrefl _ (h1 _ h)⟩)).trans HB.out
  have qb := (fun i => cell_row hbb i)
  have ub := (fun i => unfrozen_row hbb i)
  have hg0 : W.heap.size ≤ g ∧ g < w1.heap.size := ⟨(hg.choose_spec.2.2.2 g (by simp)).2.1, (hg.choose_spec.2.2.2 g (by simp)).2.2⟩
  have HG := hid hg
  have HR1 := hid hr1
  have HRR := hid hrd
  have HBB := hid hbb
  have lg := hg0.2
  have HG0 := hid hg0
  clear hg hr1 hrd hbb c3 c7 c8 q u hg0
  go_wp2_with fail
  obtain ⟨W2, hW2, q2, t2⟩ := box4 HBB.out (.int .u64 (r.1 : Int)) (.int .u64 (r.2.1 : Int)) (.int .u64 (r.2.2.1 : Int)) (.int .u64 (r.2.2.2 : Int))
  rw [← hW2]
  clear qb ub hW2
  have q := fun i => cell_row q2 i
  have hgb : w.heap.size < g := by have := HG0.out.1; omega
  refine bodyPost_ret (v := .tuple #[r.val, .bool true, .int .i64 0]) (by simp [results, Tryz.results198, go_sem, q]) rfl ⟨rfl, g, ?_, ?_, ?_⟩
  · exact WentN.box HS.out (HT0.out.drewN nq) HG.out t2 (fun y hy => by simp at hy; subst hy; exact ⟨Nat.le_refl _, hlb⟩)
  · exact (t2.block rb (lt_of_block HR1.out) (by simp; omega)).trans HR1.out
  · exact HRR.out.touch t2 lg (by simp; omega)

end
end Go.Proofs.YthehcjjckabljaaGreatDoor
/-
  Reader.Next.
-/
namespace Go.Proofs.YthehcjjckabljaaGreatDoor
open Go.RowKit Go.Deep
set_option linter.unusedSimpArgs false
set_option linter.unusedVariables false

section
variable {w w' : World} {b : Bn} {n : Nat} {A : PubA} {s : Pu.St} {F : List Nat} {kb rb : Nat} {K : Nat} {T : Int} {x : ByteArray}

theorem WentN.own2 {W w2 W2 : World} {n0 m : Nat} {A0 A' : PubA} {s0 s' : Pu.St} {G B N : List Nat} (S : Stand w b n0 A0 s0 F) (t1 : Touch [] w W) (h : WentN W w2 b m A' s' F G N) (t2 : Touch B w2 W2) (hB : ∀ y ∈ B, (y ∈ G ∧ y ∉ F ∧ y < w.heap.size ∧ b.lo ≤ y) ∨ (w.heap.size ≤ y ∧ y < W.heap.size)) : WentN w W2 b m A' s' F G N := by
  obtain ⟨F', S', t', f', hN⟩ := h
  have hs := t1.size
  refine ⟨F', S'.touch t2 (fun y hy => ⟨fun hx => ?_, ?_⟩), ((t1.mono (by simp)).trans t' (fun y hy => .inl hy)).trans t2 (fun y hy => ?_), fun y hy => ?_, fun y hy => ?_⟩
  · rcases hB y hy with ⟨_, h2, h3, _⟩ | h1
    · rcases f' y hx with h | h
      · exact h2 h
      · omega
    · rcases f' y hx with h | h
      · have := S.lt y h; omega
      · omega
  · rcases hB y hy with h1 | h1
    · exact h1.2.2.2
    · exact Nat.le_trans S.room h1.1
  · rcases hB y hy with h1 | h1
    · exact .inl (List.mem_append.2 (.inl h1.1))
    · exact .inr h1.1
  · rcases f' y hy with h | h
    · exact .inl h
    · exact .inr (Nat.le_trans t1.size h)
  · obtain ⟨h1, h2, h3⟩ := hN y hy
    exact ⟨h1, Nat.le_trans t1.size h2, Nat.lt_of_lt_of_le h3 t2.size⟩

theorem RdR.tail {w : World} {g off : Nat} {r : Rc} {t : List Rc} (h : RdR w g off (r :: t)) : RdR w g (off + 4) t := fun i hi c hc => by
  have := h (i + 1) (by simpa using hi) c hc
  have e : off + ((i + 1) * 4 + c) = off + 4 + (i * 4 + c) := by omega
  rw [e] at this
  simpa using this

set_option maxRecDepth 100000 in
set_option maxHeartbeats 4000000 in
theorem Next_no {er : Int} (H : ∀ W, Touch [] w W → Calls Tryz.prog 198 #[ptr rb] W fun e w' => e = .returned (.tuple #[zeroR, .bool false, .int .i64 er]) ∧ Touch [] W w') :
    Calls Tryz.prog 157 #[ptr rb] w fun e w' => e = .returned (.tuple #[zeroR, .bool false, .int .i64 er]) ∧ Touch [] w w' := by
  obtain ⟨W, hW⟩ : ∃ W, W = w.alloc (.cells #[.int .u64 0, .int .u64 0, .int .u64 0, .int .u64 0] 176) := ⟨_, rfl⟩
  have t0 : Touch [] w W := by rw [hW]; exact (Touch.refl [] w).alloc _
  have hb : W.heap[w.heap.size]? = some (.cells #[.int .u64 0, .int .u64 0, .int .u64 0, .int .u64 0] 176) := by rw [hW]; exact heap_alloc_new w _
  have HH := hid (H W t0)
  have HT0 := hid t0
  have HE := hid hW
  have HB := hid hb
  have hlb := lt_of_block hb
  clear H t0 hb hW
  go_enter Tryz.func157, Tryz.ntmps157
  go_wp2_with fail
  rw [← HE.out]
  refine HH.out.mono ?_
  rintro e w1 ⟨rfl, ht1⟩
  have hbb := (ht1.block w.heap.size hlb (by simp)).trans HB.out
  have HBB := hid hbb
  have qb := fun i => cell_row hbb i
  have ub := fun i => unfrozen_row hbb i
  have lb1 := lt_of_block hbb
  have HT1 := hid ht1
  clear hbb ht1
  go_wp2_with fail
  obtain ⟨W2, hW2, q2, t2⟩ := box4 HBB.out (.int .u64 0) (.int .u64 0) (.int .u64 0) (.int .u64 0)
  rw [← hW2]
  clear qb ub hW2
  have q3 := (Below.heap_alloc W2 (.cells #[.int .u64 0, .int .u64 0, .int .u64 0, .int .u64 0] 176) _ (lt_of_block q2)).trans q2
  have q := fun i => cell_row q3 i
  refine bodyPost_ret (v := .tuple #[zeroR, .bool false, .int .i64 er]) (by simp [results, Tryz.results157, go_sem, q]) rfl ⟨rfl, ?_⟩
  exact ((HT0.out.trans HT1.out (by simp)).trans t2 (by simp)).alloc _


set_option maxRecDepth 100000 in
set_option maxHeartbeats 4000000 in
theorem Next_have {kind blocks taken g : Nat} {lv : Value} {back : Bool} {r : Rc} {t : List Rc} (hrow : w.heap[rb]? = some (.cells (rrow kb x kind lv 0 back blocks taken) 289 (0, 0))) (hl : LsAt w g lv (r :: t)) (hlen : (r :: t).length ≤ 65536) (hgr : g ≠ rb) (hgw : g < w.heap.size) :
    Calls Tryz.prog 157 #[ptr rb] w fun e w' => e = .returned (.tuple #[r.val, .bool true, .int .i64 0]) ∧ Touch [rb] w w' ∧ ∃ lv', w'.heap[rb]? = some (.cells (rrow kb x kind lv' 0 back blocks taken) 289 (0, 0)) ∧ LsAt w' g lv' t := by
  obtain ⟨W, hW⟩ : ∃ W, W = w.alloc (.cells #[.int .u64 0, .int .u64 0, .int .u64 0, .int .u64 0] 176) := ⟨_, rfl⟩
  have t0 : Touch [] w W := by rw [hW]; exact (Touch.refl [] w).alloc _
  have hb : W.heap[w.heap.size]? = some (.cells #[.int .u64 0, .int .u64 0, .int .u64 0, .int .u64 0] 176) := by rw [hW]; exact heap_alloc_new w _
  have HT0 := hid t0
  have HE := hid hW
  have HB := hid hb
  have hlb := lt_of_block hb
  have hrowW := (t0.block rb (lt_of_block hrow) (by simp)).trans hrow
  have hlW := hl.touch t0 (by simp)
  have HH := hid (Peek_have hrowW hlW hlen)
  obtain ⟨o, c, rfl, hcc, hoff⟩ := hlW.val
  obtain ⟨off, rfl, hrd, hgl⟩ := hoff (by simp)
  obtain ⟨L, hL⟩ : ∃ L, L = (r :: t).length := ⟨_, rfl⟩
  have hlt : 0 < L := by rw [hL]; simp
  have hLt : L - 1 = t.length := by rw [hL]; simp
  rw [← hL] at hcc hrowW hlen
  have HRW := hid hrowW
  have HRD := hid hrd
  have HL := hid hL
  have HLT := hid hLt
  have lrb := lt_of_block hrow
  have HGB := hid hgw
  clear hrow hl hlW t0 hb hW hrowW hoff hrd hL hLt
  go_enter Tryz.func157, Tryz.ntmps157
  go_wp2_with fail
  rw [← HE.out]
  refine HH.out.mono ?_
  rintro e w1 ⟨rfl, ht1⟩
  have hbb := (ht1.block w.heap.size hlb (by simp)).trans HB.out
  have HBB := hid hbb
  have qb := fun i => cell_row hbb i
  have ub := fun i => unfrozen_row hbb i
  have lb1 := lt_of_block hbb
  have HT1 := hid ht1
  have HR1 := hid ((ht1.block rb (Nat.lt_of_lt_of_le lrb HT0.out.size) (by simp)).trans HRW.out)
  clear hbb ht1
  have c3 := cell_row HR1.out 3
  have u3 := fun i => unfrozen_row HR1.out i
  simp only [List.getElem?_toArray, List.getElem?_cons_zero, List.getElem?_cons_succ] at c3
  have lr1 := lt_of_block HR1.out
  by_cases hc1 : c = 1
  · subst hc1
    have hL1 : L = 1 := by omega
    have ht0 : t = [] := by have := HL.out; rw [hL1] at this; simpa using this.symm
    subst hL1
    go_wp2_with fail
    obtain ⟨W3, hW3⟩ : ∃ W3, W3 = w1.setCell ⟨rb, 3, none⟩ (.slice (some ⟨g, off, none⟩) 0 0) := ⟨_, rfl⟩
    have r3 : W3.heap[rb]? = some (.cells (rrow kb x kind (.slice (some ⟨g, off, none⟩) 0 0) 0 back blocks taken) 289 (0, 0)) := by rw [hW3]; exact (heap_setCell_row HR1.out 3 _).trans (by simp)
    have b3 : W3.heap[w.heap.size]? = some (.cells #[.int .u64 0, .int .u64 0, .int .u64 0, .int .u64 0] 176 (0, 0)) := by rw [hW3]; exact (Below.heap_setCell _ _ _ _ (by simp; omega)).trans HBB.out
    have t3 : Touch [rb] w1 W3 := by rw [hW3]; exact (Touch.refl [rb] w1).setCell (by simp) _
    obtain ⟨W2, hW2, q2, t2⟩ := box4 b3 (.int .u64 (r.1 : Int)) (.int .u64 (r.2.1 : Int)) (.int .u64 (r.2.2.1 : Int)) (.int .u64 (r.2.2.2 : Int))
    rw [hW3] at hW2
    rw [← hW2]
    clear qb ub hW2 hW3 c3 u3
    have q3 := (Below.heap_alloc W2 (.cells #[.int .u64 (r.1 : Int), .int .u64 (r.2.1 : Int), .int .u64 (r.2.2.1 : Int), .int .u64 (r.2.2.2 : Int)] 176) _ (lt_of_block q2)).trans q2
    have q := fun i => cell_row q3 i
    have tt : Touch [rb, w.heap.size] w1 (W2.alloc (.cells #[.int .u64 (r.1 : Int), .int .u64 (r.2.1 : Int), .int .u64 (r.2.2.1 : Int), .int .u64 (r.2.2.2 : Int)] 176)) := (((t3.mono (by simp)).trans t2 (by simp)).alloc _)
    have rf : (W2.alloc (.cells #[.int .u64 (r.1 : Int), .int .u64 (r.2.1 : Int), .int .u64 (r.2.2.1 : Int), .int .u64 (r.2.2.2 : Int)] 176)).heap[rb]? = some (.cells (rrow kb x kind (.slice (some ⟨g, off, none⟩) 0 0) 0 back blocks taken) 289 (0, 0)) := (((t2.alloc _).block rb (lt_of_block r3) (by simp; omega)).trans r3)
    refine bodyPost_ret (v := .tuple #[r.val, .bool true, .int .i64 0]) (by simp [results, Tryz.results157, go_sem, q]) rfl ⟨rfl, ?_, .slice (some ⟨g, off, none⟩) 0 0, rf, ?_⟩
    · exact ((HT0.out.mono (by simp)).trans (HT1.out.mono (F := []) (G := [rb]) (by simp)) (fun y hy => .inl hy)).trans tt (fun y hy => by simp at hy; rcases hy with rfl | rfl; exact .inl (by simp); exact .inr (Nat.le_refl _))
    · subst ht0
      exact ⟨_, _, rfl, Nat.le_refl _, fun h => absurd rfl h⟩
  · have hc2 : 1 < c := by omega
    go_wp2_with fail
    obtain ⟨W3, hW3⟩ : ∃ W3, W3 = w1.setCell ⟨rb, 3, none⟩ (.slice (some ⟨g, off + 4, none⟩) (L - 1) (c - 1)) := ⟨_, rfl⟩
    have r3 : W3.heap[rb]? = some (.cells (rrow kb x kind (.slice (some ⟨g, off + 4, none⟩) (L - 1) (c - 1)) 0 back blocks taken) 289 (0, 0)) := by rw [hW3]; exact (heap_setCell_row HR1.out 3 _).trans (by simp)
    have b3 : W3.heap[w.heap.size]? = some (.cells #[.int .u64 0, .int .u64 0, .int .u64 0, .int .u64 0] 176 (0, 0)) := by rw [hW3]; exact (Below.heap_setCell _ _ _ _ (by simp; omega)).trans HBB.out
    have t3 : Touch [rb] w1 W3 := by rw [hW3]; exact (Touch.refl [rb] w1).setCell (by simp) _
    obtain ⟨W2, hW2, q2, t2⟩ := box4 b3 (.int .u64 (r.1 : Int)) (.int .u64 (r.2.1 : Int)) (.int .u64 (r.2.2.1 : Int)) (.int .u64 (r.2.2.2 : Int))
    rw [hW3] at hW2
    rw [← hW2]
    clear qb ub hW2 hW3 c3 u3
    have q3 := (Below.heap_alloc W2 (.cells #[.int .u64 (r.1 : Int), .int .u64 (r.2.1 : Int), .int .u64 (r.2.2.1 : Int), .int .u64 (r.2.2.2 : Int)] 176) _ (lt_of_block q2)).trans q2
    have q := fun i => cell_row q3 i
    have tt : Touch [rb, w.heap.size] w1 (W2.alloc (.cells #[.int .u64 (r.1 : Int), .int .u64 (r.2.1 : Int), .int .u64 (r.2.2.1 : Int), .int .u64 (r.2.2.2 : Int)] 176)) := (((t3.mono (by simp)).trans t2 (by simp)).alloc _)
    have rf : (W2.alloc (.cells #[.int .u64 (r.1 : Int), .int .u64 (r.2.1 : Int), .int .u64 (r.2.2.1 : Int), .int .u64 (r.2.2.2 : Int)] 176)).heap[rb]? = some (.cells (rrow kb x kind (.slice (some ⟨g, off + 4, none⟩) (L - 1) (c - 1)) 0 back blocks taken) 289 (0, 0)) := (((t2.alloc _).block rb (lt_of_block r3) (by simp; omega)).trans r3)
    refine bodyPost_ret (v := .tuple #[r.val, .bool true, .int .i64 0]) (by simp [results, Tryz.results157, go_sem, q]) rfl ⟨rfl, ?_, .slice (some ⟨g, off + 4, none⟩) (L - 1) (c - 1), rf, ?_⟩
    · exact ((HT0.out.mono (by simp)).trans (HT1.out.mono (F := []) (G := [rb]) (by simp)) (fun y hy => .inl hy)).trans tt (fun y hy => by simp at hy; rcases hy with rfl | rfl; exact .inl (by simp); exact .inr (Nat.le_refl _))
    · rw [HLT.out]
      have hg1 : g < w1.heap.size := Nat.lt_of_lt_of_le hgl HT1.out.size
      refine ⟨_, _, rfl, by have := HLT.out; omega, fun _ => ⟨off + 4, rfl, ?_, Nat.lt_of_lt_of_le hg1 tt.size⟩⟩
      exact (HRD.out.tail.touch HT1.out hgl (by simp)).touch tt hg1 (by simp; exact ⟨hgr, by have := HGB.out; omega⟩)

set_option maxRecDepth 100000 in
set_option maxHeartbeats 4000000 in
theorem Next_load (S : Stand w b n A s F) (hrF : rb ∉ F) (hlo : b.lo ≤ rb) (lrb : rb < w.heap.size) {kind blocks taken : Nat} {back : Bool} {n1 : Nat} {A1 : PubA} {r : Rc} {t : List Rc} (hlen : (r :: t).length ≤ 65536)
    (H : ∀ W, Touch [] w W → Calls Tryz.prog 198 #[ptr rb] W fun e w' => e = .returned (.tuple #[r.val, .bool true, .int .i64 0]) ∧ ∃ g, WentN W w' b n1 A1 s F [rb] [g] ∧ w'.heap[rb]? = some (.cells (rrow kb x kind (.slice (some ⟨g, 0, none⟩) (r :: t).length (r :: t).length) 0 back blocks (taken + 1)) 289 (0, 0)) ∧ RdR w' g 0 (r :: t)) :
    Calls Tryz.prog 157 #[ptr rb] w fun e w' => e = .returned (.tuple #[r.val, .bool true, .int .i64 0]) ∧ ∃ g lv', WentN w w' b n1 A1 s F [rb] [g] ∧ g ≠ rb ∧ w'.heap[rb]? = some (.cells (rrow kb x kind lv' 0 back blocks (taken + 1)) 289 (0, 0)) ∧ LsAt w' g lv' t := by
  obtain ⟨W, hW⟩ : ∃ W, W = w.alloc (.cells #[.int .u64 0, .int .u64 0, .int .u64 0, .int .u64 0] 176) := ⟨_, rfl⟩
  have t0 : Touch [] w W := by rw [hW]; exact (Touch.refl [] w).alloc _
  have hb : W.heap[w.heap.size]? = some (.cells #[.int .u64 0, .int .u64 0, .int .u64 0, .int .u64 0] 176) := by rw [hW]; exact heap_alloc_new w _
  have HT0 := hid t0
  have HE := hid hW
  have HB := hid hb
  have hlb := lt_of_block hb
  have HH := hid (H W t0)
  have HS := hid S
  have HF := hid (And.intro hrF hlo)
  obtain ⟨L, hL⟩ : ∃ L, L = (r :: t).length := ⟨_, rfl⟩
  have hlt : 0 < L := by rw [hL]; simp
  have hLt : L - 1 = t.length := by rw [hL]; simp
  rw [← hL] at HH hlen
  obtain ⟨c, hc⟩ : ∃ c, c = L := ⟨_, rfl⟩
  have HL := hid hL
  have HLT := hid hLt
  have hcc : L ≤ c := by omega
  have HC := hid hc
  clear H t0 hb hW S hrF hlo hL hLt hc
  go_enter Tryz.func157, Tryz.ntmps157
  go_wp2_with fail
  rw [← HE.out]
  refine HH.out.mono ?_
  rintro e w1 ⟨rfl, g, hg, hr1, hrd⟩
  have hbb := (hg.choose_spec.2.1.block w.heap.size hlb (by have h1 := HS.out.lt; simp; exact ⟨fun e => by omega, fun h => Nat.lt_irrefl _ (h1 _ h)⟩)).trans HB.out
  have hg0 : W.heap.size ≤ g ∧ g < w1.heap.size := ⟨(hg.choose_spec.2.2.2 g (by simp)).2.1, (hg.choose_spec.2.2.2 g (by simp)).2.2⟩
  have HBB := hid hbb
  have qb := fun i => cell_row hbb i
  have ub := fun i => unfrozen_row hbb i
  have lb1 := lt_of_block hbb
  have HG := hid hg
  have HG0 := hid hg0
  have HR1 : Hid (w1.heap[rb]? = some (.cells (rrow kb x kind (.slice (some ⟨g, 0, none⟩) L c) 0 back blocks (taken + 1)) 289 (0, 0))) := by rw [HC.out]; exact hr1
  have HRR := hid hrd
  clear hbb hg hr1 hrd hg0
  have c3 := cell_row HR1.out 3
  have u3 := fun i => unfrozen_row HR1.out i
  simp only [List.getElem?_toArray, List.getElem?_cons_zero, List.getElem?_cons_succ] at c3
  have lr1 := lt_of_block HR1.out
  by_cases hc1 : c = 1
  · subst hc1
    have hL1 : L = 1 := by omega
    have ht0 : t = [] := by have := HL.out; rw [hL1] at this; simpa using this.symm
    subst hL1
    go_wp2_with fail
    obtain ⟨W3, hW3⟩ : ∃ W3, W3 = w1.setCell ⟨rb, 3, none⟩ (.slice (some ⟨g, 0, none⟩) 0 0) := ⟨_, rfl⟩
    have r3 : W3.heap[rb]? = some (.cells (rrow kb x kind (.slice (some ⟨g, 0, none⟩) 0 0) 0 back blocks (taken + 1)) 289 (0, 0)) := by rw [hW3]; exact (heap_setCell_row HR1.out 3 _).trans (by simp)
    have b3 : W3.heap[w.heap.size]? = some (.cells #[.int .u64 0, .int .u64 0, .int .u64 0, .int .u64 0] 176 (0, 0)) := by rw [hW3]; exact (Below.heap_setCell _ _ _ _ (by simp; omega)).trans HBB.out
    have t3 : Touch [rb] w1 W3 := by rw [hW3]; exact (Touch.refl [rb] w1).setCell (by simp) _
    obtain ⟨W2, hW2, q2, t2⟩ := box4 b3 (.int .u64 (r.1 : Int)) (.int .u64 (r.2.1 : Int)) (.int .u64 (r.2.2.1 : Int)) (.int .u64 (r.2.2.2 : Int))
    rw [hW3] at hW2
    rw [← hW2]
    clear qb ub hW2 hW3 c3 u3
    have q3 := (Below.heap_alloc W2 (.cells #[.int .u64 (r.1 : Int), .int .u64 (r.2.1 : Int), .int .u64 (r.2.2.1 : Int), .int .u64 (r.2.2.2 : Int)] 176) _ (lt_of_block q2)).trans q2
    have q := fun i => cell_row q3 i
    have tt : Touch [rb, w.heap.size] w1 (W2.alloc (.cells #[.int .u64 (r.1 : Int), .int .u64 (r.2.1 : Int), .int .u64 (r.2.2.1 : Int), .int .u64 (r.2.2.2 : Int)] 176)) := (((t3.mono (by simp)).trans t2 (by simp)).alloc _)
    have rf : (W2.alloc (.cells #[.int .u64 (r.1 : Int), .int .u64 (r.2.1 : Int), .int .u64 (r.2.2.1 : Int), .int .u64 (r.2.2.2 : Int)] 176)).heap[rb]? = some (.cells (rrow kb x kind (.slice (some ⟨g, 0, none⟩) 0 0) 0 back blocks (taken + 1)) 289 (0, 0)) := (((t2.alloc _).block rb (lt_of_block r3) (by simp; omega)).trans r3)
    refine bodyPost_ret (v := .tuple #[r.val, .bool true, .int .i64 0]) (by simp [results, Tryz.results157, go_sem, q]) rfl ⟨rfl, g, .slice (some ⟨g, 0, none⟩) 0 0, ?_, by have := HG0.out; omega, rf, ?_⟩
    · refine WentN.own2 HS.out HT0.out HG.out tt (fun y hy => ?_)
      simp at hy
      rcases hy with rfl | rfl
      · exact .inl ⟨by simp, HF.out.1, lrb, HF.out.2⟩
      · exact .inr ⟨Nat.le_refl _, hlb⟩
    · subst ht0
      exact ⟨_, _, rfl, Nat.le_refl _, fun h => absurd rfl h⟩
  · have hc2 : 1 < c := by omega
    go_wp2_with fail
    obtain ⟨W3, hW3⟩ : ∃ W3, W3 = w1.setCell ⟨rb, 3, none⟩ (.slice (some ⟨g, 4, none⟩) (L - 1) (c - 1)) := ⟨_, rfl⟩
    have r3 : W3.heap[rb]? = some (.cells (rrow kb x kind (.slice (some ⟨g, 4, none⟩) (L - 1) (c - 1)) 0 back blocks (taken + 1)) 289 (0, 0)) := by rw [hW3]; exact (heap_setCell_row HR1.out 3 _).trans (by simp)
    have b3 : W3.heap[w.heap.size]? = some (.cells #[.int .u64 0, .int .u64 0, .int .u64 0, .int .u64 0] 176 (0, 0)) := by rw [hW3]; exact (Below.heap_setCell _ _ _ _ (by simp; omega)).trans HBB.out
    have t3 : Touch [rb] w1 W3 := by rw [hW3]; exact (Touch.refl [rb] w1).setCell (by simp) _
    obtain ⟨W2, hW2, q2, t2⟩ := box4 b3 (.int .u64 (r.1 : Int)) (.int .u64 (r.2.1 : Int)) (.int .u64 (r.2.2.1 : Int)) (.int .u64 (r.2.2.2 : Int))
    rw [hW3] at hW2
    rw [← hW2]
    clear qb ub hW2 hW3 c3 u3
    have q3 := (Below.heap_alloc W2 (.cells #[.int .u64 (r.1 : Int), .int .u64 (r.2.1 : Int), .int .u64 (r.2.2.1 : Int), .int .u64 (r.2.2.2 : Int)] 176) _ (lt_of_block q2)).trans q2
    have q := fun i => cell_row q3 i
    have tt : Touch [rb, w.heap.size] w1 (W2.alloc (.cells #[.int .u64 (r.1 : Int), .int .u64 (r.2.1 : Int), .int .u64 (r.2.2.1 : Int), .int .u64 (r.2.2.2 : Int)] 176)) := (((t3.mono (by simp)).trans t2 (by simp)).alloc _)
    have rf : (W2.alloc (.cells #[.int .u64 (r.1 : Int), .int .u64 (r.2.1 : Int), .int .u64 (r.2.2.1 : Int), .int .u64 (r.2.2.2 : Int)] 176)).heap[rb]? = some (.cells (rrow kb x kind (.slice (some ⟨g, 4, none⟩) (L - 1) (c - 1)) 0 back blocks (taken + 1)) 289 (0, 0)) := (((t2.alloc _).block rb (lt_of_block r3) (by simp; omega)).trans r3)
    refine bodyPost_ret (v := .tuple #[r.val, .bool true, .int .i64 0]) (by simp [results, Tryz.results157, go_sem, q]) rfl ⟨rfl, g, .slice (some ⟨g, 4, none⟩) (L - 1) (c - 1), ?_, by have := HG0.out; omega, rf, ?_⟩
    · refine WentN.own2 HS.out HT0.out HG.out tt (fun y hy => ?_)
      simp at hy
      rcases hy with rfl | rfl
      · exact .inl ⟨by simp, HF.out.1, lrb, HF.out.2⟩
      · exact .inr ⟨Nat.le_refl _, hlb⟩
    · rw [HLT.out]
      have hg1 : g < w1.heap.size := HG0.out.2
      refine ⟨_, _, rfl, by have := HLT.out; omega, fun _ => ⟨0 + 4, by simp, ?_, Nat.lt_of_lt_of_le hg1 tt.size⟩⟩
      exact HRR.out.tail.touch tt hg1 (by simp; have := HG0.out; omega)
end
end Go.Proofs.YthehcjjckabljaaGreatDoor
/-
  A tape's blocks among other files (pure): parts of a list, a block with records read back, a file read.
-/
namespace Go.Proofs.YthehcjjckabljaaGreatDoor
open Go.RowKit Go.Deep
set_option linter.unusedSimpArgs false
set_option linter.unusedVariables false

abbrev noTr : TrA := ⟨0, 0, 0⟩
theorem tr_nil {b : Bn} (h : b.l = []) (A : PubA) : b.tr A = noTr := by unfold Bn.tr; rw [h]; rfl
theorem take_cons {l : List Rc} {i j : Nat} (hi : i < l.length) (hj : i < j) : (l.drop i).take (j - i) = l[i] :: (l.drop (i + 1)).take (j - (i + 1)) := by
  obtain ⟨d, hd⟩ : ∃ d, j - i = d + 1 := ⟨j - i - 1, by omega⟩
  rw [hd, List.drop_eq_getElem_cons hi, List.take_succ_cons]
  congr 2
  omega
/-! ### a block with records, read back -/
def smallR (l : List Rc) : Prop := ∀ y ∈ flatR l, y < 18446744073709551616
theorem flatR_mem {l m : List Rc} (h : ∀ r ∈ m, r ∈ l) (hs : smallR l) : smallR m := fun y hy => by
  unfold flatR at hy
  obtain ⟨r, hr, hy⟩ := List.mem_flatMap.1 hy
  exact hs y (List.mem_flatMap.2 ⟨r, h r hr, hy⟩)
structure Good (kind place : Nat) (bl : List UInt8) (l : List Rc) : Prop where
  sum : PureCrc.sumFits (numsU bl)
  formed : PureCrc.Formed (numsU bl)
  kind : (numsU bl).getD 5 0 = kind
  place : PureCrc.num (PureCrc.cut (numsU bl) 8 8) = place
  count : PureCrc.count (numsU bl) = l.length
  words : PureCrc.words (4 * PureCrc.count (numsU bl)) ((numsU bl).drop 28) = flatR l
theorem encU_good {kind place B : Nat} {l : List Rc} (hk1 : 1 ≤ kind) (hk2 : kind ≤ 5) (hl : 1 ≤ l.length) (hK : l.length ≤ B / 32 - 1) (h64 : 64 ≤ B) (hmax : B ≤ 65536) (hs : smallR l) (hp : place < 9223372036854775808) : Good kind place (encU kind place (flatR l) B) l := by
  have hw := flatR_length l
  have hd : (flatR l).length / 4 = l.length := by omega
  have hB : 32 + 8 * (flatR l).length ≤ B := by omega
  have e : numsU (encU kind place (flatR l) B) = PureCrc.enc kind place l.length (flatR l) B := by
    unfold encU
    rw [hd, nums_bytes (PureCrc.enc_lt (by omega))]
  have hc : PureCrc.count (PureCrc.enc kind place l.length (flatR l) B) = l.length := PureCrc.enc_count (by omega)
  refine ⟨?_, ?_, ?_, ?_, ?_, ?_⟩
  · rw [e]; exact PureCrc.enc_fits (by omega) hB
  · rw [e]; exact PureCrc.enc_formed (by omega) (by omega) hl (by omega) hK hB
  · rw [e]; exact PureCrc.enc_kind
  · rw [e]; exact PureCrc.enc_place (by omega)
  · rw [e]; exact hc
  · rw [e, hc, ← hw]
    exact PureCrc.enc_words (fun y hy => hs y hy)
theorem encU_length {kind place B : Nat} {l : List Rc} (hB : 32 + 8 * (flatR l).length ≤ B) : (encU kind place (flatR l) B).length = B := by
  unfold encU
  rw [bytesU_length, PureCrc.enc_length hB]

/-! ### a list in parts -/
/-- part j of a list, K records each. -/
def chunk (K j : Nat) (l : List Rc) : List Rc := (l.drop (j * K)).take K
def nBlocks (K len : Nat) : Nat := (len + K - 1) / K
def blocksOf (kind K B : Nat) (l : List Rc) (m : Nat) : List (List UInt8) := (List.range m).map fun j => encU kind j (flatR (chunk K j l)) B
theorem blocksOf_succ (kind K B : Nat) (l : List Rc) (m : Nat) : blocksOf kind K B l (m + 1) = blocksOf kind K B l m ++ [encU kind m (flatR (chunk K m l)) B] := by
  simp [blocksOf, List.range_succ]
theorem blocksOf_length (kind K B : Nat) (l : List Rc) (m : Nat) : (blocksOf kind K B l m).length = m := by simp [blocksOf]
theorem blocksOf_get {kind K B : Nat} {l : List Rc} {m j : Nat} (h : j < m) : (blocksOf kind K B l m)[j]? = some (encU kind j (flatR (chunk K j l)) B) := by
  simp [blocksOf, h]
theorem nBlocks_lt {K len v : Nat} (hK : 1 ≤ K) (h : v < nBlocks K len) : v * K < len := by
  have h1 : (v + 1) * K ≤ len + K - 1 := (Nat.le_div_iff_mul_le (by omega)).1 h
  rw [Nat.succ_mul] at h1
  omega
theorem nBlocks_le {K len : Nat} (hK : 1 ≤ K) : len ≤ nBlocks K len * K := by
  have h1 : len + K - 1 < (nBlocks K len + 1) * K := (Nat.div_lt_iff_lt_mul (by omega)).1 (Nat.lt_succ_self _)
  rw [Nat.succ_mul] at h1
  omega

/-! ### a file read -/
/-- a sealed file of these blocks stands. -/
structure Has (A : PubA) (x : ByteArray) (bs : List (List UInt8)) : Prop where
  on : A.on = true
  name : nameB x = true
  file : findA A.files (nm x) = some ⟨true, bs⟩
/-- c reads more. -/
def rdX (A : PubA) (c : Int) : PubA := { A with c := { A.c with calls := A.c.calls + c, reads := A.c.reads + c } }
theorem rdX_zero (A : PubA) : rdX A 0 = A := by
  unfold rdX
  simp
theorem length_has {A : PubA} {x : ByteArray} {bs : List (List UInt8)} (h : Has A x bs) : lengthB x A = ((bs.length : Int), true, 0) := by
  unfold lengthB lengthA
  rw [if_pos h.on, if_pos h.name, h.file]
theorem read_x {A : PubA} {x : ByteArray} {bs : List (List UInt8)} (h : Has A x bs) {n : Int} {i : Nat} (hi : i < bs.length) : readB x (i : Int) noTr (rdX A n) = (bs[i]?, 0, rdX A (n + 1)) := by
  have h1 : (rdX A n).on = true := h.on
  have h2 : findA (rdX A n).files (nm x) = some ⟨true, bs⟩ := h.file
  have h3 : (0 : Int) ≤ (i : Int) ∧ (i : Int) < (bs.length : Int) := by omega
  have h4 : readA x (i : Int) (rdX A n) = (bs[i]?, 0, rdX A (n + 1)) := by
    unfold readA
    rw [if_pos h.name, h2]
    simp only [if_true, h3, and_self, Int.toNat_natCast]
    unfold rdX
    simp [Int.add_assoc]
  unfold readB readX
  rw [if_pos h1, h4]
  simp
theorem hold_has {A : PubA} {x : ByteArray} {bs : List (List UInt8)} (h : Has A x bs) {s : Pu.St} {K kind : Int} (hk : 1 ≤ kind ∧ kind ≤ 5) (hl : Pu.leaveE s K = 0) : holdE A s K kind [x] [] = 0 := by
  unfold holdE
  rw [if_neg (by omega)]
  have : readyE A [x] [] = 0 := by
    unfold readyE
    rw [if_neg (by simp [h.on])]
    simp [readyOut, readyIn, readE, readOf, length_has h]
  rw [this]
  simp [hl]
end Go.Proofs.YthehcjjckabljaaGreatDoor
