import Derived.Test.YtclplbnildnifaaGreatDoorZ10
/-
  Reader.Peek.
-/
namespace Go.Proofs.YtclplbnildnifaaGreatDoor
open Go.RowKit Go.Deep
set_option linter.unusedSimpArgs false
set_option linter.unusedVariables false

/-- what is left of a block that was read. -/
structure LsAt (w : World) (g : Nat) (lv : Value) (l : List Rc) : Prop where
  val : ∃ o c, lv = .slice o l.length c ∧ l.length ≤ c ∧ (l ≠ [] → ∃ off, o = some ⟨g, off, none⟩ ∧ RdR w g off l ∧ g < w.heap.size)
theorem LsAt.touch {w w' : World} {g : Nat} {lv : Value} {l : List Rc} {G : List Nat} (h : LsAt w g lv l) (t : Touch G w w') (hG : g ∉ G) : LsAt w' g lv l := by
  obtain ⟨o, c, h1, h2, h3⟩ := h.val
  refine ⟨o, c, h1, h2, fun hl => ?_⟩
  obtain ⟨off, h4, h5, h6⟩ := h3 hl
  exact ⟨off, h4, h5.touch t h6 hG, Nat.lt_of_lt_of_le h6 t.size⟩
theorem LsAt.none (w : World) (g : Nat) : LsAt w g (.slice none 0 0) [] := ⟨Option.none, 0, rfl, Nat.le_refl _, fun h => absurd rfl h⟩

abbrev Rc.val (r : Rc) : Value := recV r.1 r.2.1 r.2.2.1 r.2.2.2
abbrev zeroR : Value := .agg #[.int .u64 0, .int .u64 0, .int .u64 0, .int .u64 0]

section
variable {w w' : World} {b : Bn} {n : Nat} {A : PubA} {s : Pu.St} {F : List Nat} {kb rb : Nat} {K : Nat} {T : Int} {x : ByteArray}

theorem WentN.box {W w2 W2 : World} {n0 m : Nat} {A0 A' : PubA} {s0 s' : Pu.St} {G B N : List Nat} (S : Stand w b n0 A0 s0 F) (t1 : Touch [] w W) (h : WentN W w2 b m A' s' F G N) (t2 : Touch B w2 W2) (hB : ∀ y ∈ B, w.heap.size ≤ y ∧ y < W.heap.size) : WentN w W2 b m A' s' F G N := by
  obtain ⟨F', S', t', f', hN⟩ := h
  refine ⟨F', S'.touch t2 (fun y hy => ⟨fun hx => ?_, Nat.le_trans S.room (hB y hy).1⟩), ((t1.mono (by simp)).trans t' (fun y hy => .inl hy)).trans t2 (fun y hy => .inr (hB y hy).1), fun y hy => ?_, fun y hy => ?_⟩
  · have h1 := hB y hy
    rcases f' y hx with h | h
    · have := S.lt y h; omega
    · omega
  · rcases f' y hy with h | h
    · exact .inl h
    · exact .inr (Nat.le_trans t1.size h)
  · obtain ⟨h1, h2, h3⟩ := hN y hy
    exact ⟨h1, Nat.le_trans t1.size h2, Nat.lt_of_lt_of_le h3 t2.size⟩

theorem box4 {w2 : World} {q : Nat} {t : TypeId} {u0 u1 u2 u3 : Value} (hr : w2.heap[q]? = some (.cells #[u0, u1, u2, u3] t (0, 0))) (v0 v1 v2 v3 : Value) :
    ∃ W2, W2 = (((w2.setCell ⟨q, 0, none⟩ v0).setCell ⟨q, 1, none⟩ v1).setCell ⟨q, 2, none⟩ v2).setCell ⟨q, 3, none⟩ v3 ∧ W2.heap[q]? = some (.cells #[v0, v1, v2, v3] t (0, 0)) ∧ Touch [q] w2 W2 := by
  refine ⟨_, rfl, ?_, ?_⟩
  · refine (heap_setCell_row (heap_setCell_row (heap_setCell_row (heap_setCell_row hr 0 _) 1 _) 2 _) 3 _).trans ?_
    simp
  · repeat' refine Touch.setCell ?_ (by simp) _
    exact Touch.refl _ _

set_option maxRecDepth 100000 in
set_option maxHeartbeats 4000000 in
theorem Peek_have {kind blocks taken g : Nat} {lv : Value} {back : Bool} {r : Rc} {t : List Rc} (hrow : w.heap[rb]? = some (.cells (rrow kb x kind lv 0 back blocks taken) 106 (0, 0))) (hl : LsAt w g lv (r :: t)) (hlen : (r :: t).length ≤ 65536) :
    Calls Tryz.prog 42 #[ptr rb] w fun e w' => e = .returned (.tuple #[r.val, .bool true, .int .i64 0]) ∧ Touch [] w w' := by
  obtain ⟨W, hW⟩ : ∃ W, W = w.alloc (.cells #[.int .u64 0, .int .u64 0, .int .u64 0, .int .u64 0] 38) := ⟨_, rfl⟩
  have t0 : Touch [] w W := by rw [hW]; exact (Touch.refl [] w).alloc _
  have hb : W.heap[w.heap.size]? = some (.cells #[.int .u64 0, .int .u64 0, .int .u64 0, .int .u64 0] 38) := by rw [hW]; exact heap_alloc_new w _
  have hrowW := (t0.block rb (lt_of_block hrow) (by simp)).trans hrow
  obtain ⟨o, c, rfl, hcc, hoff⟩ := (hl.touch t0 (by simp)).val
  obtain ⟨off, rfl, hrd, hgl⟩ := hoff (by simp)
  have HRf := hid (refusal_any (x := x) (kb := kb) (kind := (kind : Int)) (lv := .slice (some ⟨g, off, none⟩) (r :: t).length c) (dead := 0) (cl := false) (w := W) (hb := rb) ⟨_, _, hrowW, rfl, rfl, rfl, rfl, rfl, rfl⟩)
  simp only [Bool.false_eq_true, if_false] at HRf
  have c3 := cell_row hrowW 3
  have c7 := cell_row hrowW 7
  have c8 := cell_row hrowW 8
  simp only [List.getElem?_toArray, List.getElem?_cons_zero, List.getElem?_cons_succ] at c3 c7 c8
  have hz : ∀ i, i < 4 → W.cell? ⟨g, off + i, none⟩ = (Rc.vals r)[i]? := fun i hi => by
    have := hrd 0 (by simp) i hi
    simpa using this
  have z0 := hz 0 (by omega)
  have z1 := hz 1 (by omega)
  have z2 := hz 2 (by omega)
  have z3 := hz 3 (by omega)
  simp only [Rc.vals, recL, Nat.add_zero, List.getElem?_cons_zero, List.getElem?_cons_succ] at z0 z1 z2 z3
  have q := fun i => cell_row hb i
  have u := fun i => unfrozen_row hb i
  have hlt : 0 < (r :: t).length := by simp
  generalize (r :: t).length = L at hlt hlen hcc c3 HRf
  have hne0 : ¬ (L : Int) = 0 := by omega
  have hd0 : decide ((L : Int) = 0) = false := by simpa using hne0
  have hd1 : ((L : Int) == 0) = false := by simpa using hne0
  have HT0 := hid t0
  have HE := hid hW
  have HB := hid hb
  have hlb := lt_of_block hb
  clear hrow hl t0 hb hrowW hrd hoff hz hW
  go_enter Tryz.func42, Tryz.ntmps42
  go_wp2_with fail
  rw [← HE.out]
  go_wp2_with (go_at_call 79; refine HRf.out.mono ?_; rintro e w1 ⟨rfl, hh⟩; have hh := hh.symm; subst hh)
  go_quiet (fail)
  go_wp2_with fail
  obtain ⟨W2, hW2, q2, t2⟩ := box4 (w2 := W.drewN nq) HB.out (.int .u64 (r.1 : Int)) (.int .u64 (r.2.1 : Int)) (.int .u64 (r.2.2.1 : Int)) (.int .u64 (r.2.2.2 : Int))
  rw [← hW2]
  clear q u hW2
  have q := fun i => cell_row q2 i
  refine bodyPost_ret (v := .tuple #[r.val, .bool true, .int .i64 0]) (by simp [results, Tryz.results42, go_sem, q]) rfl ⟨rfl, ?_⟩
  exact (HT0.out.drewN nq).trans t2 (by simp)


set_option maxRecDepth 100000 in
set_option maxHeartbeats 4000000 in
theorem Peek_load (S : Stand w b n A s F) {kind blocks taken : Nat} {o : Option Addr} {c : Nat} {back : Bool} (hrow : w.heap[rb]? = some (.cells (rrow kb x kind (.slice o 0 c) 0 back blocks taken) 106 (0, 0))) (htb : taken < blocks) {n1 : Nat} {A1 : PubA} {r : Rc} {t : List Rc} (hlen : (r :: t).length ≤ 65536)
    (H : ∀ W, Touch [] w W → Calls Tryz.prog 88 #[ptr rb] W fun e w' => e = .returned (.int .i64 0) ∧ ∃ g, WentN W w' b n1 A1 s F [rb] [g] ∧ w'.heap[rb]? = some (.cells (rrow kb x kind (.slice (some ⟨g, 0, none⟩) (r :: t).length (r :: t).length) 0 back blocks (taken + 1)) 106 (0, 0)) ∧ RdR w' g 0 (r :: t)) :
    Calls Tryz.prog 42 #[ptr rb] w fun e w' => e = .returned (.tuple #[r.val, .bool true, .int .i64 0]) ∧ ∃ g, WentN w w' b n1 A1 s F [rb] [g] ∧ w'.heap[rb]? = some (.cells (rrow kb x kind (.slice (some ⟨g, 0, none⟩) (r :: t).length (r :: t).length) 0 back blocks (taken + 1)) 106 (0, 0)) ∧ RdR w' g 0 (r :: t) := by
  obtain ⟨W, hW⟩ : ∃ W, W = w.alloc (.cells #[.int .u64 0, .int .u64 0, .int .u64 0, .int .u64 0] 38) := ⟨_, rfl⟩
  have t0 : Touch [] w W := by rw [hW]; exact (Touch.refl [] w).alloc _
  have hb : W.heap[w.heap.size]? = some (.cells #[.int .u64 0, .int .u64 0, .int .u64 0, .int .u64 0] 38) := by rw [hW]; exact heap_alloc_new w _
  have hrowW := (t0.block rb (lt_of_block hrow) (by simp)).trans hrow
  have HRf := hid (refusal_any (x := x) (kb := kb) (kind := (kind : Int)) (lv := .slice o 0 c) (dead := 0) (cl := false) (w := W) (hb := rb) ⟨_, _, hrowW, rfl, rfl, rfl, rfl, rfl, rfl⟩)
  simp only [Bool.false_eq_true, if_false] at HRf
  have c3 := cell_row hrowW 3
  have c7 := cell_row hrowW 7
  have c8 := cell_row hrowW 8
  simp only [List.getElem?_toArray, List.getElem?_cons_zero, List.getElem?_cons_succ] at c3 c7 c8
  have q := fun i => cell_row hb i
  have u := fun i => unfrozen_row hb i
  have HT0 := hid t0
  have HE := hid hW
  have HB := hid hb
  have HRW := hid hrowW
  have hlb := lt_of_block hb
  have hd2 : decide ((taken : Int) < (blocks : Int)) = true := by simp; omega
  have HH : Hid (∀ nq, Calls Tryz.prog 88 #[ptr rb] (W.drewN nq) fun e w' => e = .returned (.int .i64 0) ∧ ∃ g, WentN (W.drewN nq) w' b n1 A1 s F [rb] [g] ∧ w'.heap[rb]? = some (.cells (rrow kb x kind (.slice (some ⟨g, 0, none⟩) (r :: t).length (r :: t).length) 0 back blocks (taken + 1)) 106 (0, 0)) ∧ RdR w' g 0 (r :: t)) := fun nq => H _ (t0.drewN nq)
  have HS := hid S
  have lrw := lt_of_block hrow
  have hlt : 0 < (r :: t).length := by simp
  obtain ⟨L, hL⟩ : ∃ L, L = (r :: t).length := ⟨_, rfl⟩
  rw [← hL] at HH hlt hlen ⊢
  have HL := hid hL
  have hne0 : ¬ (L : Int) = 0 := by omega
  clear hrow t0 hb hrowW hW H S hL
  go_enter Tryz.func42, Tryz.ntmps42
  go_wp2_with fail
  rw [← HE.out]
  go_wp2_with (go_at_call 79; refine HRf.out.mono ?_; rintro e w1 ⟨rfl, hh⟩; have hh := hh.symm; subst hh)
  go_quiet (fail)
  go_wp2_with fail
  refine (HH.out _).mono ?_
  rintro e w1 ⟨rfl, g, hg, hr1, hrd⟩
  have d3 := cell_row hr1 3
  simp only [List.getElem?_toArray, List.getElem?_cons_zero, List.getElem?_cons_succ] at d3
  have z0 := hrd 0 (by simp) 0 (by omega)
  have z1 := hrd 0 (by simp) 1 (by omega)
  have z2 := hrd 0 (by simp) 2 (by omega)
  have z3 := hrd 0 (by simp) 3 (by omega)
  simp only [Rc.vals, recL, List.getElem_cons_zero, Nat.zero_mul, Nat.zero_add, Nat.add_zero, List.getElem?_cons_zero, List.getElem?_cons_succ] at z0 z1 z2 z3
  have hbb := (hg.choose_spec.2.1.block w.heap.size hlb (by have h1 := HS.out.lt; simp; exact ⟨fun e => by omega, fun h => Nat.lt_irrefl _ (h1 _ h)⟩)).trans HB.out
  have qb := (fun i => cell_row hbb i)
  have ub := (fun i => unfrozen_row hbb i)
  have hg0 : W.heap.size ≤ g ∧ g < w1.heap.size := ⟨(hg.choose_spec.2.2.2 g (by simp)).2.1, (hg.choose_spec.2.2.2 g (by simp)).2.2⟩
  have HG := hid hg
  have HR1 := hid hr1
  have HRR := hid hrd
  have HBB := hid hbb
  have lg := hg0.2
  have HG0 := hid hg0
  clear hg hr1 hrd hbb c3 c7 c8 q u hg0
  go_wp2_with fail
  obtain ⟨W2, hW2, q2, t2⟩ := box4 HBB.out (.int .u64 (r.1 : Int)) (.int .u64 (r.2.1 : Int)) (.int .u64 (r.2.2.1 : Int)) (.int .u64 (r.2.2.2 : Int))
  rw [← hW2]
  clear qb ub hW2
  have q := fun i => cell_row q2 i
  have hgb : w.heap.size < g := by have := HG0.out.1; omega
  refine bodyPost_ret (v := .tuple #[r.val, .bool true, .int .i64 0]) (by simp [results, Tryz.results42, go_sem, q]) rfl ⟨rfl, g, ?_, ?_, ?_⟩
  · exact WentN.box HS.out (HT0.out.drewN nq) HG.out t2 (fun y hy => by simp at hy; subst hy; exact ⟨Nat.le_refl _, hlb⟩)
  · exact (t2.block rb (lt_of_block HR1.out) (by simp; omega)).trans HR1.out
  · exact HRR.out.touch t2 lg (by simp; omega)

set_option maxRecDepth 100000 in
set_option maxHeartbeats 4000000 in
theorem Peek_bad (S : Stand w b n A s F) (hrF : rb ∉ F) (hlo : b.lo ≤ rb) {kind blocks taken : Nat} {o : Option Addr} {c : Nat} {back : Bool} (hrow : w.heap[rb]? = some (.cells (rrow kb x kind (.slice o 0 c) 0 back blocks taken) 106 (0, 0))) (htb : taken < blocks) {n1 : Nat} {A1 : PubA} {er : Int} (her : er ≠ 0) (hle : lethal er = true)
    (H : ∀ W, Touch [] w W → Calls Tryz.prog 88 #[ptr rb] W fun e w' => e = .returned (.int .i64 er) ∧ Went W w' b n1 A1 s F []) :
    Calls Tryz.prog 42 #[ptr rb] w fun e w' => e = .returned (.tuple #[zeroR, .bool false, .int .i64 er]) ∧ Went w w' b n1 A1 s F [rb] ∧ w'.heap[rb]? = some (.cells (rrow kb x kind (.slice o 0 c) er back blocks taken) 106 (0, 0)) := by
  obtain ⟨W, hW⟩ : ∃ W, W = w.alloc (.cells #[.int .u64 0, .int .u64 0, .int .u64 0, .int .u64 0] 38) := ⟨_, rfl⟩
  have t0 : Touch [] w W := by rw [hW]; exact (Touch.refl [] w).alloc _
  have hb : W.heap[w.heap.size]? = some (.cells #[.int .u64 0, .int .u64 0, .int .u64 0, .int .u64 0] 38) := by rw [hW]; exact heap_alloc_new w _
  have hrowW := (t0.block rb (lt_of_block hrow) (by simp)).trans hrow
  have HRf := hid (refusal_any (x := x) (kb := kb) (kind := (kind : Int)) (lv := .slice o 0 c) (dead := 0) (cl := false) (w := W) (hb := rb) ⟨_, _, hrowW, rfl, rfl, rfl, rfl, rfl, rfl⟩)
  simp only [Bool.false_eq_true, if_false] at HRf
  have c3 := cell_row hrowW 3
  have c7 := cell_row hrowW 7
  have c8 := cell_row hrowW 8
  simp only [List.getElem?_toArray, List.getElem?_cons_zero, List.getElem?_cons_succ] at c3 c7 c8
  have q := fun i => cell_row hb i
  have u := fun i => unfrozen_row hb i
  have HT0 := hid t0
  have HE := hid hW
  have HB := hid hb
  have HRW := hid hrowW
  have hlb := lt_of_block hb
  have hd2 : decide ((taken : Int) < (blocks : Int)) = true := by simp; omega
  have HH : Hid (∀ nq, Calls Tryz.prog 88 #[ptr rb] (W.drewN nq) fun e w' => e = .returned (.int .i64 er) ∧ Went (W.drewN nq) w' b n1 A1 s F []) := fun nq => H _ (t0.drewN nq)
  have HTL : Hid (∀ W', W'.heap[rb]? = some (.cells (rrow kb x kind (.slice o 0 c) 0 back blocks taken) 106 (0, 0)) → Calls Tryz.prog 81 #[ptr rb, .int .i64 er] W' fun e w' => e = .returned (.int .i64 er) ∧ w' = W'.setCell ⟨rb, 4, none⟩ (.int .i64 er)) := fun W' h => by
    have := tell_any (w := W') (hb := rb) (kb := kb) (x := x) (kind := (kind : Int)) (lv := .slice o 0 c) (dead := 0) (cl := false) ⟨_, _, h, rfl, rfl, rfl, rfl, rfl, rfl⟩ er
    rw [← tellW_yes W' rb hle] at this
    exact this
  have HS := hid S
  have lrw := lt_of_block hrow
  have HF := hid (And.intro hrF hlo)
  clear hrow t0 hb hrowW hW H S hrF hlo
  go_enter Tryz.func42, Tryz.ntmps42
  go_wp2_with fail
  rw [← HE.out]
  go_wp2_with (go_at_call 79; refine HRf.out.mono ?_; rintro e w1 ⟨rfl, hh⟩; have hh := hh.symm; subst hh)
  go_quiet (fail)
  go_wp2_with fail
  refine (HH.out _).mono ?_
  rintro e w1 ⟨rfl, hg⟩
  have hbb := (hg.choose_spec.2.1.block w.heap.size hlb (by have h1 := HS.out.lt; simp; exact fun h => Nat.lt_irrefl _ (h1 _ h))).trans HB.out
  have hr1 := (hg.choose_spec.2.1.block rb (Nat.lt_of_lt_of_le lrw HT0.out.size) (by simpa using HF.out.1)).trans HRW.out
  have HBB := hid hbb
  have HR1 := hid hr1
  have HG := hid hg
  clear hg hbb hr1 c3 c7 c8 q u
  go_wp2_with fail
  refine (HTL.out _ HR1.out).mono ?_
  rintro e w2 ⟨rfl, hw2a⟩
  have hw2 := hw2a.symm
  clear hw2a
  have hr2 := heap_setCell_row HR1.out 4 (.int .i64 er)
  rw [hw2] at hr2
  have t2' : Touch [rb] w1 w2 := (by rw [← hw2]; exact (Touch.refl [rb] w1).setCell (by simp) _)
  have hbb := (t2'.block w.heap.size (lt_of_block HBB.out) (by simp; omega)).trans HBB.out
  have HBC := hid hbb
  have qb := (fun i => cell_row hbb i)
  have ub := (fun i => unfrozen_row hbb i)
  have HR2 := hid hr2
  have HT2 := hid t2'
  clear hw2 hr2 t2' hbb
  go_wp2_with fail
  obtain ⟨W2, hW2, q2, t2⟩ := box4 HBC.out (.int .u64 0) (.int .u64 0) (.int .u64 0) (.int .u64 0)
  rw [← hW2]
  clear qb ub hW2
  have q := fun i => cell_row q2 i
  refine bodyPost_ret (v := .tuple #[zeroR, .bool false, .int .i64 er]) (by simp [results, Tryz.results42, go_sem, q]) rfl ⟨rfl, ?_, ?_⟩
  · obtain ⟨F', S', t', f'⟩ := HG.out
    have h1 : Went w w1 b n1 A1 s F [] := HG.out.pre (HT0.out.drewN nq) (by simp)
    have h2 := h1.own (G' := [rb]) HT2.out (fun y hy => by simp at hy; subst hy; exact ⟨by simp, HF.out.1, lrw, HF.out.2⟩) (by simp)
    obtain ⟨F2, S2, t2', f2⟩ := h2
    refine ⟨F', (S'.touch HT2.out (fun y hy => ?_)).touch t2 (fun y hy => ?_), ?_, fun y hy => ?_⟩
    · simp at hy
      subst hy
      refine ⟨fun hx => ?_, HF.out.2⟩
      rcases f' _ hx with h | h
      · exact HF.out.1 h
      · have h : W.heap.size ≤ y := h
        have := HT0.out.size
        omega
    · simp at hy
      subst hy
      refine ⟨fun hx => ?_, HS.out.room⟩
      rcases f' _ hx with h | h
      · exact Nat.lt_irrefl _ (HS.out.lt _ h)
      · have h : W.heap.size ≤ w.heap.size := h
        omega
    · exact t2'.trans t2 (fun y hy => .inr (by simp at hy; omega))
    · rcases f' y hy with h | h
      · exact .inl h
      · exact .inr (Nat.le_trans HT0.out.size h)
  · exact ((t2.block rb (lt_of_block HR2.out) (by simp; omega)).trans HR2.out).trans (by simp)
end
end Go.Proofs.YtclplbnildnifaaGreatDoor
/-
  Reader.Next.
-/
namespace Go.Proofs.YtclplbnildnifaaGreatDoor
open Go.RowKit Go.Deep
set_option linter.unusedSimpArgs false
set_option linter.unusedVariables false

section
variable {w w' : World} {b : Bn} {n : Nat} {A : PubA} {s : Pu.St} {F : List Nat} {kb rb : Nat} {K : Nat} {T : Int} {x : ByteArray}

theorem WentN.own2 {W w2 W2 : World} {n0 m : Nat} {A0 A' : PubA} {s0 s' : Pu.St} {G B N : List Nat} (S : Stand w b n0 A0 s0 F) (t1 : Touch [] w W) (h : WentN W w2 b m A' s' F G N) (t2 : Touch B w2 W2) (hB : ∀ y ∈ B, (y ∈ G ∧ y ∉ F ∧ y < w.heap.size ∧ b.lo ≤ y) ∨ (w.heap.size ≤ y ∧ y < W.heap.size)) : WentN w W2 b m A' s' F G N := by
  obtain ⟨F', S', t', f', hN⟩ := h
  have hs := t1.size
  refine ⟨F', S'.touch t2 (fun y hy => ⟨fun hx => ?_, ?_⟩), ((t1.mono (by simp)).trans t' (fun y hy => .inl hy)).trans t2 (fun y hy => ?_), fun y hy => ?_, fun y hy => ?_⟩
  · rcases hB y hy with ⟨_, h2, h3, _⟩ | h1
    · rcases f' y hx with h | h
      · exact h2 h
      · omega
    · rcases f' y hx with h | h
      · have := S.lt y h; omega
      · omega
  · rcases hB y hy with h1 | h1
    · exact h1.2.2.2
    · exact Nat.le_trans S.room h1.1
  · rcases hB y hy with h1 | h1
    · exact .inl (List.mem_append.2 (.inl h1.1))
    · exact .inr h1.1
  · rcases f' y hy with h | h
    · exact .inl h
    · exact .inr (Nat.le_trans t1.size h)
  · obtain ⟨h1, h2, h3⟩ := hN y hy
    exact ⟨h1, Nat.le_trans t1.size h2, Nat.lt_of_lt_of_le h3 t2.size⟩

theorem RdR.tail {w : World} {g off : Nat} {r : Rc} {t : List Rc} (h : RdR w g off (r :: t)) : RdR w g (off + 4) t := fun i hi c hc => by
  have := h (i + 1) (by simpa using hi) c hc
  have e : off + ((i + 1) * 4 + c) = off + 4 + (i * 4 + c) := by omega
  rw [e] at this
  simpa using this

set_option maxRecDepth 100000 in
set_option maxHeartbeats 4000000 in
theorem Next_no {er : Int} (H : ∀ W, Touch [] w W → Calls Tryz.prog 42 #[ptr rb] W fun e w' => e = .returned (.tuple #[zeroR, .bool false, .int .i64 er]) ∧ Touch [] W w') :
    Calls Tryz.prog 13 #[ptr rb] w fun e w' => e = .returned (.tuple #[zeroR, .bool false, .int .i64 er]) ∧ Touch [] w w' := by
  obtain ⟨W, hW⟩ : ∃ W, W = w.alloc (.cells #[.int .u64 0, .int .u64 0, .int .u64 0, .int .u64 0] 38) := ⟨_, rfl⟩
  have t0 : Touch [] w W := by rw [hW]; exact (Touch.refl [] w).alloc _
  have hb : W.heap[w.heap.size]? = some (.cells #[.int .u64 0, .int .u64 0, .int .u64 0, .int .u64 0] 38) := by rw [hW]; exact heap_alloc_new w _
  have HH := hid (H W t0)
  have HT0 := hid t0
  have HE := hid hW
  have HB := hid hb
  have hlb := lt_of_block hb
  clear H t0 hb hW
  go_enter Tryz.func13, Tryz.ntmps13
  go_wp2_with fail
  rw [← HE.out]
  refine HH.out.mono ?_
  rintro e w1 ⟨rfl, ht1⟩
  have hbb := (ht1.block w.heap.size hlb (by simp)).trans HB.out
  have HBB := hid hbb
  have qb := fun i => cell_row hbb i
  have ub := fun i => unfrozen_row hbb i
  have lb1 := lt_of_block hbb
  have HT1 := hid ht1
  clear hbb ht1
  go_wp2_with fail
  obtain ⟨W2, hW2, q2, t2⟩ := box4 HBB.out (.int .u64 0) (.int .u64 0) (.int .u64 0) (.int .u64 0)
  rw [← hW2]
  clear qb ub hW2
  have q3 := (Below.heap_alloc W2 (.cells #[.int .u64 0, .int .u64 0, .int .u64 0, .int .u64 0] 38) _ (lt_of_block q2)).trans q2
  have q := fun i => cell_row q3 i
  refine bodyPost_ret (v := .tuple #[zeroR, .bool false, .int .i64 er]) (by simp [results, Tryz.results13, go_sem, q]) rfl ⟨rfl, ?_⟩
  exact ((HT0.out.trans HT1.out (by simp)).trans t2 (by simp)).alloc _

set_option maxRecDepth 100000 in
set_option maxHeartbeats 4000000 in
theorem Next_bad (S : Stand w b n A s F) {kind blocks taken : Nat} {o : Option Addr} {c : Nat} {back : Bool} {n1 : Nat} {A1 : PubA} {er : Int} (hrl : rb < w.heap.size)
    (H : ∀ W, Touch [] w W → Calls Tryz.prog 42 #[ptr rb] W fun e w' => e = .returned (.tuple #[zeroR, .bool false, .int .i64 er]) ∧ Went W w' b n1 A1 s F [rb] ∧ w'.heap[rb]? = some (.cells (rrow kb x kind (.slice o 0 c) er back blocks taken) 106 (0, 0))) :
    Calls Tryz.prog 13 #[ptr rb] w fun e w' => e = .returned (.tuple #[zeroR, .bool false, .int .i64 er]) ∧ Went w w' b n1 A1 s F [rb] ∧ w'.heap[rb]? = some (.cells (rrow kb x kind (.slice o 0 c) er back blocks taken) 106 (0, 0)) := by
  obtain ⟨W, hW⟩ : ∃ W, W = w.alloc (.cells #[.int .u64 0, .int .u64 0, .int .u64 0, .int .u64 0] 38) := ⟨_, rfl⟩
  have t0 : Touch [] w W := by rw [hW]; exact (Touch.refl [] w).alloc _
  have hb : W.heap[w.heap.size]? = some (.cells #[.int .u64 0, .int .u64 0, .int .u64 0, .int .u64 0] 38) := by rw [hW]; exact heap_alloc_new w _
  have HT0 := hid t0
  have HE := hid hW
  have HB := hid hb
  have hlb := lt_of_block hb
  have HH := hid (H W t0)
  have HS := hid S
  clear H t0 hb hW S
  go_enter Tryz.func13, Tryz.ntmps13
  go_wp2_with fail
  rw [← HE.out]
  refine HH.out.mono ?_
  rintro e w1 ⟨rfl, hg, hr1⟩
  have hbb := (hg.choose_spec.2.1.block w.heap.size hlb (by have h1 := HS.out.lt; simp; exact ⟨fun e => by omega, fun h => Nat.lt_irrefl _ (h1 _ h)⟩)).trans HB.out
  have HBB := hid hbb
  have qb := fun i => cell_row hbb i
  have ub := fun i => unfrozen_row hbb i
  have lb1 := lt_of_block hbb
  have HG := hid hg
  have HR1 := hid hr1
  clear hbb hg hr1
  go_wp2_with fail
  obtain ⟨W2, hW2, q2, t2⟩ := box4 HBB.out (.int .u64 0) (.int .u64 0) (.int .u64 0) (.int .u64 0)
  rw [← hW2]
  clear qb ub hW2
  have q3 := (Below.heap_alloc W2 (.cells #[.int .u64 0, .int .u64 0, .int .u64 0, .int .u64 0] 38) _ (lt_of_block q2)).trans q2
  have q := fun i => cell_row q3 i
  have t3 : Touch [w.heap.size] w1 (W2.alloc (.cells #[.int .u64 0, .int .u64 0, .int .u64 0, .int .u64 0] 38)) := t2.alloc _
  refine bodyPost_ret (v := .tuple #[zeroR, .bool false, .int .i64 er]) (by simp [results, Tryz.results13, go_sem, q]) rfl ⟨rfl, ?_, ?_⟩
  · exact Went.box HS.out HT0.out HG.out t3 (fun y hy => by simp at hy; subst hy; exact ⟨Nat.le_refl _, hlb⟩)
  · exact (t3.block rb (lt_of_block HR1.out) (by simp; omega)).trans HR1.out

set_option maxRecDepth 100000 in
set_option maxHeartbeats 4000000 in
theorem Next_have {kind blocks taken g : Nat} {lv : Value} {back : Bool} {r : Rc} {t : List Rc} (hrow : w.heap[rb]? = some (.cells (rrow kb x kind lv 0 back blocks taken) 106 (0, 0))) (hl : LsAt w g lv (r :: t)) (hlen : (r :: t).length ≤ 65536) (hgr : g ≠ rb) (hgw : g < w.heap.size) :
    Calls Tryz.prog 13 #[ptr rb] w fun e w' => e = .returned (.tuple #[r.val, .bool true, .int .i64 0]) ∧ Touch [rb] w w' ∧ ∃ lv', w'.heap[rb]? = some (.cells (rrow kb x kind lv' 0 back blocks taken) 106 (0, 0)) ∧ LsAt w' g lv' t := by
  obtain ⟨W, hW⟩ : ∃ W, W = w.alloc (.cells #[.int .u64 0, .int .u64 0, .int .u64 0, .int .u64 0] 38) := ⟨_, rfl⟩
  have t0 : Touch [] w W := by rw [hW]; exact (Touch.refl [] w).alloc _
  have hb : W.heap[w.heap.size]? = some (.cells #[.int .u64 0, .int .u64 0, .int .u64 0, .int .u64 0] 38) := by rw [hW]; exact heap_alloc_new w _
  have HT0 := hid t0
  have HE := hid hW
  have HB := hid hb
  have hlb := lt_of_block hb
  have hrowW := (t0.block rb (lt_of_block hrow) (by simp)).trans hrow
  have hlW := hl.touch t0 (by simp)
  have HH := hid (Peek_have hrowW hlW hlen)
  obtain ⟨o, c, rfl, hcc, hoff⟩ := hlW.val
  obtain ⟨off, rfl, hrd, hgl⟩ := hoff (by simp)
  obtain ⟨L, hL⟩ : ∃ L, L = (r :: t).length := ⟨_, rfl⟩
  have hlt : 0 < L := by rw [hL]; simp
  have hLt : L - 1 = t.length := by rw [hL]; simp
  rw [← hL] at hcc hrowW hlen
  have HRW := hid hrowW
  have HRD := hid hrd
  have HL := hid hL
  have HLT := hid hLt
  have lrb := lt_of_block hrow
  have HGB := hid hgw
  clear hrow hl hlW t0 hb hW hrowW hoff hrd hL hLt
  go_enter Tryz.func13, Tryz.ntmps13
  go_wp2_with fail
  rw [← HE.out]
  refine HH.out.mono ?_
  rintro e w1 ⟨rfl, ht1⟩
  have hbb := (ht1.block w.heap.size hlb (by simp)).trans HB.out
  have HBB := hid hbb
  have qb := fun i => cell_row hbb i
  have ub := fun i => unfrozen_row hbb i
  have lb1 := lt_of_block hbb
  have HT1 := hid ht1
  have HR1 := hid ((ht1.block rb (Nat.lt_of_lt_of_le lrb HT0.out.size) (by simp)).trans HRW.out)
  clear hbb ht1
  have c3 := cell_row HR1.out 3
  have u3 := fun i => unfrozen_row HR1.out i
  simp only [List.getElem?_toArray, List.getElem?_cons_zero, List.getElem?_cons_succ] at c3
  have lr1 := lt_of_block HR1.out
  by_cases hc1 : c = 1
  · subst hc1
    have hL1 : L = 1 := by omega
    have ht0 : t = [] := by have := HL.out; rw [hL1] at this; simpa using this.symm
    subst hL1
    go_wp2_with fail
    obtain ⟨W3, hW3⟩ : ∃ W3, W3 = w1.setCell ⟨rb, 3, none⟩ (.slice (some ⟨g, off, none⟩) 0 0) := ⟨_, rfl⟩
    have r3 : W3.heap[rb]? = some (.cells (rrow kb x kind (.slice (some ⟨g, off, none⟩) 0 0) 0 back blocks taken) 106 (0, 0)) := by rw [hW3]; exact (heap_setCell_row HR1.out 3 _).trans (by simp)
    have b3 : W3.heap[w.heap.size]? = some (.cells #[.int .u64 0, .int .u64 0, .int .u64 0, .int .u64 0] 38 (0, 0)) := by rw [hW3]; exact (Below.heap_setCell _ _ _ _ (by simp; omega)).trans HBB.out
    have t3 : Touch [rb] w1 W3 := by rw [hW3]; exact (Touch.refl [rb] w1).setCell (by simp) _
    obtain ⟨W2, hW2, q2, t2⟩ := box4 b3 (.int .u64 (r.1 : Int)) (.int .u64 (r.2.1 : Int)) (.int .u64 (r.2.2.1 : Int)) (.int .u64 (r.2.2.2 : Int))
    rw [hW3] at hW2
    rw [← hW2]
    clear qb ub hW2 hW3 c3 u3
    have q3 := (Below.heap_alloc W2 (.cells #[.int .u64 (r.1 : Int), .int .u64 (r.2.1 : Int), .int .u64 (r.2.2.1 : Int), .int .u64 (r.2.2.2 : Int)] 38) _ (lt_of_block q2)).trans q2
    have q := fun i => cell_row q3 i
    have tt : Touch [rb, w.heap.size] w1 (W2.alloc (.cells #[.int .u64 (r.1 : Int), .int .u64 (r.2.1 : Int), .int .u64 (r.2.2.1 : Int), .int .u64 (r.2.2.2 : Int)] 38)) := (((t3.mono (by simp)).trans t2 (by simp)).alloc _)
    have rf : (W2.alloc (.cells #[.int .u64 (r.1 : Int), .int .u64 (r.2.1 : Int), .int .u64 (r.2.2.1 : Int), .int .u64 (r.2.2.2 : Int)] 38)).heap[rb]? = some (.cells (rrow kb x kind (.slice (some ⟨g, off, none⟩) 0 0) 0 back blocks taken) 106 (0, 0)) := (((t2.alloc _).block rb (lt_of_block r3) (by simp; omega)).trans r3)
    refine bodyPost_ret (v := .tuple #[r.val, .bool true, .int .i64 0]) (by simp [results, Tryz.results13, go_sem, q]) rfl ⟨rfl, ?_, .slice (some ⟨g, off, none⟩) 0 0, rf, ?_⟩
    · exact ((HT0.out.mono (by simp)).trans (HT1.out.mono (F := []) (G := [rb]) (by simp)) (fun y hy => .inl hy)).trans tt (fun y hy => by simp at hy; rcases hy with rfl | rfl; exact .inl (by simp); exact .inr (Nat.le_refl _))
    · subst ht0
      exact ⟨_, _, rfl, Nat.le_refl _, fun h => absurd rfl h⟩
  · have hc2 : 1 < c := by omega
    go_wp2_with fail
    obtain ⟨W3, hW3⟩ : ∃ W3, W3 = w1.setCell ⟨rb, 3, none⟩ (.slice (some ⟨g, off + 4, none⟩) (L - 1) (c - 1)) := ⟨_, rfl⟩
    have r3 : W3.heap[rb]? = some (.cells (rrow kb x kind (.slice (some ⟨g, off + 4, none⟩) (L - 1) (c - 1)) 0 back blocks taken) 106 (0, 0)) := by rw [hW3]; exact (heap_setCell_row HR1.out 3 _).trans (by simp)
    have b3 : W3.heap[w.heap.size]? = some (.cells #[.int .u64 0, .int .u64 0, .int .u64 0, .int .u64 0] 38 (0, 0)) := by rw [hW3]; exact (Below.heap_setCell _ _ _ _ (by simp; omega)).trans HBB.out
    have t3 : Touch [rb] w1 W3 := by rw [hW3]; exact (Touch.refl [rb] w1).setCell (by simp) _
    obtain ⟨W2, hW2, q2, t2⟩ := box4 b3 (.int .u64 (r.1 : Int)) (.int .u64 (r.2.1 : Int)) (.int .u64 (r.2.2.1 : Int)) (.int .u64 (r.2.2.2 : Int))
    rw [hW3] at hW2
    rw [← hW2]
    clear qb ub hW2 hW3 c3 u3
    have q3 := (Below.heap_alloc W2 (.cells #[.int .u64 (r.1 : Int), .int .u64 (r.2.1 : Int), .int .u64 (r.2.2.1 : Int), .int .u64 (r.2.2.2 : Int)] 38) _ (lt_of_block q2)).trans q2
    have q := fun i => cell_row q3 i
    have tt : Touch [rb, w.heap.size] w1 (W2.alloc (.cells #[.int .u64 (r.1 : Int), .int .u64 (r.2.1 : Int), .int .u64 (r.2.2.1 : Int), .int .u64 (r.2.2.2 : Int)] 38)) := (((t3.mono (by simp)).trans t2 (by simp)).alloc _)
    have rf : (W2.alloc (.cells #[.int .u64 (r.1 : Int), .int .u64 (r.2.1 : Int), .int .u64 (r.2.2.1 : Int), .int .u64 (r.2.2.2 : Int)] 38)).heap[rb]? = some (.cells (rrow kb x kind (.slice (some ⟨g, off + 4, none⟩) (L - 1) (c - 1)) 0 back blocks taken) 106 (0, 0)) := (((t2.alloc _).block rb (lt_of_block r3) (by simp; omega)).trans r3)
    refine bodyPost_ret (v := .tuple #[r.val, .bool true, .int .i64 0]) (by simp [results, Tryz.results13, go_sem, q]) rfl ⟨rfl, ?_, .slice (some ⟨g, off + 4, none⟩) (L - 1) (c - 1), rf, ?_⟩
    · exact ((HT0.out.mono (by simp)).trans (HT1.out.mono (F := []) (G := [rb]) (by simp)) (fun y hy => .inl hy)).trans tt (fun y hy => by simp at hy; rcases hy with rfl | rfl; exact .inl (by simp); exact .inr (Nat.le_refl _))
    · rw [HLT.out]
      have hg1 : g < w1.heap.size := Nat.lt_of_lt_of_le hgl HT1.out.size
      refine ⟨_, _, rfl, by have := HLT.out; omega, fun _ => ⟨off + 4, rfl, ?_, Nat.lt_of_lt_of_le hg1 tt.size⟩⟩
      exact (HRD.out.tail.touch HT1.out hgl (by simp)).touch tt hg1 (by simp; exact ⟨hgr, by have := HGB.out; omega⟩)

set_option maxRecDepth 100000 in
set_option maxHeartbeats 4000000 in
theorem Next_load (S : Stand w b n A s F) (hrF : rb ∉ F) (hlo : b.lo ≤ rb) (lrb : rb < w.heap.size) {kind blocks taken : Nat} {back : Bool} {n1 : Nat} {A1 : PubA} {r : Rc} {t : List Rc} (hlen : (r :: t).length ≤ 65536)
    (H : ∀ W, Touch [] w W → Calls Tryz.prog 42 #[ptr rb] W fun e w' => e = .returned (.tuple #[r.val, .bool true, .int .i64 0]) ∧ ∃ g, WentN W w' b n1 A1 s F [rb] [g] ∧ w'.heap[rb]? = some (.cells (rrow kb x kind (.slice (some ⟨g, 0, none⟩) (r :: t).length (r :: t).length) 0 back blocks (taken + 1)) 106 (0, 0)) ∧ RdR w' g 0 (r :: t)) :
    Calls Tryz.prog 13 #[ptr rb] w fun e w' => e = .returned (.tuple #[r.val, .bool true, .int .i64 0]) ∧ ∃ g lv', WentN w w' b n1 A1 s F [rb] [g] ∧ g ≠ rb ∧ w'.heap[rb]? = some (.cells (rrow kb x kind lv' 0 back blocks (taken + 1)) 106 (0, 0)) ∧ LsAt w' g lv' t := by
  obtain ⟨W, hW⟩ : ∃ W, W = w.alloc (.cells #[.int .u64 0, .int .u64 0, .int .u64 0, .int .u64 0] 38) := ⟨_, rfl⟩
  have t0 : Touch [] w W := by rw [hW]; exact (Touch.refl [] w).alloc _
  have hb : W.heap[w.heap.size]? = some (.cells #[.int .u64 0, .int .u64 0, .int .u64 0, .int .u64 0] 38) := by rw [hW]; exact heap_alloc_new w _
  have HT0 := hid t0
  have HE := hid hW
  have HB := hid hb
  have hlb := lt_of_block hb
  have HH := hid (H W t0)
  have HS := hid S
  have HF := hid (And.intro hrF hlo)
  obtain ⟨L, hL⟩ : ∃ L, L = (r :: t).length := ⟨_, rfl⟩
  have hlt : 0 < L := by rw [hL]; simp
  have hLt : L - 1 = t.length := by rw [hL]; simp
  rw [← hL] at HH hlen
  obtain ⟨c, hc⟩ : ∃ c, c = L := ⟨_, rfl⟩
  have HL := hid hL
  have HLT := hid hLt
  have hcc : L ≤ c := by omega
  have HC := hid hc
  clear H t0 hb hW S hrF hlo hL hLt hc
  go_enter Tryz.func13, Tryz.ntmps13
  go_wp2_with fail
  rw [← HE.out]
  refine HH.out.mono ?_
  rintro e w1 ⟨rfl, g, hg, hr1, hrd⟩
  have hbb := (hg.choose_spec.2.1.block w.heap.size hlb (by have h1 := HS.out.lt; simp; exact ⟨fun e => by omega, fun h => Nat.lt_irrefl _ (h1 _ h)⟩)).trans HB.out
  have hg0 : W.heap.size ≤ g ∧ g < w1.heap.size := ⟨(hg.choose_spec.2.2.2 g (by simp)).2.1, (hg.choose_spec.2.2.2 g (by simp)).2.2⟩
  have HBB := hid hbb
  have qb := fun i => cell_row hbb i
  have ub := fun i => unfrozen_row hbb i
  have lb1 := lt_of_block hbb
  have HG := hid hg
  have HG0 := hid hg0
  have HR1 : Hid (w1.heap[rb]? = some (.cells (rrow kb x kind (.slice (some ⟨g, 0, none⟩) L c) 0 back blocks (taken + 1)) 106 (0, 0))) := by rw [HC.out]; exact hr1
  have HRR := hid hrd
  clear hbb hg hr1 hrd hg0
  have c3 := cell_row HR1.out 3
  have u3 := fun i => unfrozen_row HR1.out i
  simp only [List.getElem?_toArray, List.getElem?_cons_zero, List.getElem?_cons_succ] at c3
  have lr1 := lt_of_block HR1.out
  by_cases hc1 : c = 1
  · subst hc1
    have hL1 : L = 1 := by omega
    have ht0 : t = [] := by have := HL.out; rw [hL1] at this; simpa using this.symm
    subst hL1
    go_wp2_with fail
    obtain ⟨W3, hW3⟩ : ∃ W3, W3 = w1.setCell ⟨rb, 3, none⟩ (.slice (some ⟨g, 0, none⟩) 0 0) := ⟨_, rfl⟩
    have r3 : W3.heap[rb]? = some (.cells (rrow kb x kind (.slice (some ⟨g, 0, none⟩) 0 0) 0 back blocks (taken + 1)) 106 (0, 0)) := by rw [hW3]; exact (heap_setCell_row HR1.out 3 _).trans (by simp)
    have b3 : W3.heap[w.heap.size]? = some (.cells #[.int .u64 0, .int .u64 0, .int .u64 0, .int .u64 0] 38 (0, 0)) := by rw [hW3]; exact (Below.heap_setCell _ _ _ _ (by simp; omega)).trans HBB.out
    have t3 : Touch [rb] w1 W3 := by rw [hW3]; exact (Touch.refl [rb] w1).setCell (by simp) _
    obtain ⟨W2, hW2, q2, t2⟩ := box4 b3 (.int .u64 (r.1 : Int)) (.int .u64 (r.2.1 : Int)) (.int .u64 (r.2.2.1 : Int)) (.int .u64 (r.2.2.2 : Int))
    rw [hW3] at hW2
    rw [← hW2]
    clear qb ub hW2 hW3 c3 u3
    have q3 := (Below.heap_alloc W2 (.cells #[.int .u64 (r.1 : Int), .int .u64 (r.2.1 : Int), .int .u64 (r.2.2.1 : Int), .int .u64 (r.2.2.2 : Int)] 38) _ (lt_of_block q2)).trans q2
    have q := fun i => cell_row q3 i
    have tt : Touch [rb, w.heap.size] w1 (W2.alloc (.cells #[.int .u64 (r.1 : Int), .int .u64 (r.2.1 : Int), .int .u64 (r.2.2.1 : Int), .int .u64 (r.2.2.2 : Int)] 38)) := (((t3.mono (by simp)).trans t2 (by simp)).alloc _)
    have rf : (W2.alloc (.cells #[.int .u64 (r.1 : Int), .int .u64 (r.2.1 : Int), .int .u64 (r.2.2.1 : Int), .int .u64 (r.2.2.2 : Int)] 38)).heap[rb]? = some (.cells (rrow kb x kind (.slice (some ⟨g, 0, none⟩) 0 0) 0 back blocks (taken + 1)) 106 (0, 0)) := (((t2.alloc _).block rb (lt_of_block r3) (by simp; omega)).trans r3)
    refine bodyPost_ret (v := .tuple #[r.val, .bool true, .int .i64 0]) (by simp [results, Tryz.results13, go_sem, q]) rfl ⟨rfl, g, .slice (some ⟨g, 0, none⟩) 0 0, ?_, by have := HG0.out; omega, rf, ?_⟩
    · refine WentN.own2 HS.out HT0.out HG.out tt (fun y hy => ?_)
      simp at hy
      rcases hy with rfl | rfl
      · exact .inl ⟨by simp, HF.out.1, lrb, HF.out.2⟩
      · exact .inr ⟨Nat.le_refl _, hlb⟩
    · subst ht0
      exact ⟨_, _, rfl, Nat.le_refl _, fun h => absurd rfl h⟩
  · have hc2 : 1 < c := by omega
    go_wp2_with fail
    obtain ⟨W3, hW3⟩ : ∃ W3, W3 = w1.setCell ⟨rb, 3, none⟩ (.slice (some ⟨g, 4, none⟩) (L - 1) (c - 1)) := ⟨_, rfl⟩
    have r3 : W3.heap[rb]? = some (.cells (rrow kb x kind (.slice (some ⟨g, 4, none⟩) (L - 1) (c - 1)) 0 back blocks (taken + 1)) 106 (0, 0)) := by rw [hW3]; exact (heap_setCell_row HR1.out 3 _).trans (by simp)
    have b3 : W3.heap[w.heap.size]? = some (.cells #[.int .u64 0, .int .u64 0, .int .u64 0, .int .u64 0] 38 (0, 0)) := by rw [hW3]; exact (Below.heap_setCell _ _ _ _ (by simp; omega)).trans HBB.out
    have t3 : Touch [rb] w1 W3 := by rw [hW3]; exact (Touch.refl [rb] w1).setCell (by simp) _
    obtain ⟨W2, hW2, q2, t2⟩ := box4 b3 (.int .u64 (r.1 : Int)) (.int .u64 (r.2.1 : Int)) (.int .u64 (r.2.2.1 : Int)) (.int .u64 (r.2.2.2 : Int))
    rw [hW3] at hW2
    rw [← hW2]
    clear qb ub hW2 hW3 c3 u3
    have q3 := (Below.heap_alloc W2 (.cells #[.int .u64 (r.1 : Int), .int .u64 (r.2.1 : Int), .int .u64 (r.2.2.1 : Int), .int .u64 (r.2.2.2 : Int)] 38) _ (lt_of_block q2)).trans q2
    have q := fun i => cell_row q3 i
    have tt : Touch [rb, w.heap.size] w1 (W2.alloc (.cells #[.int .u64 (r.1 : Int), .int .u64 (r.2.1 : Int), .int .u64 (r.2.2.1 : Int), .int .u64 (r.2.2.2 : Int)] 38)) := (((t3.mono (by simp)).trans t2 (by simp)).alloc _)
    have rf : (W2.alloc (.cells #[.int .u64 (r.1 : Int), .int .u64 (r.2.1 : Int), .int .u64 (r.2.2.1 : Int), .int .u64 (r.2.2.2 : Int)] 38)).heap[rb]? = some (.cells (rrow kb x kind (.slice (some ⟨g, 4, none⟩) (L - 1) (c - 1)) 0 back blocks (taken + 1)) 106 (0, 0)) := (((t2.alloc _).block rb (lt_of_block r3) (by simp; omega)).trans r3)
    refine bodyPost_ret (v := .tuple #[r.val, .bool true, .int .i64 0]) (by simp [results, Tryz.results13, go_sem, q]) rfl ⟨rfl, g, .slice (some ⟨g, 4, none⟩) (L - 1) (c - 1), ?_, by have := HG0.out; omega, rf, ?_⟩
    · refine WentN.own2 HS.out HT0.out HG.out tt (fun y hy => ?_)
      simp at hy
      rcases hy with rfl | rfl
      · exact .inl ⟨by simp, HF.out.1, lrb, HF.out.2⟩
      · exact .inr ⟨Nat.le_refl _, hlb⟩
    · rw [HLT.out]
      have hg1 : g < w1.heap.size := HG0.out.2
      refine ⟨_, _, rfl, by have := HLT.out; omega, fun _ => ⟨0 + 4, by simp, ?_, Nat.lt_of_lt_of_le hg1 tt.size⟩⟩
      exact HRR.out.tail.touch tt hg1 (by simp; have := HG0.out; omega)
end
end Go.Proofs.YtclplbnildnifaaGreatDoor
/-
  Reader.Close, called and deferred.
-/
namespace Go.Proofs.YtclplbnildnifaaGreatDoor
open Go.RowKit Go.Deep
set_option linter.unusedSimpArgs false
set_option linter.unusedVariables false

section
variable {w w' : World} {b : Bn} {n : Nat} {A : PubA} {s : Pu.St} {F : List Nat} {kb rb : Nat} {K : Nat} {T : Int} {x : ByteArray}

set_option maxRecDepth 100000 in
set_option maxHeartbeats 4000000 in
theorem RClose_any (S : Stand w b n A s F) (hk : DeskAt w kb b K T) (hkF : kb ∉ F) {kind blocks taken : Nat} {lv : Value} {dead : Int} {back : Bool} (hrow : w.heap[rb]? = some (.cells (rrow kb x kind lv dead back blocks taken) 106 (0, 0))) (hrF : rb ∉ F) (hlo : b.lo ≤ rb) (hne : rb ≠ kb) :
    Calls Tryz.prog 14 #[ptr rb] w fun e w' => e = .returned (.int .i64 0) ∧ Went w w' b n A (s.give K) F [rb] := by
  have HR := hid (release_any S hk hkF (hb := rb) (x := x) (kind := (kind : Int)) (lv := lv) (dead := dead) (cl := false) ⟨_, _, hrow, rfl, rfl, rfl, rfl, rfl, rfl⟩ hrF hlo hne)
  have c5 := cell_row hrow 5
  simp only [List.getElem?_toArray, List.getElem?_cons_zero, List.getElem?_cons_succ] at c5
  clear S hk hkF hrow hrF hlo hne
  go_enter Tryz.func14, Tryz.ntmps14
  go_wp2_with (go_at_call 43; refine HR.out.mono ?_; rintro e w1 ⟨rfl, hf⟩)
  go_ret
  exact ⟨rfl, hf.2⟩

set_option maxRecDepth 100000 in
set_option maxHeartbeats 4000000 in
theorem RClose_d (S : Stand w b n A s F) (hk : DeskAt w kb b K T) (hkF : kb ∉ F) {kind blocks taken : Nat} {lv : Value} {dead : Int} {back : Bool} (hrow : w.heap[rb]? = some (.cells (rrow kb x kind lv dead back blocks taken) 106 (0, 0))) (hrF : rb ∉ F) (hlo : b.lo ≤ rb) (hne : rb ≠ kb) (u : FrameMode) :
    CallsD Tryz.prog 14 #[ptr rb] u w fun e u' w' => u' = u ∧ (e = .returned (.int .i64 0) ∧ Went w w' b n A (s.give K) F [rb]) := by
  have HR := hid (release_any S hk hkF (hb := rb) (x := x) (kind := (kind : Int)) (lv := lv) (dead := dead) (cl := false) ⟨_, _, hrow, rfl, rfl, rfl, rfl, rfl, rfl⟩ hrF hlo hne)
  have c5 := cell_row hrow 5
  simp only [List.getElem?_toArray, List.getElem?_cons_zero, List.getElem?_cons_succ] at c5
  clear S hk hkF hrow hrF hlo hne
  go_enter_d Tryz.func14, Tryz.ntmps14
  go_wp2_with (go_at_call 43; refine HR.out.mono ?_; rintro e w1 ⟨rfl, hf⟩)
  go_ret
  exact ⟨rfl, hf.2⟩
end
end Go.Proofs.YtclplbnildnifaaGreatDoor
/-
  Desk.Last.
-/
namespace Go.Proofs.YtclplbnildnifaaGreatDoor
open Go.RowKit Go.Deep
set_option linter.unusedSimpArgs false
set_option linter.unusedVariables false

section
variable {w w' : World} {b : Bn} {n : Nat} {A : PubA} {s : Pu.St} {F : List Nat} {kb : Nat} {K : Nat} {T : Int} {x : ByteArray}

/-- a reader that has just been made. -/
abbrev rfresh (kb : Nat) (x : ByteArray) (kind : Int) (bk : Bool) (l : Int) : Array Value := #[ptr kb, .string x, .int .i64 kind, .slice none 0 0, .int .i64 0, .bool false, .bool bk, .int .i64 l, .int .i64 0]

set_option maxRecDepth 100000 in
set_option maxHeartbeats 4000000 in
theorem Last_of (S : Stand w b n A s F) (hn : n < 1099511627776) (hk : DeskAt w kb b K T) (hkF : kb ∉ F) {kind : Nat} (he : holdE A s K (kind : Int) [x] [] = 0) {r : Rc} {sm : Bool} {er : Int} {n2 : Nat} {A2 : PubA}
    (HN : ∀ w1 F1 rb, Stand w1 b n A (s.take K) F1 → DeskAt w1 kb b K T → kb ∉ F1 → rb ∉ F1 → b.lo ≤ rb → rb ≠ kb → w1.heap[rb]? = some (.cells (rfresh kb x (kind : Int) true (lengthB x A).1) 106 (0, 0)) →
      Calls Tryz.prog 13 #[ptr rb] w1 fun e w' => e = .returned (.tuple #[r.val, .bool sm, .int .i64 er]) ∧ Went w1 w' b n2 A2 (s.take K) F1 [rb] ∧ ∃ lv dead blocks taken, w'.heap[rb]? = some (.cells (rrow kb x kind lv dead true blocks taken) 106 (0, 0))) :
    Calls Tryz.prog 16 #[ptr kb, .string x, .int .i64 (kind : Int)] w fun e w' => e = .returned (.tuple #[r.val, .bool sm, .int .i64 er]) ∧ Went w w' b n2 A2 ((s.take K).give K) F [] := by
  obtain ⟨W, hW⟩ : ∃ W, W = w.alloc (.cells #[.int .u64 0, .int .u64 0, .int .u64 0, .int .u64 0] 38) := ⟨_, rfl⟩
  have t0 : Touch [] w W := by rw [hW]; exact (Touch.refl [] w).alloc _
  have hb : W.heap[w.heap.size]? = some (.cells #[.int .u64 0, .int .u64 0, .int .u64 0, .int .u64 0] 38) := by rw [hW]; exact heap_alloc_new w _
  have HB0 := hid (TBack_ok (S.quiet t0) hn (hk.touch t0 (by simp)) hkF x (kind : Int) he)
  have HS := hid S
  have HK := hid hk
  have HKF := hid hkF
  have HNN := hid HN
  have HT0 := hid t0
  have HE := hid hW
  have HB := hid hb
  have hlb := lt_of_block hb
  have lk := lt_of_block hk
  clear S hk hkF he HN t0 hW hb
  go_enter_defers Tryz.func16, Tryz.ntmps16
  go_wp2_with fail
  rw [← HE.out]
  refine HB0.out.mono ?_
  rintro e w1 ⟨rb, rfl, hg, hr1⟩
  obtain ⟨F1, S1, t1, f1, h1⟩ := hg
  obtain ⟨h2, h3, h4⟩ := h1 rb (by simp)
  have hsz := HT0.out.size
  have nb : w.heap.size ∉ [] ++ F := by simp; exact fun h => Nat.lt_irrefl _ (HS.out.lt _ h)
  have hb1 := (t1.block w.heap.size hlb nb).trans HB.out
  have nb1 : w.heap.size ∉ F1 := fun hx => by
    rcases f1 _ hx with h | h
    · exact Nat.lt_irrefl _ (HS.out.lt _ h)
    · omega
  have hk1 : DeskAt w1 kb b K T := (HK.out.touch HT0.out (by simp)).touch t1 (by simpa using HKF.out)
  have nk1 : kb ∉ F1 := fun hx => by
    rcases f1 _ hx with h | h
    · exact HKF.out h
    · omega
  have hlo : b.lo ≤ rb := by have := HS.out.room; omega
  have hne : rb ≠ kb := by omega
  have HX := hid (HNN.out w1 F1 rb S1 hk1 nk1 h2 hlo hne hr1)
  have HS1 := hid S1
  have HT1 := hid t1
  have HF1 := hid f1
  have HK1 := hid hk1
  have HB1 := hid hb1
  have hlt1 := lt_of_block hb1
  clear S1 t1 f1 h1 hb1 hk1 hr1
  go_wp2_with fail
  refine HX.out.mono ?_
  rintro e w2 ⟨rfl, hg, hex⟩
  obtain ⟨F2, S2, t2, f2⟩ := hg
  obtain ⟨lv, dead, blocks, taken, hr2⟩ := hex
  have nbr : w.heap.size ≠ rb := by omega
  have hb2 := (t2.block w.heap.size hlt1 (by simp; exact ⟨nbr, nb1⟩)).trans HB1.out
  have qb := fun i => cell_row hb2 i
  have ub := fun i => unfrozen_row hb2 i
  have HS2 := hid S2
  have HT2 := hid t2
  have HF2 := hid f2
  have HR2 := hid hr2
  have HB2 := hid hb2
  clear S2 t2 f2 hr2 hb2
  go_wp2_with fail
  obtain ⟨W2, hW2, q2, t3⟩ := box4 HB2.out (.int .u64 (r.1 : Int)) (.int .u64 (r.2.1 : Int)) (.int .u64 (r.2.2.1 : Int)) (.int .u64 (r.2.2.2 : Int))
  rw [← hW2]
  clear qb ub hW2
  have nb2 : w.heap.size ∉ F2 := fun hx => by
    rcases HF2.out _ hx with h | h
    · exact nb1 h
    · omega
  have nr2 : rb ∉ F2 := fun hx => by
    rcases HF2.out _ hx with h | h
    · exact h2 h
    · omega
  have nk2 : kb ∉ F2 := fun hx => by
    rcases HF2.out _ hx with h | h
    · exact nk1 h
    · have := HT1.out.size; omega
  have S3 : Stand W2 b n2 A2 (s.take K) F2 := HS2.out.touch t3 (fun y hy => by simp at hy; subst hy; exact ⟨nb2, HS.out.room⟩)
  have hk3 : DeskAt W2 kb b K T := (HK1.out.touch HT2.out (by simp; exact ⟨fun e => by omega, nk1⟩)).touch t3 (by simp; omega)
  have hr3 := (t3.block rb (lt_of_block HR2.out) (by simp; omega)).trans HR2.out
  refine leaves_cons (f := 14) (args := #[ptr rb]) (by simp) (by simp [go_sem]) ?_
  refine (RClose_d S3 hk3 nk2 hr3 nr2 hlo hne .returning).mono ?_
  rintro e u' w4 ⟨rfl, rfl, hg4⟩
  obtain ⟨F4, S4, t4, f4⟩ := hg4
  have q4 := (t4.block w.heap.size (lt_of_block q2) (by simp; exact ⟨nbr, nb2⟩)).trans q2
  have q := fun i => cell_row q4 i
  refine ⟨.tuple #[r.val, .bool sm, .int .i64 er], by simp [results, Tryz.results16, go_sem, q], rfl, F4, S4, ?_, fun y hy => ?_⟩
  · have ta : Touch F w w1 := (HT0.out.mono (by simp)).trans HT1.out (fun y hy => .inl (by simpa using hy))
    have tb : Touch F w w2 := ta.trans HT2.out (fun y hy => by
      rcases List.mem_append.1 hy with h | h
      · simp at h; subst h; right; omega
      · rcases HF1.out y h with h | h
        · exact .inl h
        · exact .inr (by omega))
    have tc : Touch F w W2 := tb.trans t3 (fun y hy => by simp at hy; subst hy; exact .inr (Nat.le_refl _))
    refine (tc.trans t4 (fun y hy => ?_)).mono (by simp)
    rcases List.mem_append.1 hy with h | h
    · simp at h; subst h; right; omega
    · rcases HF2.out y h with h | h
      · rcases HF1.out y h with h | h
        · exact .inl h
        · exact .inr (by omega)
      · exact .inr (by have := ta.size; omega)
  · have ta := HT1.out.size
    have tb := HT2.out.size
    have tc := t3.size
    rcases f4 y hy with h | h
    · rcases HF2.out y h with h | h
      · rcases HF1.out y h with h | h
        · exact .inl h
        · exact .inr (by omega)
      · exact .inr (by omega)
    · exact .inr (by omega)
end
end Go.Proofs.YtclplbnildnifaaGreatDoor
/-
  Desk.Size.
-/
namespace Go.Proofs.YtclplbnildnifaaGreatDoor
open Go.RowKit Go.Deep
set_option linter.unusedSimpArgs false
set_option linter.unusedVariables false

section
variable {w w' : World} {b : Bn} {n : Nat} {A : PubA} {s : Pu.St} {F : List Nat} {kb : Nat} {K : Nat} {T : Int} {x : ByteArray}

set_option maxRecDepth 100000 in
set_option maxHeartbeats 4000000 in
theorem Size_no (S : Stand w b n A s F) (hn : n < 1099511627776) (hk : DeskAt w kb b K T) (hkF : kb ∉ F) {kind : Nat} (he : holdE A s K (kind : Int) [x] [] = 0) {er : Int} {n2 : Nat} {A2 : PubA}
    (HN : ∀ w1 F1 rb, Stand w1 b n A (s.take K) F1 → DeskAt w1 kb b K T → kb ∉ F1 → rb ∉ F1 → b.lo ≤ rb → rb ≠ kb → w1.heap[rb]? = some (.cells (rfresh kb x (kind : Int) true (lengthB x A).1) 106 (0, 0)) →
      Calls Tryz.prog 42 #[ptr rb] w1 fun e w' => e = .returned (.tuple #[zeroR, .bool false, .int .i64 er]) ∧ Went w1 w' b n2 A2 (s.take K) F1 [rb] ∧ ∃ lv dead blocks taken, w'.heap[rb]? = some (.cells (rrow kb x kind lv dead true blocks taken) 106 (0, 0))) :
    Calls Tryz.prog 17 #[ptr kb, .string x, .int .i64 (kind : Int)] w fun e w' => e = .returned (.tuple #[.int .i64 0, .int .i64 er]) ∧ Went w w' b n2 A2 ((s.take K).give K) F [] := by
  have HB0 := hid (TBack_ok S hn hk hkF x (kind : Int) he)
  have HS := hid S
  have HK := hid hk
  have HKF := hid hkF
  have HNN := hid HN
  have lk := lt_of_block hk
  clear S hk hkF he HN
  go_enter_defers Tryz.func17, Tryz.ntmps17
  go_wp2_with fail
  refine HB0.out.mono ?_
  rintro e w1 ⟨rb, rfl, hg, hr1⟩
  obtain ⟨F1, S1, t1, f1, h1⟩ := hg
  obtain ⟨h2, h3, h4⟩ := h1 rb (by simp)
  have hk1 : DeskAt w1 kb b K T := HK.out.touch t1 (by simpa using HKF.out)
  have nk1 : kb ∉ F1 := fun hx => by
    rcases f1 _ hx with h | h
    · exact HKF.out h
    · omega
  have hlo : b.lo ≤ rb := by have := HS.out.room; omega
  have hne : rb ≠ kb := by omega
  have HX := hid (HNN.out w1 F1 rb S1 hk1 nk1 h2 hlo hne hr1)
  have HS1 := hid S1
  have HT1 := hid t1
  have HF1 := hid f1
  have HK1 := hid hk1
  clear S1 t1 f1 h1 hk1 hr1
  go_wp2_with fail
  refine HX.out.mono ?_
  rintro e w2 ⟨rfl, hg, hex⟩
  obtain ⟨F2, S2, t2, f2⟩ := hg
  obtain ⟨lv, dead, blocks, taken, hr2⟩ := hex
  have HS2 := hid S2
  have HT2 := hid t2
  have HF2 := hid f2
  have HR2 := hid hr2
  clear S2 t2 f2 hr2
  go_wp2_with fail
  obtain ⟨W2, hW2⟩ : ∃ W2, W2 = w2.alloc (.cells #[.int .u64 0, .int .u64 0, .int .u64 0, .int .u64 0] 38) := ⟨_, rfl⟩
  have t3 : Touch [] w2 W2 := by rw [hW2]; exact (Touch.refl [] w2).alloc _
  rw [← hW2]
  clear hW2
  have nr2 : rb ∉ F2 := fun hx => by
    rcases HF2.out _ hx with h | h
    · exact h2 h
    · omega
  have nk2 : kb ∉ F2 := fun hx => by
    rcases HF2.out _ hx with h | h
    · exact nk1 h
    · have := HT1.out.size; omega
  have S3 : Stand W2 b n2 A2 (s.take K) F2 := HS2.out.quiet t3
  have hk3 : DeskAt W2 kb b K T := (HK1.out.touch HT2.out (by simp; exact ⟨fun e => by omega, nk1⟩)).touch t3 (by simp)
  have hr3 := (t3.block rb (lt_of_block HR2.out) (by simp)).trans HR2.out
  refine leaves_cons (f := 14) (args := #[ptr rb]) (by simp) (by simp [go_sem]) ?_
  refine (RClose_d S3 hk3 nk2 hr3 nr2 hlo hne .returning).mono ?_
  rintro e u' w4 ⟨rfl, rfl, hg4⟩
  obtain ⟨F4, S4, t4, f4⟩ := hg4
  refine ⟨.tuple #[.int .i64 0, .int .i64 er], by simp [results, Tryz.results17, go_sem], rfl, F4, S4, ?_, fun y hy => ?_⟩
  · have ta : Touch F w w1 := HT1.out.mono (by simp)
    have tb : Touch F w w2 := ta.trans HT2.out (fun y hy => by
      rcases List.mem_append.1 hy with h | h
      · simp at h; subst h; right; omega
      · rcases HF1.out y h with h | h
        · exact .inl h
        · exact .inr (by omega))
    have tc : Touch F w W2 := tb.trans t3 (by simp)
    refine (tc.trans t4 (fun y hy => ?_)).mono (by simp)
    rcases List.mem_append.1 hy with h | h
    · simp at h; subst h; right; omega
    · rcases HF2.out y h with h | h
      · rcases HF1.out y h with h | h
        · exact .inl h
        · exact .inr (by omega)
      · exact .inr (by have := ta.size; omega)
  · have ta := HT1.out.size
    have tb := HT2.out.size
    have tc := t3.size
    rcases f4 y hy with h | h
    · rcases HF2.out y h with h | h
      · rcases HF1.out y h with h | h
        · exact .inl h
        · exact .inr (by omega)
      · exact .inr (by omega)
    · exact .inr (by omega)

set_option maxRecDepth 100000 in
set_option maxHeartbeats 4000000 in
theorem Size_some (S : Stand w b n A s F) (hn : n < 1099511627776) (hk : DeskAt w kb b K T) (hkF : kb ∉ F) {kind : Nat} (he : holdE A s K (kind : Int) [x] [] = 0) {r : Rc} {L blocks : Nat} (hbl : 1 ≤ blocks) (hbl2 : blocks ≤ 1099511627776) (hKb : K ≤ 2047) (hLb : L ≤ 2047) {n2 : Nat} {A2 : PubA}
    (HN : ∀ w1 F1 rb, Stand w1 b n A (s.take K) F1 → DeskAt w1 kb b K T → kb ∉ F1 → rb ∉ F1 → b.lo ≤ rb → rb ≠ kb → w1.heap[rb]? = some (.cells (rfresh kb x (kind : Int) true (lengthB x A).1) 106 (0, 0)) →
      Calls Tryz.prog 42 #[ptr rb] w1 fun e w' => e = .returned (.tuple #[r.val, .bool true, .int .i64 0]) ∧ Went w1 w' b n2 A2 (s.take K) F1 [rb] ∧ ∃ g taken, w'.heap[rb]? = some (.cells (rrow kb x kind (.slice (some ⟨g, 0, none⟩) L L) 0 true blocks taken) 106 (0, 0))) :
    Calls Tryz.prog 17 #[ptr kb, .string x, .int .i64 (kind : Int)] w fun e w' => e = .returned (.tuple #[.int .i64 ((((blocks - 1) * K + L : Nat) : Int)), .int .i64 0]) ∧ Went w w' b n2 A2 ((s.take K).give K) F [] := by
  have HB0 := hid (TBack_ok S hn hk hkF x (kind : Int) he)
  have HS := hid S
  have HK := hid hk
  have HKF := hid hkF
  have HNN := hid HN
  have lk := lt_of_block hk
  clear S hk hkF he HN
  go_enter_defers Tryz.func17, Tryz.ntmps17
  go_wp2_with fail
  refine HB0.out.mono ?_
  rintro e w1 ⟨rb, rfl, hg, hr1⟩
  obtain ⟨F1, S1, t1, f1, h1⟩ := hg
  obtain ⟨h2, h3, h4⟩ := h1 rb (by simp)
  have hk1 : DeskAt w1 kb b K T := HK.out.touch t1 (by simpa using HKF.out)
  have nk1 : kb ∉ F1 := fun hx => by
    rcases f1 _ hx with h | h
    · exact HKF.out h
    · omega
  have hlo : b.lo ≤ rb := by have := HS.out.room; omega
  have hne : rb ≠ kb := by omega
  have HX := hid (HNN.out w1 F1 rb S1 hk1 nk1 h2 hlo hne hr1)
  have HS1 := hid S1
  have HT1 := hid t1
  have HF1 := hid f1
  have HK1 := hid hk1
  clear S1 t1 f1 h1 hk1 hr1
  go_wp2_with fail
  refine HX.out.mono ?_
  rintro e w2 ⟨rfl, hg, hex⟩
  obtain ⟨F2, S2, t2, f2⟩ := hg
  obtain ⟨g, taken, hr2⟩ := hex
  have HS2 := hid S2
  have HT2 := hid t2
  have HF2 := hid f2
  have HR2 := hid hr2
  have lr2 := lt_of_block hr2
  have d3 := cell_row hr2 3
  have d7 := cell_row hr2 7
  have hk2 : DeskAt w2 kb b K T := HK1.out.touch t2 (by simp; exact ⟨fun e => by omega, nk1⟩)
  have lk2 := lt_of_block hk2
  have dk := cell_row hk2 2
  simp only [List.getElem?_toArray, List.getElem?_cons_zero, List.getElem?_cons_succ] at d3 d7 dk
  have hm : ((blocks : Int) - 1) * (K : Int) = (((blocks - 1) * K : Nat) : Int) := by
    have : ((blocks : Int) - 1) = ((blocks - 1 : Nat) : Int) := by omega
    rw [this]; simp
  have hmb : (blocks - 1) * K ≤ 1099511627776 * 2047 := Nat.mul_le_mul (by omega) hKb
  have HMB : Hid (0 ≤ ((blocks - 1 : Nat) : Int) * (K : Int) + (L : Int) ∧ ((blocks - 1 : Nat) : Int) * (K : Int) + (L : Int) ≤ 1099511627776 * 2047 + 2047) := by
    have e : ((blocks - 1 : Nat) : Int) * (K : Int) = (((blocks - 1) * K : Nat) : Int) := by simp
    rw [e]
    exact ⟨by omega, by omega⟩
  have hw1 : IntKind.i64.wrap ((blocks : Int) - 1) = (blocks : Int) - 1 := by rw [IntKind.wrap_i64]; omega
  have hw2 : IntKind.i64.wrap (((blocks : Int) - 1) * (K : Int)) = (((blocks - 1) * K : Nat) : Int) := by rw [hm, IntKind.wrap_i64]; omega
  have hw3 : IntKind.i64.wrap ((((blocks - 1) * K : Nat) : Int) + (L : Int)) = (((blocks - 1) * K + L : Nat) : Int) := by rw [IntKind.wrap_i64]; omega
  have e4 : ∀ o : Obj, (w2.alloc o).cell? ⟨rb, 3, none⟩ = some (.slice (some ⟨g, 0, none⟩) L L) := fun o => (World.cell?_of_block (Below.heap_alloc w2 o rb lr2)).trans d3
  have e5 : ∀ o : Obj, (w2.alloc o).cell? ⟨rb, 7, none⟩ = some (.int .i64 (blocks : Int)) := fun o => (World.cell?_of_block (Below.heap_alloc w2 o rb lr2)).trans d7
  have e6 : ∀ o : Obj, (w2.alloc o).cell? ⟨kb, 2, none⟩ = some (.int .i64 (K : Int)) := fun o => (World.cell?_of_block (Below.heap_alloc w2 o kb lk2)).trans dk
  clear hm hmb hbl hbl2 hKb hLb d3 d7 dk hk2
  clear S2 t2 f2 hr2
  go_wp2_with fail
  go_quiet (fail)
  go_wp2_with fail
  obtain ⟨W2, hW2⟩ : ∃ W2, W2 = (w2.alloc (.cells #[.int .u64 (r.1 : Int), .int .u64 (r.2.1 : Int), .int .u64 (r.2.2.1 : Int), .int .u64 (r.2.2.2 : Int)] 38)).drewN nq := ⟨_, rfl⟩
  have t3 : Touch [] w2 W2 := by rw [hW2]; exact ((Touch.refl [] w2).alloc _).drewN nq
  rw [← hW2]
  clear hW2
  have nr2 : rb ∉ F2 := fun hx => by
    rcases HF2.out _ hx with h | h
    · exact h2 h
    · omega
  have nk2 : kb ∉ F2 := fun hx => by
    rcases HF2.out _ hx with h | h
    · exact nk1 h
    · have := HT1.out.size; omega
  have S3 : Stand W2 b n2 A2 (s.take K) F2 := HS2.out.quiet t3
  have hk3 : DeskAt W2 kb b K T := (HK1.out.touch HT2.out (by simp; exact ⟨fun e => by omega, nk1⟩)).touch t3 (by simp)
  have hr3 := (t3.block rb (lt_of_block HR2.out) (by simp)).trans HR2.out
  refine leaves_cons (f := 14) (args := #[ptr rb]) (by simp) (by simp [go_sem]) ?_
  refine (RClose_d S3 hk3 nk2 hr3 nr2 hlo hne .returning).mono ?_
  rintro e u' w4 ⟨rfl, rfl, hg4⟩
  obtain ⟨F4, S4, t4, f4⟩ := hg4
  refine ⟨.tuple #[.int .i64 ((((blocks - 1) * K + L : Nat) : Int)), .int .i64 0], by simp [results, Tryz.results17, go_sem]; exact IntWalk.wrap64_in _ ⟨by have h1 := HMB.out; omega, by have h1 := HMB.out; omega⟩, rfl, F4, S4, ?_, fun y hy => ?_⟩
  · have ta : Touch F w w1 := HT1.out.mono (by simp)
    have tb : Touch F w w2 := ta.trans HT2.out (fun y hy => by
      rcases List.mem_append.1 hy with h | h
      · simp at h; subst h; right; omega
      · rcases HF1.out y h with h | h
        · exact .inl h
        · exact .inr (by omega))
    have tc : Touch F w W2 := tb.trans t3 (by simp)
    refine (tc.trans t4 (fun y hy => ?_)).mono (by simp)
    rcases List.mem_append.1 hy with h | h
    · simp at h; subst h; right; omega
    · rcases HF2.out y h with h | h
      · rcases HF1.out y h with h | h
        · exact .inl h
        · exact .inr (by omega)
      · exact .inr (by have := ta.size; omega)
  · have ta := HT1.out.size
    have tb := HT2.out.size
    have tc := t3.size
    rcases f4 y hy with h | h
    · rcases HF2.out y h with h | h
      · rcases HF1.out y h with h | h
        · exact .inl h
        · exact .inr (by omega)
      · exact .inr (by omega)
    · exact .inr (by omega)
end
end Go.Proofs.YtclplbnildnifaaGreatDoor
