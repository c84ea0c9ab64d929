import Derived.Test.YtdkboifpdodonaaDoorZ01
set_option linter.unusedSimpArgs false
/-
  The landed program's nestBare: how many brackets and prefixes a tree has open at most.
-/
namespace Go.Proofs.YtdkboifpdodonaaDoor
open Go.RowKit Go.Deep PureCnf PureForm
set_option maxRecDepth 100000

theorem brk_not (a : Tr) (last : Bool) : brkT a 6 (!last) = brk (two a.root.1) last a.root.1 := by
  unfold brkT brk
  by_cases h : two a.root.1 = true
  · rcases two_cases h with e | e | e | e | e <;> rw [e] <;> cases last <;> rfl
  · have : two a.root.1 = false := by simpa using h
    rw [this]; simp
theorem brk_first {o : Int} (ho : two o = true) (a : Tr) : brkT a (leastF o) true = brk (firstB o a.root.1) false a.root.1 := by
  unfold brkT brk firstB
  by_cases h : two a.root.1 = true
  · rcases two_cases h with e | e | e | e | e <;> rw [e] <;> rcases two_cases ho with rfl | rfl | rfl | rfl | rfl <;> decide
  · have : two a.root.1 = false := by simpa using h
    rw [this]; simp
theorem brk_second {o : Int} (ho : two o = true) (a : Tr) (last : Bool) : brkT a (leastS o) (!last) = brk (secondB o a.root.1) last a.root.1 := by
  unfold brkT brk secondB
  by_cases h : two a.root.1 = true
  · rcases two_cases h with e | e | e | e | e <;> rw [e] <;> rcases two_cases ho with rfl | rfl | rfl | rfl | rfl <;> cases last <;> decide
  · have : two a.root.1 = false := by simpa using h
    rw [this]; simp
theorem brk_zero (a : Tr) : brkT a 0 false = false := by
  unfold brkT
  have : ¬ ((bindsI a.root.1 : Int) < 0) := by omega
  simp [this]

set_option maxHeartbeats 1000000 in
theorem nb_leaf (k : TypeId) (h1 : k ≠ 120) (h2 : k ≠ 122) (h3 : k ≠ 124) (h4 : k ≠ 126) (v : Value) (fol : Bool) (w : World) :
    Calls Tryd.prog 83 #[.iface k v, .bool fol] w fun e w' => e = .returned (.int .i64 0) ∧ Below w.heap.size w w' := by
  have m1 := fun x W => ta120_miss k h1 v x W
  have m2 := fun x W => ta122_miss k h2 v x W
  have m3 := fun x W => ta124_miss k h3 v x W
  have m4 := fun x W => ta126_miss k h4 v x W
  clear h1 h2 h3 h4
  go_enter Tryd.func83, Tryd.ntmps83
  go_wp2
  go_ret
  exact ⟨rfl, Below.refl _ _⟩

set_option maxHeartbeats 1000000 in
theorem nb_not (a : Tr) (ha : a.good) (hn : a.post.length ≤ 900000) (HA : NestB a) (fol : Bool) (w : World) :
    Calls Tryd.prog 83 #[.iface 120 (.agg #[tv a]), .bool fol] w fun e w' => e = .returned (.int .i64 ((Tr.un (3, 0) a).need (!fol) : Nat)) ∧ Below w.heap.size w w' := by
  have HN := fun W => hid (nest_any a ha (by omega) HA 6 fol W)
  have hb := brk_not a (!fol)
  rw [Bool.not_not] at hb
  obtain ⟨m, hm⟩ : ∃ m, m = wrapN (brkT a 6 fol) (a.need (brkT a 6 fol || !fol)) := ⟨_, rfl⟩
  have HG : Hid ((Tr.un (3, 0) a).need (!fol) = m + 1) := by
    show _ = _
    (first | rw [Tr.need_un, if_neg (by decide), hm, hb] | rw [Tr.need_bi, if_neg (by decide), hm, hb] | rw [Tr.need_te, if_neg (by decide), hm, hb] | rw [Tr.need_lf, if_neg (by decide), hm, hb])
  have hle := need_le (Tr.un (3, 0) a) (!fol)
  rw [HG.out] at hle
  simp only [Tr.post_lf, Tr.post_un, Tr.post_bi, Tr.post_te, List.length_append, List.length_cons, List.length_nil] at hle
  simp only [← hm] at HN
  obtain ⟨k, u, e⟩ := tv_form a
  rw [e]
  simp only [e] at HN
  have m1 := fun x W => ta120_hit (.agg #[.iface k u]) x W
  obtain ⟨WA, hWA⟩ : ∃ WA, WA = w.alloc (Obj.cells #[.iface k u] 120) := ⟨_, rfl⟩
  have hB : Below w.heap.size w WA := by rw [hWA]; exact below_box _ _
  have r0 : WA.heap[w.heap.size]? = some (.cells #[.iface k u] 120 (0, 0)) := by rw [hWA]; exact heap_alloc_new w _
  have c0 := fun j => cell_row r0 j
  have HWA := hid hWA
  have HB := hid hB
  clear hWA hB r0 hm hb e HA ha
  go_enter Tryd.func83, Tryd.ntmps83
  go_wp2_with (first | (rw [← HWA.out]) | (go_at_call 57; refine (HN _).out.mono ?_; rintro e w1 ⟨rfl, b1⟩; have HB1 := hid (HB.out.trans (b1.mono HB.out.size)); clear b1))
  go_ret
  rw [HG.out]
  refine ⟨?_, HB1.out⟩
  rw [show (1 : Int) + (m : Int) = ((m + 1 : Nat) : Int) by omega]
  rfl

set_option maxHeartbeats 1000000 in
theorem nb_quant (o n : Int) (hq : isQ o = true) (a : Tr) (ha : a.good) (hn : a.post.length ≤ 900000) (HA : NestB a) (fol : Bool) (w : World) :
    Calls Tryd.prog 83 #[.iface 122 (.agg #[.int .i64 o, .int .i64 n, tv a]), .bool fol] w fun e w' => e = .returned (.int .i64 ((Tr.un (o, n) a).need (!fol) : Nat)) ∧ Below w.heap.size w w' := by
  have HN := fun W => hid (nest_any a ha (by omega) HA 0 false W)
  simp only [brk_zero] at HN
  obtain ⟨m, hm⟩ : ∃ m, m = wrapN false (a.need (false || !false)) := ⟨_, rfl⟩
  have HG : Hid ((Tr.un (o, n) a).need (!fol) = m + 1) := by
    show _ = _
    (first | rw [Tr.need_un, if_pos hq, hm] | rw [Tr.need_bi, if_pos hq, hm] | rw [Tr.need_te, if_pos hq, hm] | rw [Tr.need_lf, if_pos hq, hm]); rfl
  have hle := need_le (Tr.un (o, n) a) (!fol)
  rw [HG.out] at hle
  simp only [Tr.post_lf, Tr.post_un, Tr.post_bi, Tr.post_te, List.length_append, List.length_cons, List.length_nil] at hle
  simp only [← hm] at HN
  obtain ⟨k, u, e⟩ := tv_form a
  rw [e]
  simp only [e] at HN
  have m1 := fun x W => ta120_miss 122 (by decide) (.agg #[.int .i64 o, .int .i64 n, .iface k u]) x W
  have m2 := fun x W => ta122_hit (.agg #[.int .i64 o, .int .i64 n, .iface k u]) x W
  obtain ⟨WA, hWA⟩ : ∃ WA, WA = w.alloc (Obj.cells #[.int .i64 o, .int .i64 n, .iface k u] 122) := ⟨_, rfl⟩
  have hB : Below w.heap.size w WA := by rw [hWA]; exact below_box _ _
  have r0 : WA.heap[w.heap.size]? = some (.cells #[.int .i64 o, .int .i64 n, .iface k u] 122 (0, 0)) := by rw [hWA]; exact heap_alloc_new w _
  have c0 := fun j => cell_row r0 j
  have HWA := hid hWA
  have HB := hid hB
  clear hWA hB r0 hm e HA ha hq
  go_enter Tryd.func83, Tryd.ntmps83
  go_wp2_with (first | (rw [← HWA.out]) | (go_at_call 57; refine (HN _).out.mono ?_; rintro e w1 ⟨rfl, b1⟩; have HB1 := hid (HB.out.trans (b1.mono HB.out.size)); clear b1))
  go_ret
  rw [HG.out]
  refine ⟨?_, HB1.out⟩
  rw [show (1 : Int) + (m : Int) = ((m + 1 : Nat) : Int) by omega]
  rfl

set_option maxHeartbeats 2000000 in
theorem nb_two (o : Int) (ho : two o = true) (a b : Tr) (ha : a.good) (hb : b.good) (hn : a.post.length + b.post.length ≤ 900000) (HA : NestB a) (HBB : NestB b) (fol : Bool) (w : World) :
    Calls Tryd.prog 83 #[.iface 124 (.agg #[.int .i64 o, tv a, tv b]), .bool fol] w fun e w' => e = .returned (.int .i64 ((Tr.bi (o, 0) a b).need (!fol) : Nat)) ∧ Below w.heap.size w w' := by
  have HNA := fun W => hid (nest_any a ha (by omega) HA (leastF o) true W)
  have HNB := fun W => hid (nest_any b hb (by omega) HBB (leastS o) fol W)
  have e1 := brk_first ho a
  have e2 := brk_second ho b (!fol)
  rw [Bool.not_not] at e2
  obtain ⟨m, hm⟩ : ∃ m, m = wrapN (brkT a (leastF o) true) (a.need (brkT a (leastF o) true || !true)) := ⟨_, rfl⟩
  obtain ⟨n, hnn⟩ : ∃ n, n = wrapN (brkT b (leastS o) fol) (b.need (brkT b (leastS o) fol || !fol)) := ⟨_, rfl⟩
  have HG : Hid ((Tr.bi (o, 0) a b).need (!fol) = max m n) := by
    show _ = _
    (first | rw [Tr.need_un, hm, hnn, e1, e2] | rw [Tr.need_bi, hm, hnn, e1, e2] | rw [Tr.need_te, hm, hnn, e1, e2] | rw [Tr.need_lf, hm, hnn, e1, e2]); rfl
  simp only [← hm] at HNA
  simp only [← hnn] at HNB
  have HSD := fun W => hid (sides_any o ho fol W)
  obtain ⟨x, hx⟩ : ∃ x, x = leastF o := ⟨_, rfl⟩
  obtain ⟨y, hy⟩ : ∃ y, y = leastS o := ⟨_, rfl⟩
  simp only [← hx, ← hy] at HNA HNB HSD
  obtain ⟨k, u, e⟩ := tv_form a
  obtain ⟨k2, u2, e'⟩ := tv_form b
  rw [e, e']
  simp only [e] at HNA
  simp only [e'] at HNB
  have m1 := fun x W => ta120_miss 124 (by decide) (.agg #[.int .i64 o, .iface k u, .iface k2 u2]) x W
  have m2 := fun x W => ta122_miss 124 (by decide) (.agg #[.int .i64 o, .iface k u, .iface k2 u2]) x W
  have m3 := fun x W => ta124_hit (.agg #[.int .i64 o, .iface k u, .iface k2 u2]) x W
  obtain ⟨WA, hWA⟩ : ∃ WA, WA = w.alloc (Obj.cells #[.int .i64 o, .iface k u, .iface k2 u2] 124) := ⟨_, rfl⟩
  have hB : Below w.heap.size w WA := by rw [hWA]; exact below_box _ _
  have r0 : WA.heap[w.heap.size]? = some (.cells #[.int .i64 o, .iface k u, .iface k2 u2] 124 (0, 0)) := by rw [hWA]; exact heap_alloc_new w _
  have c0 := fun j => cell_row r0 j
  have HWA := hid hWA
  have HB := hid hB
  have HR0 := hid r0
  clear hWA hB r0 hm hnn e e' HA HBB ha hb e1 e2 hx hy ho
  go_enter Tryd.func83, Tryd.ntmps83
  go_wp2_with (first | (rw [← HWA.out]) | (go_at_call 108; refine (HSD _).out.mono ?_; rintro e w1 ⟨rfl, b1⟩; obtain ⟨X2, hX2⟩ : ∃ X2, X2 = (w1.alloc (Obj.cells #[Value.int .i64 x, Value.bool true] 106)).alloc (Obj.cells #[Value.int .i64 y, Value.bool fol] 106) := ⟨_, rfl⟩; have B12 : Below w1.heap.size w1 X2 := (by rw [hX2]; exact ((Below.refl _ _).alloc (Nat.le_refl _) _).alloc (by simp) _); have BX : Hid (Below w.heap.size w X2) := (HB.out.trans ((b1.trans (B12.mono b1.size)).mono HB.out.size)); have KP : Hid (∀ W, Below X2.heap.size X2 W → W.cell? ⟨w.heap.size, 1, none⟩ = some (.iface k u) ∧ W.cell? ⟨w.heap.size, 2, none⟩ = some (.iface k2 u2) ∧ W.cell? ⟨w1.heap.size, 0, none⟩ = some (.int .i64 x) ∧ W.cell? ⟨w1.heap.size, 1, none⟩ = some (.bool true) ∧ W.cell? ⟨w1.heap.size + 1, 0, none⟩ = some (.int .i64 y) ∧ W.cell? ⟨w1.heap.size + 1, 1, none⟩ = some (.bool fol)) := (fun W hW => by
      have s1 : (w1.alloc (Obj.cells #[Value.int .i64 x, Value.bool true] 106)).heap.size = w1.heap.size + 1 := by simp
      have q0 := (b1.block _ (Array.getElem?_eq_some_iff.1 HR0.out).1).trans HR0.out
      have q1 := (B12.block _ (Array.getElem?_eq_some_iff.1 q0).1).trans q0
      have q2 := (hW.block _ (Array.getElem?_eq_some_iff.1 q1).1).trans q1
      have r1 : X2.heap[w1.heap.size]? = some (.cells #[Value.int .i64 x, Value.bool true] 106 (0, 0)) := by rw [hX2, Below.heap_alloc _ _ _ (by omega)]; exact heap_alloc_new w1 _
      have r2 : X2.heap[w1.heap.size + 1]? = some (.cells #[Value.int .i64 y, Value.bool fol] 106 (0, 0)) := by rw [hX2, ← s1]; exact heap_alloc_new _ _
      have r3 := (hW.block _ (Array.getElem?_eq_some_iff.1 r1).1).trans r1
      have r4 := (hW.block _ (Array.getElem?_eq_some_iff.1 r2).1).trans r2
      exact ⟨cell_row q2 1, cell_row q2 2, cell_row r3 0, cell_row r3 1, cell_row r4 0, cell_row r4 1⟩); obtain ⟨d1, d2, d3, d4, d5, d6⟩ := KP.out X2 (Below.refl _ _); have HX2 := hid hX2; clear b1 hX2 B12) | (have q := HX2; clear q; rw [← HX2.out]; clear HX2))
  go_region_held3 (fun W => W.cell? ⟨w.heap.size, 1, none⟩ = some (.iface k u) ∧ W.cell? ⟨w.heap.size, 2, none⟩ = some (.iface k2 u2) ∧ W.cell? ⟨w1.heap.size, 0, none⟩ = some (.int .i64 x) ∧ W.cell? ⟨w1.heap.size, 1, none⟩ = some (.bool true) ∧ W.cell? ⟨w1.heap.size + 1, 0, none⟩ = some (.int .i64 y) ∧ W.cell? ⟨w1.heap.size + 1, 1, none⟩ = some (.bool fol)) (go_keep) (first
    | (have q := B2; clear q; go_at_call 57; refine (HNB _).out.mono ?_; rintro e w3 ⟨rfl, b3⟩; have B3 := hid (B2.out.trans (b3.mono B2.out.size)); obtain ⟨f1, f2, f3, f4, f5, f6⟩ := KP.out w3 B3.out; clear b3)
    | (go_at_call 57; refine (HNA _).out.mono ?_; rintro e w2 ⟨rfl, b2⟩; have B2 : Hid (Below X2.heap.size X2 w2) := ((Below.refl _ _).drew.trans b2); obtain ⟨e1, e2, e3, e4, e5, e6⟩ := KP.out w2 B2.out; clear b2))
  all_goals go_wp2
  all_goals go_ret
  all_goals
    rw [HG.out]
    refine ⟨?_, BX.out.trans (B3.out.mono BX.out.size)⟩
    first
      | (rw [show max m n = n from Nat.max_eq_right (by omega)]; rfl)
      | (rw [show max m n = m from Nat.max_eq_left (by omega)]; rfl)
      | exact congrArg (fun z : Int => Ending.returned (Value.int .i64 z)) (show max (m : Int) (n : Int) = ((max m n : Nat) : Int) by omega)
end Go.Proofs.YtdkboifpdodonaaDoor
/-
  The landed program's nestBare and nest, over every tree.
-/
namespace Go.Proofs.YtdkboifpdodonaaDoor
open Go.RowKit Go.Deep PureCnf PureForm
set_option maxRecDepth 100000

theorem run_max3 (W : World) (ts : Array TypeId) (t : TypeId) (p q r m : Nat) (hm : m = max (max p q) r) :
    (Builtin.max_ ts t #[.int .i64 (p : Int), .int .i64 (q : Int), .int .i64 (r : Int)]).run Tryd.prog W = .ok (.int .i64 (m : Int)) W := by
  subst hm
  simp [Builtin.max_, Builtin.max2]
  omega
set_option maxHeartbeats 2000000 in
theorem nb_three (a b c : Tr) (ha : a.good) (hb : b.good) (hc : c.good) (hn : a.post.length + b.post.length + c.post.length ≤ 900000) (HA : NestB a) (HBB : NestB b) (HC : NestB c) (fol : Bool) (w : World) :
    Calls Tryd.prog 83 #[.iface 126 (.agg #[tv a, tv b, tv c]), .bool fol] w fun e w' => e = .returned (.int .i64 ((Tr.te (11, 0) a b c).need (!fol) : Nat)) ∧ Below w.heap.size w w' := by
  have HNA := fun W => hid (nest_any a ha (by omega) HA 0 false W)
  have HNB := fun W => hid (nest_any b hb (by omega) HBB 0 false W)
  have HNC := fun W => hid (nest_any c hc (by omega) HC 0 false W)
  simp only [brk_zero] at HNA HNB HNC
  obtain ⟨m, hm⟩ : ∃ m, m = wrapN false (a.need (false || !false)) := ⟨_, rfl⟩
  obtain ⟨n, hnn⟩ : ∃ n, n = wrapN false (b.need (false || !false)) := ⟨_, rfl⟩
  obtain ⟨p, hp⟩ : ∃ p, p = wrapN false (c.need (false || !false)) := ⟨_, rfl⟩
  obtain ⟨r, hr⟩ : ∃ r, r = max (max m n) p := ⟨_, rfl⟩
  have HG : Hid ((Tr.te (11, 0) a b c).need (!fol) = r + 1) := by
    show _ = _
    (first | rw [Tr.need_un, hr, hm, hnn, hp] | rw [Tr.need_bi, hr, hm, hnn, hp] | rw [Tr.need_te, hr, hm, hnn, hp] | rw [Tr.need_lf, hr, hm, hnn, hp]); rfl
  have hle := need_le (Tr.te (11, 0) a b c) (!fol)
  rw [HG.out] at hle
  simp only [Tr.post_lf, Tr.post_un, Tr.post_bi, Tr.post_te, List.length_append, List.length_cons, List.length_nil] at hle
  simp only [← hm] at HNA
  simp only [← hnn] at HNB
  simp only [← hp] at HNC
  have mx := fun W => run_max3 W #[3, 3, 3] 3 m n p r hr
  obtain ⟨k, u, e⟩ := tv_form a
  obtain ⟨k2, u2, e'⟩ := tv_form b
  obtain ⟨k3, u3, e''⟩ := tv_form c
  rw [e, e', e'']
  simp only [e] at HNA
  simp only [e'] at HNB
  simp only [e''] at HNC
  have m1 := fun x W => ta120_miss 126 (by decide) (.agg #[.iface k u, .iface k2 u2, .iface k3 u3]) x W
  have m2 := fun x W => ta122_miss 126 (by decide) (.agg #[.iface k u, .iface k2 u2, .iface k3 u3]) x W
  have m3 := fun x W => ta124_miss 126 (by decide) (.agg #[.iface k u, .iface k2 u2, .iface k3 u3]) x W
  have m4 := fun x W => ta126_hit (.agg #[.iface k u, .iface k2 u2, .iface k3 u3]) x W
  obtain ⟨WA, hWA⟩ : ∃ WA, WA = w.alloc (Obj.cells #[.iface k u, .iface k2 u2, .iface k3 u3] 126) := ⟨_, rfl⟩
  have hB : Below w.heap.size w WA := by rw [hWA]; exact below_box _ _
  have r0 : WA.heap[w.heap.size]? = some (.cells #[.iface k u, .iface k2 u2, .iface k3 u3] 126 (0, 0)) := by rw [hWA]; exact heap_alloc_new w _
  have KP : Hid (∀ W, Below WA.heap.size WA W → W.cell? ⟨w.heap.size, 0, none⟩ = some (.iface k u) ∧ W.cell? ⟨w.heap.size, 1, none⟩ = some (.iface k2 u2) ∧ W.cell? ⟨w.heap.size, 2, none⟩ = some (.iface k3 u3)) := fun W hW => by
    have q2 := (hW.block _ (Array.getElem?_eq_some_iff.1 r0).1).trans r0
    exact ⟨cell_row q2 0, cell_row q2 1, cell_row q2 2⟩
  obtain ⟨d1, d2, d3⟩ := KP.out WA (Below.refl _ _)
  have HWA := hid hWA
  have HB := hid hB
  clear hWA hB r0 hm hnn hp hr e e' e'' HA HBB HC ha hb hc
  go_enter Tryd.func83, Tryd.ntmps83
  go_wp2_with (rw [← HWA.out])
  go_region_held3 (fun W => W.cell? ⟨w.heap.size, 0, none⟩ = some (.iface k u) ∧ W.cell? ⟨w.heap.size, 1, none⟩ = some (.iface k2 u2) ∧ W.cell? ⟨w.heap.size, 2, none⟩ = some (.iface k3 u3)) (go_keep) (first
    | (have q := B3; clear q; go_at_call 57; refine (HNC _).out.mono ?_; rintro e w4 ⟨rfl, b4⟩; have B4 := hid (B3.out.trans (b4.mono B3.out.size)); obtain ⟨g1, g2, g3⟩ := KP.out w4 B4.out; clear b4)
    | (have q := B2; clear q; go_at_call 57; refine (HNB _).out.mono ?_; rintro e w3 ⟨rfl, b3⟩; have B3 := hid (B2.out.trans (b3.mono B2.out.size)); obtain ⟨f1, f2, f3⟩ := KP.out w3 B3.out; clear b3)
    | (go_at_call 57; refine (HNA _).out.mono ?_; rintro e w2 ⟨rfl, b2⟩; have B2 : Hid (Below WA.heap.size WA w2) := ((Below.refl _ _).drew.trans b2); obtain ⟨e1, e2, e3⟩ := KP.out w2 B2.out; clear b2))
  all_goals go_wp2
  all_goals go_ret
  all_goals
    rw [HG.out]
    refine ⟨?_, HB.out.trans (B4.out.mono HB.out.size)⟩
    have hw : IntKind.i64.wrap ((r + 1 : Nat) : Int) = ((r + 1 : Nat) : Int) := by rw [IntKind.wrap_i64]; omega
    rw [show (1 : Int) + (r : Int) = ((r + 1 : Nat) : Int) by omega, hw]
    rfl
theorem nest_bare (t : Tr) : t.good → t.post.length ≤ 900000 → NestB t := by
  induction t using Tr.ind with
  | lf x =>
    obtain ⟨o, n⟩ := x
    intro ht _ fol w
    rcases ht with ⟨h1, _⟩ | ⟨h1, _⟩
    · simp only at h1
      subst h1
      exact nb_leaf 147 (by decide) (by decide) (by decide) (by decide) _ fol w
    · simp only at h1
      subst h1
      exact nb_leaf 149 (by decide) (by decide) (by decide) (by decide) _ fol w
  | un x a iha =>
    obtain ⟨o, n⟩ := x
    intro ht hl fol w
    obtain ⟨hx, ha⟩ := ht
    have hl2 : a.post.length ≤ 900000 := by simp only [Tr.post_lf, Tr.post_un, Tr.post_bi, Tr.post_te, List.length_append, List.length_cons, List.length_nil] at hl; omega
    have ih := iha ha hl2
    rcases hx with ⟨h1, h2⟩ | ⟨h1, _⟩
    · simp only at h1 h2
      subst h1 h2
      exact nb_not a ha hl2 ih fol w
    · have h45 : o = 4 ∨ o = 5 := by simpa [isQ] using h1
      have e1 : tv (.un (o, n) a) = .iface 122 (.agg #[.int .i64 o, .int .i64 n, tv a]) := by (first | rw [tv_un, if_neg (by simp; omega)] | rw [tv_bi, if_neg (by simp; omega)] | rw [tv_te, if_neg (by simp; omega)] | rw [tv_lf, if_neg (by simp; omega)])
      rw [e1]
      exact nb_quant o n h1 a ha hl2 ih fol w
  | bi x a b iha ihb =>
    obtain ⟨o, n⟩ := x
    intro ht hl fol w
    obtain ⟨⟨h1, h2⟩, ha, hb⟩ := ht
    simp only at h1 h2
    subst h2
    have hl2 : a.post.length + b.post.length ≤ 900000 := by simp only [Tr.post_lf, Tr.post_un, Tr.post_bi, Tr.post_te, List.length_append, List.length_cons, List.length_nil] at hl; omega
    exact nb_two o h1 a b ha hb hl2 (iha ha (by omega)) (ihb hb (by omega)) fol w
  | te x a b c iha ihb ihc =>
    obtain ⟨o, n⟩ := x
    intro ht hl fol w
    obtain ⟨⟨h1, h2⟩, ha, hb, hc⟩ := ht
    simp only at h1 h2
    subst h1 h2
    have hl2 : a.post.length + b.post.length + c.post.length ≤ 900000 := by simp only [Tr.post_lf, Tr.post_un, Tr.post_bi, Tr.post_te, List.length_append, List.length_cons, List.length_nil] at hl; omega
    exact nb_three a b c ha hb hc hl2 (iha ha (by omega)) (ihb hb (by omega)) (ihc hc (by omega)) fol w
theorem nest_top (t : Tr) (ht : t.good) (hn : t.post.length ≤ 900000) (w : World) :
    Calls Tryd.prog 57 #[tv t, spotV 0 false] w fun e w' => e = .returned (.int .i64 (t.need true : Nat)) ∧ Below w.heap.size w w' := by
  have h := nest_any t ht (by omega) (nest_bare t ht hn) 0 false w
  rw [brk_zero] at h
  exact h
end Go.Proofs.YtdkboifpdodonaaDoor
/-
  The landed program's operands: how many a node has, and whether its numbers fit.
-/
namespace Go.Proofs.YtdkboifpdodonaaDoor
open Go.RowKit Go.Deep PureCnf PureForm
set_option maxRecDepth 100000

/-- how many operands a node has. -/
def arI (o : Int) : Nat := if o = 3 ∨ o = 4 ∨ o = 5 then 1 else if 6 ≤ o ∧ o ≤ 10 then 2 else if o = 11 then 3 else 0
def isV (n : Int) : Bool := decide (0 ≤ n ∧ n < 65536)

theorem isVar_any (n : Int) (w : World) : Calls Tryd.prog 81 #[.int .i64 n] w fun e w' => e = .returned (.bool (isV n)) ∧ w' = w := by
  unfold isV
  by_cases h : 0 ≤ n
  · by_cases h2 : n < 65536
    · rw [decide_eq_true (And.intro h h2)]
      go_enter Tryd.func81, Tryd.ntmps81
      go_wp2
      go_ret
      exact ⟨rfl, rfl⟩
    · rw [decide_eq_false (fun q => h2 q.2)]
      go_enter Tryd.func81, Tryd.ntmps81
      go_wp2
      go_ret
      exact ⟨rfl, rfl⟩
  · rw [decide_eq_false (fun q => h q.1)]
    go_enter Tryd.func81, Tryd.ntmps81
    go_wp2
    go_ret
    exact ⟨rfl, rfl⟩

/-- a node, as the program holds it. -/
abbrev ndV (x : Nd) : Value := .agg #[.int .i64 x.1, .int .i64 x.2]
abbrev OpsSays (o n : Int) (w : World) : Prop := Calls Tryd.prog 55 #[.agg #[.int .i64 o, .int .i64 n]] w fun e w' => e = .returned (.tuple #[.int .i64 (arI o : Nat), .bool (nodeB (o, n))]) ∧ Below w.heap.size w w'

set_option maxHeartbeats 1000000 in
theorem ops_const (n : Int) (w : World) : OpsSays 1 n w := by
  obtain ⟨WA, hWA⟩ : ∃ WA, WA = w.alloc (Obj.cells #[.int .i64 1, .int .i64 n] 54) := ⟨_, rfl⟩
  have hB : Below w.heap.size w WA := by rw [hWA]; exact below_box _ _
  have r0 : WA.heap[w.heap.size]? = some (.cells #[.int .i64 1, .int .i64 n] 54 (0, 0)) := by rw [hWA]; exact heap_alloc_new w _
  have c0 := fun j => cell_row r0 j
  have HWA := hid hWA
  have HB := hid hB
  clear hWA hB r0
  have HG : Hid (nodeB (1, n) = (decide (n = 0) || decide (n = 1))) := by show _ = _; simp [nodeB]
  by_cases h0 : n = 0
  · subst h0
    go_enter Tryd.func55, Tryd.ntmps55
    go_wp2_with (rw [← HWA.out])
    go_quiet (fail)
    go_wp2
    rw [HG.out]
    exact bodyPost_ret (v := .tuple #[.int .i64 0, .bool true]) (by simp [results, Tryd.results55, go_sem]) rfl ⟨rfl, Below.drewN' HB.out nq⟩
  · have h1 : (n == 0) = false := by simpa using h0
    go_enter Tryd.func55, Tryd.ntmps55
    go_wp2_with (rw [← HWA.out])
    go_quiet (fail)
    go_wp2
    rw [HG.out]
    have h2 : (decide (n = 0) || decide (n = 1)) = (n == 1) := by rw [decide_eq_false h0, Bool.false_or]; rfl
    rw [h2]
    exact bodyPost_ret (v := .tuple #[.int .i64 0, .bool (n == 1)]) (by simp [results, Tryd.results55, go_sem]) rfl ⟨rfl, Below.drewN' HB.out nq⟩
set_option maxHeartbeats 1000000 in
theorem ops_var (o : Int) (ho : o = 2 ∨ o = 4 ∨ o = 5) (n : Int) (w : World) : OpsSays o n w := by
  obtain ⟨WA, hWA⟩ : ∃ WA, WA = w.alloc (Obj.cells #[.int .i64 o, .int .i64 n] 54) := ⟨_, rfl⟩
  have hB : Below w.heap.size w WA := by rw [hWA]; exact below_box _ _
  have r0 : WA.heap[w.heap.size]? = some (.cells #[.int .i64 o, .int .i64 n] 54 (0, 0)) := by rw [hWA]; exact heap_alloc_new w _
  have c0 := fun j => cell_row r0 j
  have HV := fun W => hid (isVar_any n W)
  have HWA := hid hWA
  have HB := hid hB
  have HG : Hid (nodeB (o, n) = isV n) := by show _ = _; rcases ho with rfl | rfl | rfl <;> simp [nodeB, isV]
  clear hWA hB r0
  unfold OpsSays
  rw [HG.out]
  rcases ho with rfl | rfl | rfl
  all_goals
    go_enter Tryd.func55, Tryd.ntmps55
    go_wp2_with (first | (rw [← HWA.out]) | (go_at_call 81; refine (HV _).out.mono ?_; rintro e w' ⟨rfl, rfl⟩))
    exact bodyPost_ret (v := .tuple #[.int .i64 (arI _ : Nat), .bool (isV n)]) (by simp [results, Tryd.results55, go_sem, arI]) rfl ⟨rfl, HB.out⟩
set_option maxHeartbeats 2000000 in
theorem ops_zero (o : Int) (ho : o = 3 ∨ o = 6 ∨ o = 7 ∨ o = 8 ∨ o = 9 ∨ o = 10 ∨ o = 11) (n : Int) (w : World) : OpsSays o n w := by
  obtain ⟨WA, hWA⟩ : ∃ WA, WA = w.alloc (Obj.cells #[.int .i64 o, .int .i64 n] 54) := ⟨_, rfl⟩
  have hB : Below w.heap.size w WA := by rw [hWA]; exact below_box _ _
  have r0 : WA.heap[w.heap.size]? = some (.cells #[.int .i64 o, .int .i64 n] 54 (0, 0)) := by rw [hWA]; exact heap_alloc_new w _
  have c0 := fun j => cell_row r0 j
  have HWA := hid hWA
  have HB := hid hB
  have HG : Hid (nodeB (o, n) = (n == 0)) := by show _ = _; rcases ho with rfl | rfl | rfl | rfl | rfl | rfl | rfl <;> simp [nodeB] <;> rfl
  clear hWA hB r0
  unfold OpsSays
  rw [HG.out]
  rcases ho with rfl | rfl | rfl | rfl | rfl | rfl | rfl
  all_goals
    go_enter Tryd.func55, Tryd.ntmps55
    go_wp2_with (rw [← HWA.out])
    go_quiet (fail)
    go_wp2
    exact bodyPost_ret (v := .tuple #[.int .i64 (arI _ : Nat), .bool (n == 0)]) (by simp [results, Tryd.results55, go_sem, arI]) rfl ⟨rfl, Below.drewN' HB.out nq⟩
set_option maxHeartbeats 1000000 in
theorem ops_none (o : Int) (ho : ¬ (1 ≤ o ∧ o ≤ 11)) (n : Int) (w : World) : OpsSays o n w := by
  obtain ⟨WA, hWA⟩ : ∃ WA, WA = w.alloc (Obj.cells #[.int .i64 o, .int .i64 n] 54) := ⟨_, rfl⟩
  have hB : Below w.heap.size w WA := by rw [hWA]; exact below_box _ _
  have r0 : WA.heap[w.heap.size]? = some (.cells #[.int .i64 o, .int .i64 n] 54 (0, 0)) := by rw [hWA]; exact heap_alloc_new w _
  have c0 := fun j => cell_row r0 j
  have HWA := hid hWA
  have HB := hid hB
  have HG : Hid (nodeB (o, n) = false ∧ arI o = 0) := by
    constructor
    · simp only [nodeB]
      rw [if_neg (by omega), if_neg (by omega)]
      exact decide_eq_false (fun q => by omega)
    · unfold arI
      rw [if_neg (by omega), if_neg (by omega), if_neg (by omega)]
  have n1 : (o == 1) = false := by simp; omega
  have n2 : (o == 2) = false := by simp; omega
  have n3 : (o == 3) = false := by simp; omega
  have n4 : (o == 4) = false := by simp; omega
  have n5 : (o == 5) = false := by simp; omega
  have n6 : (o == 6) = false := by simp; omega
  have n7 : (o == 7) = false := by simp; omega
  have n8 : (o == 8) = false := by simp; omega
  have n9 : (o == 9) = false := by simp; omega
  have n10 : (o == 10) = false := by simp; omega
  have n11 : (o == 11) = false := by simp; omega
  clear hWA hB r0
  unfold OpsSays
  rw [HG.out.1, HG.out.2]
  clear ho
  go_enter Tryd.func55, Tryd.ntmps55
  go_wp2_with (rw [← HWA.out])
  exact bodyPost_ret (v := .tuple #[.int .i64 0, .bool false]) (by simp [results, Tryd.results55, go_sem]) rfl ⟨rfl, HB.out⟩
theorem ops_any (x : Nd) (w : World) : Calls Tryd.prog 55 #[ndV x] w fun e w' => e = .returned (.tuple #[.int .i64 (arI x.1 : Nat), .bool (nodeB x)]) ∧ Below w.heap.size w w' := by
  obtain ⟨o, n⟩ := x
  by_cases h : 1 ≤ o ∧ o ≤ 11
  · by_cases h1 : o = 1
    · subst h1; exact ops_const n w
    · by_cases h2 : o = 2 ∨ o = 4 ∨ o = 5
      · exact ops_var o h2 n w
      · exact ops_zero o (by omega) n w
  · exact ops_none o h n w
end Go.Proofs.YtdkboifpdodonaaDoor
/-
  The landed program's plant: the tree of a node over its operands.
-/
namespace Go.Proofs.YtdkboifpdodonaaDoor
open Go.RowKit Go.Deep PureCnf PureForm
set_option maxRecDepth 100000

/-- a node over its operands. -/
def plantT (x : Nd) : List Tr → Tr
  | [] => .lf x
  | [a] => .un x a
  | [a, b] => .bi x a b
  | a :: b :: c :: _ => .te x a b c

set_option maxHeartbeats 1000000 in
theorem plant_leaf (o n : Int) (ho : o = 1 ∨ o = 2) (sa : Option Addr) (l c : Nat) (w : World) :
    Calls Tryd.prog 56 #[.agg #[.int .i64 o, .int .i64 n], .slice sa l c] w fun e w' => e = .returned (tv (.lf (o, n))) ∧ Below w.heap.size w w' := by
  obtain ⟨WA, hWA⟩ : ∃ WA, WA = w.alloc (Obj.cells #[.int .i64 o, .int .i64 n] 54) := ⟨_, rfl⟩
  have hB : Below w.heap.size w WA := by rw [hWA]; exact below_box _ _
  have r0 : WA.heap[w.heap.size]? = some (.cells #[.int .i64 o, .int .i64 n] 54 (0, 0)) := by rw [hWA]; exact heap_alloc_new w _
  have c0 := fun j => cell_row r0 j
  have HWA := hid hWA
  have HB := hid hB
  clear hWA hB r0
  rcases ho with rfl | rfl
  all_goals
    go_enter Tryd.func56, Tryd.ntmps56
    go_wp2_with (rw [← HWA.out])
    go_ret
    exact ⟨rfl, HB.out⟩
set_option maxHeartbeats 1000000 in
theorem plant_not (a : Tr) (g p c : Nat) (w : World) (hg : g < w.heap.size) (ha : w.cell? ⟨g, p, none⟩ = some (tv a)) :
    Calls Tryd.prog 56 #[.agg #[.int .i64 3, .int .i64 0], .slice (some ⟨g, p, none⟩) 1 c] w fun e w' => e = .returned (tv (.un (3, 0) a)) ∧ Below w.heap.size w w' := by
  obtain ⟨WA, hWA⟩ : ∃ WA, WA = w.alloc (Obj.cells #[.int .i64 3, .int .i64 0] 54) := ⟨_, rfl⟩
  have hB : Below w.heap.size w WA := by rw [hWA]; exact below_box _ _
  have r0 : WA.heap[w.heap.size]? = some (.cells #[.int .i64 3, .int .i64 0] 54 (0, 0)) := by rw [hWA]; exact heap_alloc_new w _
  have c0 := fun j => cell_row r0 j
  obtain ⟨k, u, e⟩ := tv_form a
  have c1 : WA.cell? ⟨g, p, none⟩ = some (.iface k u) := by rw [← e]; exact (hB.cell (p := ⟨g, p, none⟩) hg).trans ha
  have HG : Hid (tv (.un (3, 0) a) = .iface 120 (.agg #[.iface k u])) := by show _ = _; (first | rw [tv_un, if_pos rfl, e] | rw [tv_bi, if_pos rfl, e] | rw [tv_te, if_pos rfl, e] | rw [tv_lf, if_pos rfl, e])
  have HWA := hid hWA
  have HB := hid hB
  clear hWA hB r0 ha e
  rw [HG.out]
  go_enter Tryd.func56, Tryd.ntmps56
  go_wp2_with (rw [← HWA.out])
  go_ret
  exact ⟨rfl, HB.out⟩
set_option maxHeartbeats 1000000 in
theorem plant_quant (o n : Int) (ho : o = 4 ∨ o = 5) (a : Tr) (g p c : Nat) (w : World) (hg : g < w.heap.size) (ha : w.cell? ⟨g, p, none⟩ = some (tv a)) :
    Calls Tryd.prog 56 #[.agg #[.int .i64 o, .int .i64 n], .slice (some ⟨g, p, none⟩) 1 c] w fun e w' => e = .returned (tv (.un (o, n) a)) ∧ Below w.heap.size w w' := by
  obtain ⟨WA, hWA⟩ : ∃ WA, WA = w.alloc (Obj.cells #[.int .i64 o, .int .i64 n] 54) := ⟨_, rfl⟩
  have hB : Below w.heap.size w WA := by rw [hWA]; exact below_box _ _
  have r0 : WA.heap[w.heap.size]? = some (.cells #[.int .i64 o, .int .i64 n] 54 (0, 0)) := by rw [hWA]; exact heap_alloc_new w _
  have c0 := fun j => cell_row r0 j
  obtain ⟨k, u, e⟩ := tv_form a
  have c1 : WA.cell? ⟨g, p, none⟩ = some (.iface k u) := by rw [← e]; exact (hB.cell (p := ⟨g, p, none⟩) hg).trans ha
  have HG : Hid (tv (.un (o, n) a) = .iface 122 (.agg #[.int .i64 o, .int .i64 n, .iface k u])) := by show _ = _; (first | rw [tv_un, if_neg (by simp; omega), e] | rw [tv_bi, if_neg (by simp; omega), e] | rw [tv_te, if_neg (by simp; omega), e] | rw [tv_lf, if_neg (by simp; omega), e])
  have HWA := hid hWA
  have HB := hid hB
  clear hWA hB r0 ha e
  rw [HG.out]
  rcases ho with rfl | rfl
  all_goals
    go_enter Tryd.func56, Tryd.ntmps56
    go_wp2_with (rw [← HWA.out])
    go_quiet (fail)
    go_wp2
    go_ret
    exact ⟨rfl, Below.drewN' HB.out nq⟩
set_option maxHeartbeats 2000000 in
theorem plant_two (o : Int) (ho : two o = true) (a b : Tr) (g p c : Nat) (w : World) (hg : g < w.heap.size) (ha : w.cell? ⟨g, p, none⟩ = some (tv a)) (hb : w.cell? ⟨g, p + 1, none⟩ = some (tv b)) :
    Calls Tryd.prog 56 #[.agg #[.int .i64 o, .int .i64 0], .slice (some ⟨g, p, none⟩) 2 c] w fun e w' => e = .returned (tv (.bi (o, 0) a b)) ∧ Below w.heap.size w w' := by
  obtain ⟨WA, hWA⟩ : ∃ WA, WA = w.alloc (Obj.cells #[.int .i64 o, .int .i64 0] 54) := ⟨_, rfl⟩
  have hB : Below w.heap.size w WA := by rw [hWA]; exact below_box _ _
  have r0 : WA.heap[w.heap.size]? = some (.cells #[.int .i64 o, .int .i64 0] 54 (0, 0)) := by rw [hWA]; exact heap_alloc_new w _
  have c0 := fun j => cell_row r0 j
  obtain ⟨k, u, e⟩ := tv_form a
  obtain ⟨k2, u2, e2⟩ := tv_form b
  have c1 : WA.cell? ⟨g, p, none⟩ = some (.iface k u) := by rw [← e]; exact (hB.cell (p := ⟨g, p, none⟩) hg).trans ha
  have c2 : WA.cell? ⟨g, p + 1, none⟩ = some (.iface k2 u2) := by rw [← e2]; exact (hB.cell (p := ⟨g, p + 1, none⟩) hg).trans hb
  have HG : Hid (tv (.bi (o, 0) a b) = .iface 124 (.agg #[.int .i64 o, .iface k u, .iface k2 u2])) := by show _ = _; (first | rw [tv_un, e, e2] | rw [tv_bi, e, e2] | rw [tv_te, e, e2] | rw [tv_lf, e, e2])
  have HWA := hid hWA
  have HB := hid hB
  clear hWA hB r0 ha hb e e2
  rw [HG.out]
  rcases two_cases ho with rfl | rfl | rfl | rfl | rfl
  all_goals
    clear ho
    go_enter Tryd.func56, Tryd.ntmps56
    go_wp2_with (rw [← HWA.out])
    go_quiet (fail)
    go_wp2
    go_ret
    exact ⟨rfl, Below.drewN' HB.out nq⟩
set_option maxHeartbeats 2000000 in
theorem plant_three (a b d : Tr) (g p c : Nat) (w : World) (hg : g < w.heap.size) (ha : w.cell? ⟨g, p, none⟩ = some (tv a)) (hb : w.cell? ⟨g, p + 1, none⟩ = some (tv b)) (hd : w.cell? ⟨g, p + 2, none⟩ = some (tv d)) :
    Calls Tryd.prog 56 #[.agg #[.int .i64 11, .int .i64 0], .slice (some ⟨g, p, none⟩) 3 c] w fun e w' => e = .returned (tv (.te (11, 0) a b d)) ∧ Below w.heap.size w w' := by
  obtain ⟨WA, hWA⟩ : ∃ WA, WA = w.alloc (Obj.cells #[.int .i64 11, .int .i64 0] 54) := ⟨_, rfl⟩
  have hB : Below w.heap.size w WA := by rw [hWA]; exact below_box _ _
  have r0 : WA.heap[w.heap.size]? = some (.cells #[.int .i64 11, .int .i64 0] 54 (0, 0)) := by rw [hWA]; exact heap_alloc_new w _
  have c0 := fun j => cell_row r0 j
  obtain ⟨k, u, e⟩ := tv_form a
  obtain ⟨k2, u2, e2⟩ := tv_form b
  obtain ⟨k3, u3, e3⟩ := tv_form d
  have c1 : WA.cell? ⟨g, p, none⟩ = some (.iface k u) := by rw [← e]; exact (hB.cell (p := ⟨g, p, none⟩) hg).trans ha
  have c2 : WA.cell? ⟨g, p + 1, none⟩ = some (.iface k2 u2) := by rw [← e2]; exact (hB.cell (p := ⟨g, p + 1, none⟩) hg).trans hb
  have c3 : WA.cell? ⟨g, p + 2, none⟩ = some (.iface k3 u3) := by rw [← e3]; exact (hB.cell (p := ⟨g, p + 2, none⟩) hg).trans hd
  have HG : Hid (tv (.te (11, 0) a b d) = .iface 126 (.agg #[.iface k u, .iface k2 u2, .iface k3 u3])) := by show _ = _; (first | rw [tv_un, e, e2, e3] | rw [tv_bi, e, e2, e3] | rw [tv_te, e, e2, e3] | rw [tv_lf, e, e2, e3])
  have HWA := hid hWA
  have HB := hid hB
  clear hWA hB r0 ha hb hd e e2 e3
  rw [HG.out]
  go_enter Tryd.func56, Tryd.ntmps56
  go_wp2_with (rw [← HWA.out])
  go_quiet (fail)
  go_wp2
  go_ret
  exact ⟨rfl, Below.drewN' HB.out nq⟩
end Go.Proofs.YtdkboifpdodonaaDoor
/-
  A node joins the trees so far: the row of trees in memory; plant over it.
-/
namespace Go.Proofs.YtdkboifpdodonaaDoor
open Go.RowKit Go.Deep PureCnf PureForm
set_option maxRecDepth 100000

theorem join_eq (x : Nd) (st : List Tr) : joinT x st = if nodeB x = true ∧ arI x.1 ≤ st.length then some (plantT x (st.take (arI x.1)).reverse :: st.drop (arI x.1)) else none := by
  obtain ⟨o, n⟩ := x
  by_cases hn : nodeB (o, n) = true
  · have ho : 1 ≤ o ∧ o ≤ 11 := by
      unfold nodeB at hn
      simp only at hn
      split at hn
      · omega
      · split at hn
        · omega
        · have := (of_decide_eq_true hn).1; omega
    rw [joinT.eq_def, if_pos hn]
    simp only [hn, true_and]
    by_cases h12 : o = 1 ∨ o = 2
    · have ha : arI o = 0 := by unfold arI; rw [if_neg (by omega), if_neg (by omega), if_neg (by omega)]
      rw [if_pos h12, ha, if_pos (by omega)]
      rfl
    · rw [if_neg h12]
      by_cases h5 : o ≤ 5
      · have ha : arI o = 1 := by unfold arI; rw [if_pos (by omega)]
        rw [if_pos h5, ha]
        cases st with
        | nil => rfl
        | cons a t => rw [if_pos (by simp)]; rfl
      · rw [if_neg h5]
        by_cases h10 : o ≤ 10
        · have ha : arI o = 2 := by unfold arI; rw [if_neg (by omega), if_pos (by omega)]
          rw [if_pos h10, ha]
          match st with
          | [] => rfl
          | [a] => rfl
          | b :: a :: t => rw [if_pos (by simp)]; rfl
        · have ha : arI o = 3 := by unfold arI; rw [if_neg (by omega), if_neg (by omega), if_pos (by omega)]
          rw [if_neg h10, ha]
          match st with
          | [] => rfl
          | [a] => rfl
          | [a, b] => rfl
          | c :: b :: a :: t => rw [if_pos (by simp)]; rfl
  · rw [joinT.eq_def, if_neg hn, if_neg (fun h => hn h.1)]

theorem info56 : (Tryd.prog.info? 56).map (fun i => (i.zero, i.size, i.bytes)) = some (some .nilIface, 1, 16) := by kernel_rfl
/-- trees in memory, a cell each. -/
def ct (l : List Tr) : List Value := l.map tv
theorem ct_append (l m : List Tr) : ct (l ++ m) = ct l ++ ct m := by simp [ct]
theorem ct_length (l : List Tr) : (ct l).length = l.length := by simp [ct]
theorem tv_one (t : Tr) : (tv t).oneCell' = true := by
  obtain ⟨k, u, e⟩ := tv_form t
  rw [e]; rfl
theorem run_append_tree (w : World) (base : Nat) (ty : TypeId) (v : Value) (l : List Tr) (hown : w.ownsRow base 56 1 v l.length (ct l)) (ad : Addr) (x : Tr) (hu : w.cell? ad = some (tv x)) (hn : l.length ≤ 1099511627776) (hbase : base ≤ w.heap.size) :
    ∃ v' w', (Builtin.append_ #[100, 100] ty #[v, .slice (some ad) 1 1]).run Tryd.prog w = .ok v' w' ∧ w'.ownsRow base 56 1 v' (l ++ [x]).length (ct (l ++ [x])) ∧ w.grownBy w' v.ownBlock := by
  obtain ⟨i, hi, hz0, hz1, hz2⟩ := info_parts info56
  have hnews : ∀ j y, [tv x][j]? = some y → w.cell? (ad.add j) = some y := by
    intro j y hy
    cases j with
    | zero => simp at hy; subst hy; simpa [Addr.add] using hu
    | succ j => simp at hy
  have h1' : ∀ y ∈ [tv x], y.oneCell' = true := by intro y hy; simp at hy; subst hy; exact tv_one x
  obtain ⟨v', w', hr, ho, hg, _⟩ := run_append_own (P := Tryd.prog) w base 100 ty 56 i .nilIface 1 16 Tryd.underlying100 hi hz0 hz1 hz2 rfl (by decide) v l.length (ct l) hown ad 1 1 [tv x] rfl hnews h1' (by unfold maxLen; omega) (by omega) hbase
  refine ⟨v', w', hr, ?_, hg⟩
  rw [ct_append, List.length_append]
  exact ho
theorem own_take {w : World} {B e g cap n m : Nat} {xs : List Value} (h : w.ownsRow B e 1 (.slice (some ⟨g, 0, none⟩) n cap) n xs) (hm : m ≤ n) : w.ownsRow B e 1 (.slice (some ⟨g, 0, none⟩) m cap) m (xs.take m) := by
  obtain ⟨h1, h2⟩ := h
  rcases h2 with ⟨h0, _⟩ | ⟨g', cap', cur, hv, hg, hh, hn, hcap, hsz, htake⟩
  · cases h0
  · cases hv
    refine ⟨by rw [List.length_take]; omega, .inr ⟨g, cap, cur, rfl, hg, hh, by omega, hcap, hsz, ?_⟩⟩
    rw [← htake, List.take_take, Nat.min_eq_left (by omega), Nat.mul_one]
theorem own_forms {W : World} {B e size n : Nat} {v : Value} {xs : List Value} (h : W.ownsRow B e size v n xs) : (v = .slice none 0 0 ∧ n = 0) ∨ ∃ g c, v = .slice (some ⟨g, 0, none⟩) n c ∧ g < W.heap.size ∧ n ≤ c ∧ B ≤ g := by
  rcases h.2 with ⟨hv, h0⟩ | ⟨g, cap, cur, hv, hb, hh, hn, _⟩
  · exact .inl ⟨hv, h0⟩
  · exact .inr ⟨g, cap, hv, (Array.getElem?_eq_some_iff.1 hh).1, hn, hb⟩

theorem plant_any (x : Nd) (hx : nodeB x = true) (us : List Tr) (hu : us.length = arI x.1) (sa : Option Addr) (l c : Nat) (w : World)
    (h : us = [] ∨ ∃ g p, sa = some ⟨g, p, none⟩ ∧ l = us.length ∧ g < w.heap.size ∧ ∀ j (hj : j < us.length), w.cell? ⟨g, p + j, none⟩ = some (tv us[j])) :
    Calls Tryd.prog 56 #[ndV x, .slice sa l c] w fun e w' => e = .returned (tv (plantT x us)) ∧ Below w.heap.size w w' := by
  obtain ⟨o, n⟩ := x
  unfold nodeB at hx
  simp only at hx hu
  split at hx
  · next h1 =>
    subst h1
    have : us = [] := List.eq_nil_of_length_eq_zero (by rw [hu]; rfl)
    subst this
    exact plant_leaf 1 n (.inl rfl) sa l c w
  · split at hx
    · next h1 h2 =>
      rcases h2 with rfl | h2
      · have : us = [] := List.eq_nil_of_length_eq_zero (by rw [hu]; rfl)
        subst this
        exact plant_leaf 2 n (.inr rfl) sa l c w
      · have ha : arI o = 1 := by unfold arI; rw [if_pos (by omega)]
        rw [ha] at hu
        match us, hu with
        | [a], _ =>
          rcases h with h | ⟨g, p, rfl, rfl, hg, hc⟩
          · cases h
          · exact plant_quant o n h2 a g p c w hg (hc 0 (by simp))
    · next h1 h2 =>
      have hz := of_decide_eq_true hx
      obtain ⟨hz1, hz2⟩ := hz
      subst hz2
      rcases hz1 with rfl | hz1
      · have ha : arI 3 = 1 := rfl
        rw [ha] at hu
        match us, hu with
        | [a], _ =>
          rcases h with h | ⟨g, p, rfl, rfl, hg, hc⟩
          · cases h
          · exact plant_not a g p c w hg (hc 0 (by simp))
      · by_cases h11 : o = 11
        · subst h11
          have ha : arI 11 = 3 := rfl
          rw [ha] at hu
          match us, hu with
          | [a, b, d], _ =>
            rcases h with h | ⟨g, p, rfl, rfl, hg, hc⟩
            · cases h
            · exact plant_three a b d g p c w hg (hc 0 (by simp)) (hc 1 (by simp)) (hc 2 (by simp))
        · have ha : arI o = 2 := by unfold arI; rw [if_neg (by omega), if_pos (by omega)]
          rw [ha] at hu
          match us, hu with
          | [a, b], _ =>
            rcases h with h | ⟨g, p, rfl, rfl, hg, hc⟩
            · cases h
            · exact plant_two o (by simp [two]; omega) a b g p c w hg (hc 0 (by simp)) (hc 1 (by simp))

/-- nodes in memory. -/
structure NodesAt (W : World) (sa : Option Addr) (l : List Nd) : Prop where
  at_ : ∀ k (hk : k < l.length), ∃ g o, sa = some ⟨g, o, none⟩ ∧ g < W.heap.size ∧ W.cell? ⟨g, o + k * 2, none⟩ = some (.int .i64 l[k].1) ∧ W.cell? ⟨g, o + k * 2 + 1, none⟩ = some (.int .i64 l[k].2)
theorem NodesAt.below {w W : World} {sa : Option Addr} {l : List Nd} (h : NodesAt w sa l) (hb : Below w.heap.size w W) : NodesAt W sa l := ⟨fun k hk => by
  obtain ⟨g, o, e, hg, c0, c1⟩ := h.at_ k hk
  exact ⟨g, o, e, Nat.lt_of_lt_of_le hg hb.size, below_cell hb hg c0, below_cell hb hg c1⟩⟩
end Go.Proofs.YtdkboifpdodonaaDoor
