import Derived.Test.YtdkboifpdodonabGreatDoorZ04
set_option linter.unusedSimpArgs false
/-
  The landed writer of formulas: two operands, three; a quantifier's variables; every tree.
-/
namespace Go.Proofs.YtdkboifpdodonabGreatDoor
open Go.RowKit Go.Deep PureCnf PureForm
set_option maxRecDepth 100000

set_option maxHeartbeats 2000000 in
theorem bare_two (o : Int) (ho : two o = true) (a b' : Tr) (HA : OperC a) (HB' : OperC b') : BareC (.bi (o, 0) a b') := by
  intro fol B b T w hw hB h3 hT hlen
  have HX : Hid (bareX (.bi (o, 0) a b') fol = operX a (leastF o) true ++ (([32] ++ (signT o ++ [32])) ++ operX b' (leastS o) fol)) := by
    show textOf ((Tr.bi (o, 0) a b').its 0 (!fol)) = _
    have e1 := brk_first ho a
    have e2 := brk_second ho b' (!fol)
    rw [Bool.not_not] at e2
    unfold operX
    (first | rw [Tr.its_un, ← e1, ← e2] | rw [Tr.its_bi, ← e1, ← e2] | rw [Tr.its_te, ← e1, ← e2] | rw [Tr.its_lf, ← e1, ← e2])
    have es : (signI o).1 = [32] ++ (signT o ++ [32]) := by rcases two_cases ho with rfl | rfl | rfl | rfl | rfl <;> rfl
    simp [textOf, sepI, es]
  rw [HX.out] at hlen ⊢
  simp only [List.length_append, List.length_cons, List.length_nil] at hlen
  obtain ⟨k, u, e⟩ := tv_form a
  obtain ⟨k2, u2, e2⟩ := tv_form b'
  show Calls Tryz.prog 75 #[.pointer (some ⟨b, 0, none⟩), .iface 124 (.agg #[.int .i64 o, tv a, tv b']), .bool fol] w _
  obtain ⟨X, hX⟩ : ∃ X, X = operX a (leastF o) true := ⟨_, rfl⟩
  obtain ⟨Y, hY⟩ : ∃ Y, Y = operX b' (leastS o) fol := ⟨_, rfl⟩
  obtain ⟨S, hS⟩ : ∃ S, S = signT o := ⟨_, rfl⟩
  have HSD := fun W => hid (sides_any o ho fol W)
  have HSG := fun W => hid (sign_any o ho W)
  have HOA : Hid (∀ W, IsWr B b T W → B ≤ W.heap.size → Tab W → Calls Tryz.prog 52 #[.pointer (some ⟨b, 0, none⟩), .iface k u, spotV (leastF o) true] W fun e w' => e = .returned (.tuple #[]) ∧ Wrote B b T X W w') := fun W h1 h2 h4 => by
    have := HA (leastF o) true B b T W h1 h2 h3 h4 (by omega)
    rwa [e, ← hX] at this
  rw [← hX, ← hY, ← hS] at hlen ⊢
  simp only [← hS] at HSG
  have HOB : Hid (∀ W, IsWr B b (T ++ (X ++ ([32] ++ (S ++ [32])))) W → B ≤ W.heap.size → Tab W → Calls Tryz.prog 52 #[.pointer (some ⟨b, 0, none⟩), .iface k2 u2, spotV (leastS o) fol] W fun e w' => e = .returned (.tuple #[]) ∧ Wrote B b (T ++ (X ++ ([32] ++ (S ++ [32])))) Y W w') := fun W h1 h2 h4 => by
    have := HB' (leastS o) fol B b (T ++ (X ++ ([32] ++ (S ++ [32])))) W h1 h2 h3 h4 (by rw [← hY]; simp only [List.length_append, List.length_cons, List.length_nil]; omega)
    rwa [e2, ← hY] at this
  rw [e, e2]
  obtain ⟨x, hx⟩ : ∃ x, x = leastF o := ⟨_, rfl⟩
  obtain ⟨y, hy⟩ : ∃ y, y = leastS o := ⟨_, rfl⟩
  simp only [← hx] at HOA HSD
  simp only [← hy] at HOB HSD
  have m0 := fun x W => ta133_miss 124 (by decide) (.agg #[.int .i64 o, .iface k u, .iface k2 u2]) x W
  have m1 := fun x W => ta135_miss 124 (by decide) (.agg #[.int .i64 o, .iface k u, .iface k2 u2]) x W
  have m2 := fun x W => ta120_miss 124 (by decide) (.agg #[.int .i64 o, .iface k u, .iface k2 u2]) x W
  have m3 := fun x W => ta122_miss 124 (by decide) (.agg #[.int .i64 o, .iface k u, .iface k2 u2]) x W
  have m4 := fun x W => ta124_hit (.agg #[.int .i64 o, .iface k u, .iface k2 u2]) x W
  obtain ⟨WA, hWA⟩ : ∃ WA, WA = w.alloc (Obj.cells #[.int .i64 o, .iface k u, .iface k2 u2] 124) := ⟨_, rfl⟩
  have hBA : Below w.heap.size w WA := by rw [hWA]; exact below_box _ _
  have r0 : WA.heap[w.heap.size]? = some (.cells #[.int .i64 o, .iface k u, .iface k2 u2] 124 (0, 0)) := by rw [hWA]; exact heap_alloc_new w _
  have c0 := fun j => cell_row r0 j
  have hbl := hw.lt
  have HR0 := hid r0
  have HBA := hid hBA
  have HWA := hid hWA
  have HTB := hid hT
  have HW := hid hw
  clear hWA hBA r0 hT hw hX hY hS hx hy HX HA HB' e e2 ho
  go_enter Tryz.func75, Tryz.ntmps75
  go_wp2_with (first
    | (rw [← HWA.out])
    | (go_at_call 89; refine (HSD _).out.mono ?_; rintro e w1 ⟨rfl, b1⟩; obtain ⟨X2, hX2⟩ : ∃ X2, X2 = (w1.alloc (Obj.cells #[Value.int .i64 x, Value.bool true] 103)).alloc (Obj.cells #[Value.int .i64 y, Value.bool fol] 103) := ⟨_, rfl⟩; have B12 : Below w1.heap.size w1 X2 := (by rw [hX2]; exact ((Below.refl _ _).alloc (Nat.le_refl _) _).alloc (by simp) _); have hs1 : w.heap.size < w1.heap.size := Nat.lt_of_lt_of_le (Array.getElem?_eq_some_iff.1 HR0.out).1 b1.size; have BX : Hid (Below w.heap.size w X2) := (HBA.out.trans ((b1.trans (B12.mono b1.size)).mono HBA.out.size)); have BOX : Hid (X2.heap[w.heap.size]? = some (.cells #[.int .i64 o, .iface k u, .iface k2 u2] 124 (0, 0)) ∧ X2.heap[w1.heap.size]? = some (.cells #[Value.int .i64 x, Value.bool true] 103 (0, 0)) ∧ X2.heap[w1.heap.size + 1]? = some (.cells #[Value.int .i64 y, Value.bool fol] 103 (0, 0))) := (by
        have s1 : (w1.alloc (Obj.cells #[Value.int .i64 x, Value.bool true] 103)).heap.size = w1.heap.size + 1 := by simp
        have q0 := (b1.block _ (Array.getElem?_eq_some_iff.1 HR0.out).1).trans HR0.out
        have q1 := (B12.block _ (Array.getElem?_eq_some_iff.1 q0).1).trans q0
        exact ⟨q1, by rw [hX2, Below.heap_alloc _ _ _ (by omega)]; exact heap_alloc_new w1 _, by rw [hX2, ← s1]; exact heap_alloc_new _ _⟩); have d0 := (fun j => cell_row BOX.out.1 j); have d1 := (fun j => cell_row BOX.out.2.1 j); have d2 := (fun j => cell_row BOX.out.2.2 j); have HX2 := hid hX2; have HC := hid (HOA.out X2 (HW.out.on BX.out) (Nat.le_trans hB BX.out.size) (HTB.out.below BX.out)); clear b1 hX2 B12)
    | (have q := HX2; clear q; rw [← HX2.out]; clear HX2)
    | (have q := Q3; clear q; go_at_call 52; refine HC.out.mono ?_; rintro e w5 ⟨rfl, q5⟩; have Q5 := hid (Q3.out.trans q5); clear q5)
    | (go_at_call 52; refine HC.out.mono ?_; rintro e w3 ⟨rfl, q3⟩; have r3 := q3.box BOX.out.1 (by omega) (by decide); have r4 := q3.box BOX.out.2.2 (by omega) (by decide); have f3 := (fun j => cell_row r3 j); have R3 := hid r3; have R4 := hid r4; have Q2 := hid (Wrote.grow BX.out hB q3); have HP := hid (put_three B b (T ++ X) [32] S [32] w3 Q2.out.is (by simp only [List.length_append, List.length_cons, List.length_nil]; omega) (Nat.le_trans hB Q2.out.low.size)); clear q3 r3 r4 HC)
    | (go_at_call 94; refine (HSG _).out.mono ?_; rintro e w' ⟨rfl, rfl⟩)
    | (go_at_call 76; refine HP.out.mono ?_; rintro e w4 ⟨rfl, q4⟩; have s3 := q4.box R3.out (by omega) (by decide); have s4 := q4.box R4.out (by omega) (by decide); have g3 := (fun j => cell_row s3 j); have g4 := (fun j => cell_row s4 j); have Q3 := hid (Q2.out.trans q4); have HC := hid (HOB.out w4 Q3.out.is (Nat.le_trans hB Q3.out.low.size) (HTB.out.low Q3.out.low h3)); clear q4 s3 s4))
  go_end0
  have R := Q5.out
  rw [List.append_assoc] at R
  exact ⟨rfl, R⟩
set_option maxHeartbeats 2000000 in
theorem bare_three (a b' d : Tr) (HA : OperC a) (HB' : OperC b') (HD : OperC d) : BareC (.te (11, 0) a b' d) := by
  intro fol B b T w hw hB h3 hT hlen
  have HX : Hid (bareX (.te (11, 0) a b' d) fol = [105, 116, 101, 40] ++ (operX a 0 false ++ ([44, 32] ++ (operX b' 0 false ++ ([44, 32] ++ (operX d 0 false ++ [41])))))) := by
    show textOf ((Tr.te (11, 0) a b' d).its 0 (!fol)) = _
    unfold operX
    (first | rw [Tr.its_un] | rw [Tr.its_bi] | rw [Tr.its_te] | rw [Tr.its_lf])
    simp only [brk_zero]
    simp [textOf, sepI, iteI, openI, commaI, closeI, wrapI]
  rw [HX.out] at hlen ⊢
  simp only [List.length_append, List.length_cons, List.length_nil] at hlen
  obtain ⟨k, u, e⟩ := tv_form a
  obtain ⟨k2, u2, e2⟩ := tv_form b'
  obtain ⟨k3, u3, e3⟩ := tv_form d
  show Calls Tryz.prog 75 #[.pointer (some ⟨b, 0, none⟩), .iface 126 (.agg #[tv a, tv b', tv d]), .bool fol] w _
  obtain ⟨X, hX⟩ : ∃ X, X = operX a 0 false := ⟨_, rfl⟩
  obtain ⟨Y, hY⟩ : ∃ Y, Y = operX b' 0 false := ⟨_, rfl⟩
  obtain ⟨Z, hZ⟩ : ∃ Z, Z = operX d 0 false := ⟨_, rfl⟩
  have HOA : Hid (∀ (T : List UInt8) W, IsWr B b T W → B ≤ W.heap.size → Tab W → T.length + X.length ≤ 140737488355328 → Calls Tryz.prog 52 #[.pointer (some ⟨b, 0, none⟩), .iface k u, spotV 0 false] W fun e w' => e = .returned (.tuple #[]) ∧ Wrote B b T X W w') := fun T W h1 h2 h4 h5 => by
    rw [hX] at h5
    have := HA 0 false B b T W h1 h2 h3 h4 h5
    rwa [e, ← hX] at this
  have HOB : Hid (∀ (T : List UInt8) W, IsWr B b T W → B ≤ W.heap.size → Tab W → T.length + Y.length ≤ 140737488355328 → Calls Tryz.prog 52 #[.pointer (some ⟨b, 0, none⟩), .iface k2 u2, spotV 0 false] W fun e w' => e = .returned (.tuple #[]) ∧ Wrote B b T Y W w') := fun T W h1 h2 h4 h5 => by
    rw [hY] at h5
    have := HB' 0 false B b T W h1 h2 h3 h4 h5
    rwa [e2, ← hY] at this
  have HOD : Hid (∀ (T : List UInt8) W, IsWr B b T W → B ≤ W.heap.size → Tab W → T.length + Z.length ≤ 140737488355328 → Calls Tryz.prog 52 #[.pointer (some ⟨b, 0, none⟩), .iface k3 u3, spotV 0 false] W fun e w' => e = .returned (.tuple #[]) ∧ Wrote B b T Z W w') := fun T W h1 h2 h4 h5 => by
    rw [hZ] at h5
    have := HD 0 false B b T W h1 h2 h3 h4 h5
    rwa [e3, ← hZ] at this
  rw [← hX, ← hY, ← hZ] at hlen ⊢
  rw [e, e2, e3]
  have m0 := fun x W => ta133_miss 126 (by decide) (.agg #[.iface k u, .iface k2 u2, .iface k3 u3]) x W
  have m1 := fun x W => ta135_miss 126 (by decide) (.agg #[.iface k u, .iface k2 u2, .iface k3 u3]) x W
  have m2 := fun x W => ta120_miss 126 (by decide) (.agg #[.iface k u, .iface k2 u2, .iface k3 u3]) x W
  have m3 := fun x W => ta122_miss 126 (by decide) (.agg #[.iface k u, .iface k2 u2, .iface k3 u3]) x W
  have m4 := fun x W => ta124_miss 126 (by decide) (.agg #[.iface k u, .iface k2 u2, .iface k3 u3]) x W
  have m5 := fun x W => ta126_hit (.agg #[.iface k u, .iface k2 u2, .iface k3 u3]) x W
  obtain ⟨WA, hWA⟩ : ∃ WA, WA = w.alloc (Obj.cells #[.iface k u, .iface k2 u2, .iface k3 u3] 126) := ⟨_, rfl⟩
  have hBA : Below w.heap.size w WA := by rw [hWA]; exact below_box _ _
  have r0 : WA.heap[w.heap.size]? = some (.cells #[.iface k u, .iface k2 u2, .iface k3 u3] 126 (0, 0)) := by rw [hWA]; exact heap_alloc_new w _
  have hbl := hw.lt
  have HP1 := hid (put_one B b T [105, 116, 101, 40] WA (hw.on hBA) (by simp; omega) (Nat.le_trans hB hBA.size))
  have HR0 := hid r0
  have HBA := hid hBA
  have HWA := hid hWA
  have HTB := hid hT
  clear hWA hBA r0 hT hw hX hY hZ HX HA HB' HD e e2 e3
  go_enter Tryz.func75, Tryz.ntmps75
  go_wp2_with (first
    | (rw [← HWA.out])
    | (have q := HP1; clear q; go_at_call 76; refine HP1.out.mono ?_; rintro e w1 ⟨rfl, q1⟩; have r1 := q1.box HR0.out (by omega) (by decide); have c1 := fun j => cell_row r1 j; have R1 := hid r1; have Q1 := hid (Wrote.grow HBA.out hB q1); have HC1 := hid (HOA.out _ w1 Q1.out.is (Nat.le_trans hB Q1.out.low.size) (HTB.out.low Q1.out.low h3) (by simp; omega)); clear q1 r1 HP1)
    | (have q := HC1; clear q; go_at_call 52; refine HC1.out.mono ?_; rintro e w2 ⟨rfl, q2⟩; have r2 := q2.box R1.out (by omega) (by decide); have R2 := hid r2; have Q2 := hid (Q1.out.trans q2); have HP2 := hid (put_one B b _ [44, 32] w2 Q2.out.is (by simp; omega) (Nat.le_trans hB Q2.out.low.size)); clear q2 r2 HC1 Q1 R1 c1)
    | (have q := HP2; clear q; go_at_call 76; refine HP2.out.mono ?_; rintro e w3 ⟨rfl, q3⟩; have r3 := q3.box R2.out (by omega) (by decide); have c3 := fun j => cell_row r3 j; have R3 := hid r3; have Q3 := hid (Q2.out.trans q3); have HC2 := hid (HOB.out _ w3 Q3.out.is (Nat.le_trans hB Q3.out.low.size) (HTB.out.low Q3.out.low h3) (by simp; omega)); clear q3 r3 HP2 Q2 R2)
    | (have q := HC2; clear q; go_at_call 52; refine HC2.out.mono ?_; rintro e w4 ⟨rfl, q4⟩; have r4 := q4.box R3.out (by omega) (by decide); have R4 := hid r4; have Q4 := hid (Q3.out.trans q4); have HP3 := hid (put_one B b _ [44, 32] w4 Q4.out.is (by simp; omega) (Nat.le_trans hB Q4.out.low.size)); clear q4 r4 HC2 Q3 R3 c3)
    | (have q := HP3; clear q; go_at_call 76; refine HP3.out.mono ?_; rintro e w5 ⟨rfl, q5⟩; have r5 := q5.box R4.out (by omega) (by decide); have c5 := fun j => cell_row r5 j; have R5 := hid r5; have Q5 := hid (Q4.out.trans q5); have HC3 := hid (HOD.out _ w5 Q5.out.is (Nat.le_trans hB Q5.out.low.size) (HTB.out.low Q5.out.low h3) (by simp; omega)); clear q5 r5 HP3 Q4 R4)
    | (have q := HC3; clear q; go_at_call 52; refine HC3.out.mono ?_; rintro e w6 ⟨rfl, q6⟩; have Q6 := hid (Q5.out.trans q6); have HP4 := hid (put_one B b _ [41] w6 Q6.out.is (by simp; omega) (Nat.le_trans hB Q6.out.low.size)); clear q6 HC3 Q5 c5 R5)
    | (have q := HP4; clear q; go_at_call 76; refine HP4.out.mono ?_; rintro e w7 ⟨rfl, q7⟩; have Q7 := hid (Q6.out.trans q7); clear q7 HP4 Q6))
  go_end0
  have R := Q7.out
  simp only [List.append_assoc] at R
  exact ⟨rfl, R⟩

end Go.Proofs.YtdkboifpdodonabGreatDoor
/-
  The landed writer of formulas: a quantifier's variables; every tree.
-/
namespace Go.Proofs.YtdkboifpdodonabGreatDoor
open Go.RowKit Go.Deep PureCnf PureForm
set_option maxRecDepth 100000

set_option maxHeartbeats 2000000 in
theorem bound_in (o n : Int) (ho : o = 4 ∨ o = 5) (h0 : 0 ≤ n) (h1 : n < 65536) (n2 : Int) (a : Tr) (HA : BoundC o n2 a) : BoundC o n (.un (o, n2) a) := by
  intro B b T w hw hB h3 hT hlen
  have HX : Hid (boundX o n (.un (o, n2) a) = (varI n).1 ++ ([44, 32] ++ boundX o n2 a)) := by
    show _ = _
    unfold boundX
    have hq : isQ o = true := by rcases ho with rfl | rfl <;> rfl
    (first | rw [Tr.its_un, if_pos (by exact hq), if_pos (by rfl)] | rw [Tr.its_bi, if_pos (by exact hq), if_pos (by rfl)] | rw [Tr.its_te, if_pos (by exact hq), if_pos (by rfl)] | rw [Tr.its_lf, if_pos (by exact hq), if_pos (by rfl)])
    simp [textOf, commaI]
  rw [HX.out] at hlen ⊢
  simp only [List.length_append, List.length_cons, List.length_nil] at hlen
  obtain ⟨k, u, e⟩ := tv_form a
  have e1 : tv (.un (o, n2) a) = .iface 122 (.agg #[.int .i64 o, .int .i64 n2, .iface k u]) := by (first | rw [tv_un, if_neg (by simp; omega), e] | rw [tv_bi, if_neg (by simp; omega), e] | rw [tv_te, if_neg (by simp; omega), e] | rw [tv_lf, if_neg (by simp; omega), e])
  rw [e1]
  obtain ⟨X, hX⟩ : ∃ X, X = (varI n).1 := ⟨_, rfl⟩
  obtain ⟨Y, hY⟩ : ∃ Y, Y = boundX o n2 a := ⟨_, rfl⟩
  have HO : Hid (∀ (T : List UInt8) W, IsWr B b T W → B ≤ W.heap.size → Tab W → T.length + Y.length ≤ 140737488355328 → Calls Tryz.prog 93 #[.pointer (some ⟨b, 0, none⟩), .agg #[.int .i64 o, .int .i64 n2, .iface k u]] W fun e w' => e = .returned (.tuple #[]) ∧ Wrote B b T Y W w') := fun T W h1 h2 h4 h5 => by
    rw [hY] at h5
    have := HA B b T W h1 h2 h3 h4 h5
    rwa [e, ← hY] at this
  rw [← hX, ← hY] at hlen ⊢
  have m1 := fun x W => ta122_hit (.agg #[.int .i64 o, .int .i64 n2, .iface k u]) x W
  obtain ⟨WA, hWA⟩ : ∃ WA, WA = w.alloc (Obj.cells #[.int .i64 o, .int .i64 n, .iface 122 (.agg #[.int .i64 o, .int .i64 n2, .iface k u])] 122) := ⟨_, rfl⟩
  have hBA : Below w.heap.size w WA := by rw [hWA]; exact below_box _ _
  have r0 : WA.heap[w.heap.size]? = some (.cells #[.int .i64 o, .int .i64 n, .iface 122 (.agg #[.int .i64 o, .int .i64 n2, .iface k u])] 122 (0, 0)) := by rw [hWA]; exact heap_alloc_new w _
  have c0 := fun j => cell_row r0 j
  have HNM := hid (name_any n h0 h1 WA (hT.below hBA))
  rw [← hX] at HNM
  have hbl := hw.lt
  have HR0 := hid r0
  have HBA := hid hBA
  have HWA := hid hWA
  have HTB := hid hT
  have HW := hid hw
  clear hWA hBA r0 hT hw hX hY HX HA e e1 ho h0 h1
  go_enter Tryz.func93, Tryz.ntmps93
  go_wp2_with (first
    | (have q := HX4; clear q; rw [← HX4.out]; clear HX4)
    | (rw [← HWA.out])
    | (go_at_call 91; refine HNM.out.mono ?_; rintro e w1 ⟨rfl, b1⟩; have B1 := hid (HBA.out.trans (b1.mono HBA.out.size)); have q1 := (b1.block _ (Array.getElem?_eq_some_iff.1 HR0.out).1).trans HR0.out; have R1 := hid q1; have HP1 := hid (put_one B b T X w1 (HW.out.on B1.out) (by omega) (Nat.le_trans hB B1.out.size)); clear b1 q1 HNM)
    | (have q := HP1; clear q; go_at_call 76; refine HP1.out.mono ?_; rintro e w2 ⟨rfl, q2⟩; have r2 := q2.box R1.out (by omega) (by decide); have c2 := fun j => cell_row r2 j; have Q2 := hid (Wrote.grow B1.out hB q2)
       obtain ⟨X4, hX4⟩ : ∃ X4, X4 = w2.alloc (Obj.cells #[Value.int .i64 o, Value.int .i64 n2, Value.iface k u] 122) := ⟨_, rfl⟩
       have b4 : Below w2.heap.size w2 X4 := (by rw [hX4]; exact (Below.refl _ _).alloc (Nat.le_refl _) _)
       have r4 : X4.heap[w2.heap.size]? = some (.cells #[Value.int .i64 o, Value.int .i64 n2, Value.iface k u] 122 (0, 0)) := (by rw [hX4]; exact heap_alloc_new w2 _)
       have c4 := fun j => cell_row r4 j
       have r5 := (b4.block _ (Array.getElem?_eq_some_iff.1 r2).1).trans r2
       have c5 := fun j => cell_row r5 j
       have hb2 : b < w2.heap.size := Q2.out.is.lt
       have R4 := hid r4
       have B4 := hid b4
       have HP2 := hid (put_one B b (T ++ X) [44, 32] X4 (Q2.out.is.on b4) (by simp; omega) (Nat.le_trans (Nat.le_trans hB Q2.out.low.size) b4.size))
       have HX4 := hid hX4
       clear q2 r2 HP1 hX4 b4 r4 r5)
    | (have q := HP2; clear q; go_at_call 76; refine HP2.out.mono ?_; rintro e w5 ⟨rfl, q5⟩; have r6 := q5.box R4.out (by omega) (by decide); have c6 := fun j => cell_row r6 j; have Q5 := hid (Q2.out.trans (Wrote.grow B4.out (Nat.le_trans hB Q2.out.low.size) q5)); have HC := hid (HO.out _ w5 Q5.out.is (Nat.le_trans hB Q5.out.low.size) (HTB.out.low Q5.out.low h3) (by simp; omega)); clear q5 r6 HP2)
    | (go_at_call 93; refine HC.out.mono ?_; rintro e w6 ⟨rfl, q6⟩; have Q6 := hid (Q5.out.trans q6); clear q6))
  have R := Q6.out
  rw [List.append_assoc] at R
  exact bodyPost_ret (results_none rfl _ _ _) rfl ⟨rfl, R⟩

/-- what the assertion finds of an operand: its kind's number, and whether it is a quantifier. -/
theorem ta122_any (a : Tr) (o : Int) (hg : a.good) (hr : a.root.1 ≠ o) : ∃ (v0 v1 : Int) (v2 : Value) (y : Bool), (∀ x W, (Instr.typeAssert (tv a) x 122 true).run Tryz.prog W = .ok (.tuple #[.agg #[.int .i64 v0, .int .i64 v1, v2], .bool y]) W) ∧ (y && (v0 == o)) = false ∧ (v2 = .nilIface ∨ ∃ k u, v2 = .iface k u) := by
  cases a using Tr.cas with
  | lf x =>
    obtain ⟨q, n⟩ := x
    rcases hg with ⟨h1, _⟩ | ⟨h1, _⟩
    · simp only at h1
      subst h1
      exact ⟨0, 0, .nilIface, false, fun x W => ta122_miss 133 (by decide) _ x W, rfl, .inl rfl⟩
    · simp only at h1
      subst h1
      exact ⟨0, 0, .nilIface, false, fun x W => ta122_miss 135 (by decide) _ x W, rfl, .inl rfl⟩
  | un x a =>
    obtain ⟨q, n⟩ := x
    obtain ⟨hx, _⟩ := hg
    rcases hx with ⟨h1, h2⟩ | ⟨h1, _⟩
    · simp only at h1 h2
      subst h1 h2
      exact ⟨0, 0, .nilIface, false, fun x W => ta122_miss 120 (by decide) _ x W, rfl, .inl rfl⟩
    · have h45 : q = 4 ∨ q = 5 := by simpa [isQ] using h1
      have e1 : tv (.un (q, n) a) = .iface 122 (.agg #[.int .i64 q, .int .i64 n, tv a]) := by (first | rw [tv_un, if_neg (by simp; omega)] | rw [tv_bi, if_neg (by simp; omega)] | rw [tv_te, if_neg (by simp; omega)] | rw [tv_lf, if_neg (by simp; omega)])
      rw [e1]
      exact ⟨q, n, tv a, true, fun x W => ta122_hit _ x W, by have : q ≠ o := hr; simp [this], .inr (tv_form a)⟩
  | bi x a b => exact ⟨0, 0, .nilIface, false, fun x W => ta122_miss 124 (by decide) _ x W, rfl, .inl rfl⟩
  | te x a b c => exact ⟨0, 0, .nilIface, false, fun x W => ta122_miss 126 (by decide) _ x W, rfl, .inl rfl⟩
set_option maxHeartbeats 2000000 in
theorem bound_out (o n : Int) (ho : o = 4 ∨ o = 5) (h0 : 0 ≤ n) (h1 : n < 65536) (a : Tr) (hg : a.good) (hr : a.root.1 ≠ o) (HA : OperC a) : BoundC o n a := by
  intro B b T w hw hB h3 hT hlen
  have HX : Hid (boundX o n a = (varI n).1 ++ ([58, 32] ++ operX a 0 false)) := by
    show _ = _
    unfold boundX operX
    rw [its_sep a o (by omega) hr, brk_zero]
    simp [textOf, colonI, wrapI]
  rw [HX.out] at hlen ⊢
  simp only [List.length_append, List.length_cons, List.length_nil] at hlen
  obtain ⟨v0, v1, v2, y, m1, hy, hv2⟩ := ta122_any a o hg hr
  obtain ⟨k, u, e⟩ := tv_form a
  obtain ⟨X, hX⟩ : ∃ X, X = (varI n).1 := ⟨_, rfl⟩
  obtain ⟨Y, hY⟩ : ∃ Y, Y = operX a 0 false := ⟨_, rfl⟩
  have HO : Hid (∀ (T : List UInt8) W, IsWr B b T W → B ≤ W.heap.size → Tab W → T.length + Y.length ≤ 140737488355328 → Calls Tryz.prog 52 #[.pointer (some ⟨b, 0, none⟩), .iface k u, spotV 0 false] W fun e w' => e = .returned (.tuple #[]) ∧ Wrote B b T Y W w') := fun T W h1 h2 h4 h5 => by
    rw [hY] at h5
    have := HA 0 false B b T W h1 h2 h3 h4 h5
    rwa [e, ← hY] at this
  rw [← hX, ← hY] at hlen ⊢
  rw [e] at m1 ⊢
  obtain ⟨WA, hWA⟩ : ∃ WA, WA = w.alloc (Obj.cells #[.int .i64 o, .int .i64 n, .iface k u] 122) := ⟨_, rfl⟩
  have hBA : Below w.heap.size w WA := by rw [hWA]; exact below_box _ _
  have r0 : WA.heap[w.heap.size]? = some (.cells #[.int .i64 o, .int .i64 n, .iface k u] 122 (0, 0)) := by rw [hWA]; exact heap_alloc_new w _
  have c0 := fun j => cell_row r0 j
  have HNM := hid (name_any n h0 h1 WA (hT.below hBA))
  rw [← hX] at HNM
  have hbl := hw.lt
  have HR0 := hid r0
  have HBA := hid hBA
  have HWA := hid hWA
  have HTB := hid hT
  have HW := hid hw
  clear hWA hBA r0 hT hw hX hY HX HA e ho h0 h1 hg hr
  rcases hv2 with rfl | ⟨k2, u2, rfl⟩
  · cases y
    all_goals
      (try simp only [Bool.true_and] at hy)
      go_enter Tryz.func93, Tryz.ntmps93
      go_wp2_with (first
        | (have q := HX4; clear q; rw [← HX4.out]; clear HX4)
        | (rw [← HWA.out])
        | (go_at_call 91; refine HNM.out.mono ?_; rintro e w1 ⟨rfl, b1⟩; have B1 := hid (HBA.out.trans (b1.mono HBA.out.size)); have q1 := (b1.block _ (Array.getElem?_eq_some_iff.1 HR0.out).1).trans HR0.out; have R1 := hid q1; have HP1 := hid (put_one B b T X w1 (HW.out.on B1.out) (by omega) (Nat.le_trans hB B1.out.size)); clear b1 q1 HNM)
        | (have q := HP1; clear q; go_at_call 76; refine HP1.out.mono ?_; rintro e w2 ⟨rfl, q2⟩; have r2 := q2.box R1.out (by omega) (by decide); have c2 := fun j => cell_row r2 j; have Q2 := hid (Wrote.grow B1.out hB q2)
           obtain ⟨X4, hX4⟩ : ∃ X4, X4 = w2.alloc (Obj.cells #[Value.int .i64 v0, Value.int .i64 v1, Value.nilIface] 122) := ⟨_, rfl⟩
           have b4 : Below w2.heap.size w2 X4 := (by rw [hX4]; exact (Below.refl _ _).alloc (Nat.le_refl _) _)
           have r4 : X4.heap[w2.heap.size]? = some (.cells #[Value.int .i64 v0, Value.int .i64 v1, Value.nilIface] 122 (0, 0)) := (by rw [hX4]; exact heap_alloc_new w2 _)
           have c4 := fun j => cell_row r4 j
           have r5 := (b4.block _ (Array.getElem?_eq_some_iff.1 r2).1).trans r2
           have c5 := fun j => cell_row r5 j
           have hb2 : b < w2.heap.size := Q2.out.is.lt
           have R5 := hid r5
           have B4 := hid b4
           have HP2 := hid (put_one B b (T ++ X) [58, 32] X4 (Q2.out.is.on b4) (by simp; omega) (Nat.le_trans (Nat.le_trans hB Q2.out.low.size) b4.size))
           have HX4 := hid hX4
           clear q2 r2 HP1 hX4 b4 r4 r5)
        | (have q := HP2; clear q; go_at_call 76; refine HP2.out.mono ?_; rintro e w5 ⟨rfl, q5⟩; have r6 := q5.box R5.out (by omega) (by decide); have c6 := fun j => cell_row r6 j; have Q5 := hid (Q2.out.trans (Wrote.grow B4.out (Nat.le_trans hB Q2.out.low.size) q5)); have HC := hid (HO.out _ w5 Q5.out.is (Nat.le_trans hB Q5.out.low.size) (HTB.out.low Q5.out.low h3) (by simp; omega)); clear q5 r6 HP2)
        | (go_at_call 52; refine HC.out.mono ?_; rintro e w6 ⟨rfl, q6⟩; have Q6 := hid (Q5.out.trans q6); clear q6))
      go_end0
      have R := Q6.out
      rw [List.append_assoc] at R
      exact ⟨rfl, R⟩
  · cases y
    all_goals
      (try simp only [Bool.true_and] at hy)
      go_enter Tryz.func93, Tryz.ntmps93
      go_wp2_with (first
        | (have q := HX4; clear q; rw [← HX4.out]; clear HX4)
        | (rw [← HWA.out])
        | (go_at_call 91; refine HNM.out.mono ?_; rintro e w1 ⟨rfl, b1⟩; have B1 := hid (HBA.out.trans (b1.mono HBA.out.size)); have q1 := (b1.block _ (Array.getElem?_eq_some_iff.1 HR0.out).1).trans HR0.out; have R1 := hid q1; have HP1 := hid (put_one B b T X w1 (HW.out.on B1.out) (by omega) (Nat.le_trans hB B1.out.size)); clear b1 q1 HNM)
        | (have q := HP1; clear q; go_at_call 76; refine HP1.out.mono ?_; rintro e w2 ⟨rfl, q2⟩; have r2 := q2.box R1.out (by omega) (by decide); have c2 := fun j => cell_row r2 j; have Q2 := hid (Wrote.grow B1.out hB q2)
           obtain ⟨X4, hX4⟩ : ∃ X4, X4 = w2.alloc (Obj.cells #[Value.int .i64 v0, Value.int .i64 v1, Value.iface k2 u2] 122) := ⟨_, rfl⟩
           have b4 : Below w2.heap.size w2 X4 := (by rw [hX4]; exact (Below.refl _ _).alloc (Nat.le_refl _) _)
           have r4 : X4.heap[w2.heap.size]? = some (.cells #[Value.int .i64 v0, Value.int .i64 v1, Value.iface k2 u2] 122 (0, 0)) := (by rw [hX4]; exact heap_alloc_new w2 _)
           have c4 := fun j => cell_row r4 j
           have r5 := (b4.block _ (Array.getElem?_eq_some_iff.1 r2).1).trans r2
           have c5 := fun j => cell_row r5 j
           have hb2 : b < w2.heap.size := Q2.out.is.lt
           have R5 := hid r5
           have B4 := hid b4
           have HP2 := hid (put_one B b (T ++ X) [58, 32] X4 (Q2.out.is.on b4) (by simp; omega) (Nat.le_trans (Nat.le_trans hB Q2.out.low.size) b4.size))
           have HX4 := hid hX4
           clear q2 r2 HP1 hX4 b4 r4 r5)
        | (have q := HP2; clear q; go_at_call 76; refine HP2.out.mono ?_; rintro e w5 ⟨rfl, q5⟩; have r6 := q5.box R5.out (by omega) (by decide); have c6 := fun j => cell_row r6 j; have Q5 := hid (Q2.out.trans (Wrote.grow B4.out (Nat.le_trans hB Q2.out.low.size) q5)); have HC := hid (HO.out _ w5 Q5.out.is (Nat.le_trans hB Q5.out.low.size) (HTB.out.low Q5.out.low h3) (by simp; omega)); clear q5 r6 HP2)
        | (go_at_call 52; refine HC.out.mono ?_; rintro e w6 ⟨rfl, q6⟩; have Q6 := hid (Q5.out.trans q6); clear q6))
      go_end0
      have R := Q6.out
      rw [List.append_assoc] at R
      exact ⟨rfl, R⟩

/-- every tree is written as the document says. -/
theorem write_all (t : Tr) : t.good → BareC t ∧ ∀ (o n : Int), (o = 4 ∨ o = 5) → 0 ≤ n → n < 65536 → BoundC o n t := by
  induction t using Tr.ind with
  | lf x =>
    obtain ⟨o, n⟩ := x
    intro ht
    have hB : BareC (.lf (o, n)) := by
      rcases ht with ⟨h1, h2⟩ | ⟨h1, h2, h3⟩
      · simp only at h1 h2
        subst h1
        exact bare_const n h2
      · simp only at h1 h2 h3
        subst h1
        exact bare_var n h2 h3
    refine ⟨hB, fun p m hp h0 h1 => bound_out p m hp h0 h1 _ ht ?_ (oper_any _ ht hB)⟩
    show o ≠ p
    rcases ht with ⟨h1, _⟩ | ⟨h1, _⟩ <;> simp only at h1 <;> omega
  | un x a iha =>
    obtain ⟨o, n⟩ := x
    intro ht
    obtain ⟨hx, ha⟩ := ht
    have ih := iha ha
    have ht : (Tr.un (o, n) a).good := ⟨hx, ha⟩
    rcases hx with ⟨h1, h2⟩ | ⟨h1, h2, h3⟩
    · simp only at h1 h2
      subst h1 h2
      have hB := bare_not a (oper_any a ha ih.1)
      exact ⟨hB, fun p m hp h0 h1 => bound_out p m hp h0 h1 _ ht (show (3 : Int) ≠ p by omega) (oper_any _ ht hB)⟩
    · have h45 : o = 4 ∨ o = 5 := by simpa [isQ] using h1
      have hb := ih.2 o n h45 h2 h3
      have hB := bare_quant o n h45 a hb
      refine ⟨hB, fun p m hp h0 h1 => ?_⟩
      by_cases hop : o = p
      · subst hop
        exact bound_in o m hp h0 h1 n a hb
      · exact bound_out p m hp h0 h1 _ ht hop (oper_any _ ht hB)
  | bi x a b iha ihb =>
    obtain ⟨o, n⟩ := x
    intro ht
    obtain ⟨⟨h1, h2⟩, ha, hb⟩ := ht
    have ht : (Tr.bi (o, n) a b).good := ⟨⟨h1, h2⟩, ha, hb⟩
    simp only at h1 h2
    subst h2
    have hB := bare_two o h1 a b (oper_any a ha (iha ha).1) (oper_any b hb (ihb hb).1)
    exact ⟨hB, fun p m hp h0 h3 => bound_out p m hp h0 h3 _ ht (show o ≠ p by have := of_decide_eq_true h1; omega) (oper_any _ ht hB)⟩
  | te x a b c iha ihb ihc =>
    obtain ⟨o, n⟩ := x
    intro ht
    obtain ⟨⟨h1, h2⟩, ha, hb, hc⟩ := ht
    have ht : (Tr.te (o, n) a b c).good := ⟨⟨h1, h2⟩, ha, hb, hc⟩
    simp only at h1 h2
    subst h1 h2
    have hB := bare_three a b c (oper_any a ha (iha ha).1) (oper_any b hb (ihb hb).1) (oper_any c hc (ihc hc).1)
    exact ⟨hB, fun p m hp h0 h3 => bound_out p m hp h0 h3 _ ht (show (11 : Int) ≠ p by omega) (oper_any _ ht hB)⟩

end Go.Proofs.YtdkboifpdodonabGreatDoor
/-
  The landed program's writeClauses.
-/
namespace Go.Proofs.YtdkboifpdodonabGreatDoor
open Go.RowKit Go.Deep PureCnf
set_option maxRecDepth 100000

theorem isWr_new {w : World} : IsWr w.heap.size w.heap.size [] (w.alloc (Obj.cells #[.pointer none, .slice none 0 0] 108)) :=
  .inl ⟨Nat.le_refl _, .slice none 0 0, heap_alloc_new w _, ⟨by simp [Lib.byteCells], .inl ⟨rfl, by simp [Lib.byteCells]⟩⟩, by simp [Value.ownBlock]⟩
end Go.Proofs.YtdkboifpdodonabGreatDoor
/-
  PrintCnf of the landed program.
-/
namespace Go.Proofs.YtdkboifpdodonabGreatDoor
open Go.RowKit Go.Deep PureCnf
set_option maxRecDepth 100000

theorem within_any (X : List UInt8) (w : World) (hX : X.length ≤ 2199023255552) :
    Calls Tryz.prog 27 #[str X] w fun e w' => e = .returned (.tuple #[str (if X.length ≤ 1048576 then X else []), .int .i64 (if X.length ≤ 1048576 then 0 else 5)]) ∧ w' = w := by
  by_cases h : X.length ≤ 1048576
  · rw [if_pos h, if_pos h]
    have h2 : ¬ (1048576 : Int) < (X.length : Int) := by omega
    clear h
    go_enter Tryz.func27, Tryz.ntmps27
    go_wp2
    go_ret2
    exact ⟨rfl, rfl⟩
  · rw [if_neg h, if_neg h]
    have h2 : (1048576 : Int) < (X.length : Int) := by omega
    clear h
    go_enter Tryz.func27, Tryz.ntmps27
    go_wp2
    go_ret2
    exact ⟨rfl, rfl⟩

end Go.Proofs.YtdkboifpdodonabGreatDoor
/-
  The landed program's write, Print.
-/
namespace Go.Proofs.YtdkboifpdodonabGreatDoor
open Go.RowKit Go.Deep PureCnf PureForm
set_option maxRecDepth 100000

theorem Tab.size {w : World} (h : Tab w) : 5 ≤ w.heap.size := by
  unfold Tab Lib.TabIs World.var? at h
  rw [show Tryz.prog.globalNamed "internal/strconv.uint64pow10" = some 4 by kernel_rfl] at h
  by_cases hs : 4 < w.heap.size
  · omega
  · simp only [Option.bind_some] at h
    rw [Array.getElem?_eq_none (by omega)] at h
    cases h
theorem text_some (t : Tr) (ht : t.good) : t.text ≠ [] := by
  unfold Tr.text textOf
  cases t using Tr.cas with
  | lf x =>
    obtain ⟨o, n⟩ := x
    rcases ht with ⟨h1, h2⟩ | ⟨h1, _⟩
    · simp only at h1 h2
      subst h1
      rcases h2 with rfl | rfl <;> simp [Tr.its_lf, Tr.its_un, Tr.its_bi, Tr.its_te, sepI, constI]
    · simp only at h1
      subst h1
      simp [Tr.its_lf, Tr.its_un, Tr.its_bi, Tr.its_te, sepI, varI]
  | un x a =>
    obtain ⟨o, n⟩ := x
    obtain ⟨hx, _⟩ := ht
    rcases hx with ⟨h1, _⟩ | ⟨h1, _⟩
    · simp only at h1
      subst h1
      (first | rw [Tr.its_un, if_neg (by simp [isQ])] | rw [Tr.its_bi, if_neg (by simp [isQ])] | rw [Tr.its_te, if_neg (by simp [isQ])] | rw [Tr.its_lf, if_neg (by simp [isQ])])
      simp [sepI, notI]
    · have h45 : o = 4 ∨ o = 5 := by simpa [isQ] using h1
      (first | rw [Tr.its_un, if_pos (by exact h1), if_neg (by simp; omega)] | rw [Tr.its_bi, if_pos (by exact h1), if_neg (by simp; omega)] | rw [Tr.its_te, if_pos (by exact h1), if_neg (by simp; omega)] | rw [Tr.its_lf, if_pos (by exact h1), if_neg (by simp; omega)])
      rcases h45 with rfl | rfl <;> simp [sepI, quantI]
  | bi x a b =>
    obtain ⟨o, n⟩ := x
    obtain ⟨⟨h1, _⟩, _⟩ := ht
    have es : (signI o).1 ≠ [] := by rcases two_cases h1 with e | e | e | e | e <;> simp only at e <;> subst e <;> decide
    (first | rw [Tr.its_un] | rw [Tr.its_bi] | rw [Tr.its_te] | rw [Tr.its_lf])
    simp [sepI, es]
  | te x a b c =>
    (first | rw [Tr.its_un] | rw [Tr.its_bi] | rw [Tr.its_te] | rw [Tr.its_lf])
    simp [sepI, iteI]
theorem oper_text (t : Tr) : operX t 0 false = t.text := by
  unfold operX
  rw [brk_zero]
  rfl

set_option maxHeartbeats 1000000 in
theorem write32 (t : Tr) (ht : t.good) (hn : t.post.length ≤ 65536) (w : World) (hT : Tab w) :
    Calls Tryz.prog 28 #[tv t] w fun e w' => e = .returned (str t.text) ∧ Below w.heap.size w w' := by
  have hlen := text_len t ht 0 true
  have hne := text_some t ht
  have h3 := hT.size
  obtain ⟨WA, hWA⟩ : ∃ WA, WA = w.alloc (Obj.cells #[.pointer none, .slice none 0 0] 108) := ⟨_, rfl⟩
  have hBA : Below w.heap.size w WA := by rw [hWA]; exact below_box _ _
  have hw0 : IsWr w.heap.size w.heap.size [] WA := by rw [hWA]; exact isWr_new
  have HO := hid (oper_any t ht (write_all t ht).1 0 false w.heap.size w.heap.size [] WA hw0 hBA.size h3 (hT.below hBA) (by rw [oper_text]; show 0 + t.text.length ≤ _; unfold Tr.text; omega))
  rw [oper_text] at HO
  obtain ⟨k, u, e⟩ := tv_form t
  rw [e] at HO ⊢
  obtain ⟨X, hX⟩ : ∃ X, X = t.text := ⟨_, rfl⟩
  rw [← hX] at HO hne ⊢
  have HNE := hid hne
  have HBA := hid hBA
  have HWA := hid hWA
  clear hX hWA hBA hw0 hT hlen hne e
  go_enter Tryz.func28, Tryz.ntmps28
  go_wp2_with (first
    | (rw [← HWA.out])
    | (go_at_call 52; refine HO.out.mono ?_; rintro e w1 ⟨rfl, q1⟩; have Q1 := hid q1; have HS := hid (string_any w.heap.size w.heap.size X w1 q1.is HNE.out); clear q1)
    | (go_at_call 53; refine HS.out.mono ?_; rintro e w2 ⟨rfl, b2⟩; have B2 := hid b2; clear b2))
  go_ret
  exact ⟨rfl, HBA.out.trans (Q1.out.low.trans B2.out)⟩

/-- what Print answers. -/
def printV (r : Except Nat (List UInt8)) : Value := match r with
  | .ok T => .tuple #[str T, .int .i64 0]
  | .error n => .tuple #[.string ⟨#[]⟩, .int .i64 (n : Int)]
def PrintCT (g : Nat) : Prop := ∀ (f : List Nd) (sa : Option Addr) (ca : Nat) (w : World), Tab w → NodesAt w sa f → f.length ≤ 9223372036854775807 →
  Calls Tryz.prog g #[.slice sa f.length ca] w fun e w' => e = .returned (printV (printF f)) ∧ Below w.heap.size w w'
set_option maxHeartbeats 1000000 in
theorem print14 : PrintCT 11 := by
  intro f sa ca w hT hf hl
  have HG := hid (grow_any f sa ca w hf hl)
  have HNO : growV f = .tuple #[.nilIface, .bool false] → printF f = .error 134 := fun h => by
    unfold growV at h
    unfold printF
    split at h
    · next t ht =>
      rw [ht]
      by_cases hc : f.length ≤ 65536 ∧ t.need true ≤ 64
      · rw [if_pos hc] at h
        simp at h
      · simp only [if_neg hc]
    · next ht => rw [ht]
  by_cases hfm : ∃ t, treeOf f = some t ∧ f.length ≤ 65536 ∧ t.need true ≤ 64
  · obtain ⟨t, ht, hc⟩ := hfm
    obtain ⟨hg, hp⟩ := treeOf_some ht
    have eg : growV f = .tuple #[tv t, .bool true] := by unfold growV; rw [ht]; simp only [if_pos hc]
    have hlen := text_len t hg 0 true
    rw [hp] at hlen
    have HPV : Hid (printV (printF f) = .tuple #[str (if t.text.length ≤ 1048576 then t.text else []), .int .i64 (if t.text.length ≤ 1048576 then 0 else 5)]) := by
      show _ = _
      unfold printF
      rw [ht]
      simp only [if_pos hc]
      by_cases h : t.text.length ≤ 1048576
      · simp only [if_pos h]; rfl
      · simp only [if_neg h]; rfl
    have HWR : Hid (∀ W, Below w.heap.size w W → Calls Tryz.prog 28 #[tv t] W fun e w' => e = .returned (str t.text) ∧ Below W.heap.size W w') := fun W hW => write32 t hg (by rw [hp]; exact hc.1) W (hT.below hW)
    have HWI := fun W => hid (within_any t.text W (by unfold Tr.text; omega))
    rw [eg] at HG
    obtain ⟨k, u, e⟩ := tv_form t
    rw [e] at HG
    simp only [e] at HWR
    obtain ⟨X, hX⟩ : ∃ X, X = t.text := ⟨_, rfl⟩
    rw [← hX] at HPV
    simp only [← hX] at HWR HWI
    obtain ⟨Y, hY⟩ : ∃ Y, Y = (if X.length ≤ 1048576 then X else []) := ⟨_, rfl⟩
    obtain ⟨z, hz⟩ : ∃ z : Int, z = (if X.length ≤ 1048576 then 0 else 5) := ⟨_, rfl⟩
    simp only [← hY, ← hz] at HWI
    rw [← hY, ← hz] at HPV
    rw [HPV.out]
    clear hX hY hz hT hf eg hlen HNO ht hg hp e hc HPV
    go_enter Tryz.func11, Tryz.ntmps11
    go_wp2_with (first
      | (go_at_call 26; refine HG.out.mono ?_; rintro e w1 ⟨rfl, b1⟩; have B1 := hid b1; clear b1)
      | (go_at_call 28; refine (HWR.out _ B1.out).mono ?_; rintro e w2 ⟨rfl, b2⟩; have B2 := hid (B1.out.trans (b2.mono B1.out.size)); clear b2)
      | (go_at_call 27; refine (HWI _).out.mono ?_; rintro e w' ⟨rfl, rfl⟩))
    exact bodyPost_ret (v := .tuple #[str Y, .int .i64 z]) (by simp [results, Tryz.results11, go_sem]) rfl ⟨rfl, B2.out⟩
  · have eg : growV f = .tuple #[.nilIface, .bool false] := by
      unfold growV
      split
      · next t ht => rw [if_neg (fun hc => hfm ⟨t, ht, hc⟩)]
      · rfl
    rw [HNO eg]
    rw [eg] at HG
    clear HNO eg hfm hf hT
    go_enter Tryz.func11, Tryz.ntmps11
    go_wp2_with (go_at_call 26; refine HG.out.mono ?_; rintro e w1 ⟨rfl, b1⟩; have B1 := hid b1; clear b1)
    exact bodyPost_ret (v := .tuple #[.string ⟨#[]⟩, .int .i64 134]) (by simp [results, Tryz.results11, go_sem]) rfl ⟨rfl, B1.out⟩

end Go.Proofs.YtdkboifpdodonabGreatDoor
/-
  General lemmas of the texts of formula (laid together out of P1, P4, P5, P7, T1).
-/
namespace Go.Proofs.YtdkboifpdodonabGreatDoor.Doc
open Go.RowKit Go.Deep PureCnf PureForm
set_option maxRecDepth 100000

theorem below_drewN {B : Nat} {w W : World} (h : Below B w W) (n : Nat) : Below B w (W.drewN n) := ⟨h.os, h.tape, h.output, h.size, h.block⟩
theorem info51 : (Tryz.prog.info? 49).map (fun i => (i.zero, i.size, i.bytes)) = some (some (.agg #[.int .i64 0, .int .i64 0]), 2, 16) := by kernel_rfl
def nd (x : Nd) : List Value := [.int .i64 x.1, .int .i64 x.2]
def nds (l : List Nd) : List Value := l.flatMap nd
theorem nds_length (l : List Nd) : (nds l).length = l.length * 2 := by
  induction l with
  | nil => rfl
  | cons p t ih => simp only [nds, List.flatMap_cons, List.length_append, List.length_cons] at ih ⊢; simp only [nd, List.length_cons, List.length_nil]; omega
theorem ownsRow_below {w W : World} {base e size n : Nat} {v : Value} {xs : List Value} (h : w.ownsRow base e size v n xs) (hb : Below w.heap.size w W) : W.ownsRow base e size v n xs := by
  refine ⟨h.1, ?_⟩
  rcases h.2 with hn | ⟨g, cap, cur, hv, hB, hg, rest⟩
  · exact .inl hn
  · exact .inr ⟨g, cap, cur, hv, hB, (hb.block g (Array.getElem?_eq_some_iff.1 hg).1).trans hg, rest⟩
theorem row_set {W : World} {b : Nat} {cs : Array Value} {t i : Nat} {u : Value} (hr : W.heap[b]? = some (.cells cs t (0, 0))) : (W.setCell ⟨b, i, none⟩ u).heap[b]? = some (.cells (cs.setIfInBounds i u) t (0, 0)) := by
  have hb := (Array.getElem?_eq_some_iff.1 hr).1
  simp [World.setCell, Array.getElem?_modify, hr]
/-- append of one, in a region of the text's order. -/
theorem app_one {ops : Array Oper} {rest : List Oper} {o : Oper} {a : Act} {Q : Exit → Act → World → Prop} {w : World} (hgd : o.guard = none) (sl x : Operand) (t e : TypeId) (z : Value) (size bytes : Nat)
    (ho : o.op = .call { callee := .builtin .append, args := #[sl, x], argTypes := #[t, t] }) (hu : Tryz.prog.underlying t = some (.slice e)) (hinf : (Tryz.prog.info? e).map (fun i => (i.zero, i.size, i.bytes)) = some (some z, size, bytes))
    (hzs : z.cells.size = size) (hsz : 0 < size) (hby : bytes ≤ 24) (B n : Nat) (v : Value) (xs news : List Value) (ad : Addr) (hs : a.eval sl = v) (hown : w.ownsRow B e size v n xs) (hx : a.eval x = .slice (some ad) 1 1)
    (hl : news.length = size) (hnews : ∀ j u, news[j]? = some u → w.cell? (ad.add j) = some u) (h1 : ∀ u ∈ news, u.oneCell' = true) (hn : n ≤ 1099511627776) (hB : B ≤ w.heap.size)
    (h : ∀ v' w', w'.ownsRow B e size v' (n + 1) (xs ++ news) → w.grownBy w' v.ownBlock → wpList Tryz.prog ops Q rest (a.put o.dst v') w') : wpList Tryz.prog ops Q (o :: rest) a w := by
  obtain ⟨i, hi, hz0, hz1, hz2⟩ := info_parts hinf
  refine wpList_append_own _ hgd sl x t ho B e i z size bytes hu hi hz0 hz1 hz2 hzs hsz v n xs hs hown ad 1 1 news hx (by rw [hl, Nat.one_mul]) hnews h1 (by unfold maxLen; omega) (by
    have : (n + 1) * bytes ≤ (n + 1) * 24 := Nat.mul_le_mul_left _ hby
    omega) hB ?_
  intro v' w' h2 h3 _
  exact h v' w' h2 h3
theorem own_shape {W : World} {B e size n : Nat} {v : Value} {xs : List Value} (h : W.ownsRow B e size v n xs) : ∃ sa c, v = .slice sa n c := by
  rcases h.2 with ⟨hv, h0⟩ | ⟨g, cap, cur, hv, _⟩
  · exact ⟨none, 0, by rw [hv, h0]⟩
  · exact ⟨_, _, hv⟩
set_option maxHeartbeats 1000000 in
theorem binds_any (op : Nat) (hop : op ≤ 100) (W : World) : Calls Tryz.prog 60 #[.int .i64 (op : Int)] W fun e w' => e = .returned (.int .i64 (bindsN op : Int)) ∧ w' = W := by
  by_cases h6 : op = 6
  · subst h6
    go_enter Tryz.func60, Tryz.ntmps60
    go_wp2
    go_ret
    exact ⟨rfl, rfl⟩
  · by_cases h8 : op = 8
    · subst h8
      go_enter Tryz.func60, Tryz.ntmps60
      go_wp2
      go_ret
      exact ⟨rfl, rfl⟩
    · by_cases h7 : op = 7
      · subst h7
        go_enter Tryz.func60, Tryz.ntmps60
        go_wp2
        go_ret
        exact ⟨rfl, rfl⟩
      · by_cases h9 : op = 9
        · subst h9
          go_enter Tryz.func60, Tryz.ntmps60
          go_wp2
          go_ret
          exact ⟨rfl, rfl⟩
        · have HB : Hid (bindsN op = 1) := by show _ = _; simp [bindsN, h6, h7, h8, h9]
          have b6 : ((op : Int) == 6) = false := by rw [beq_eq_false_iff_ne]; omega
          have b7 : ((op : Int) == 7) = false := by rw [beq_eq_false_iff_ne]; omega
          have b8 : ((op : Int) == 8) = false := by rw [beq_eq_false_iff_ne]; omega
          have b9 : ((op : Int) == 9) = false := by rw [beq_eq_false_iff_ne]; omega
          clear h6 h7 h8 h9
          go_enter Tryz.func60, Tryz.ntmps60
          go_wp2
          go_ret
          rw [HB.out]
          exact ⟨rfl, rfl⟩
theorem nds_at (l : List Nd) (k j : Nat) (hk : k < l.length) (hj : j < 2) : (nds l)[k * 2 + j]? = (nd l[k])[j]? := by
  induction l generalizing k with
  | nil => simp at hk
  | cons p t ih =>
    have e : nds (p :: t) = nd p ++ nds t := by simp [nds]
    have hl : (nd p).length = 2 := rfl
    rw [e]
    cases k with
    | zero => rw [List.getElem?_append_left (by omega)]; simp
    | succ k =>
      rw [List.getElem?_append_right (by omega), hl, show (k + 1) * 2 + j - 2 = k * 2 + j by omega, ih k (by simpa using hk)]
      simp
theorem own_nodes {W : World} {B : Nat} {v : Value} {l : List Nd} (h : W.ownsRow B 49 2 v l.length (nds l)) : ∃ sa c, v = .slice sa l.length c ∧ NodesAt W sa l := by
  rcases h.2 with ⟨hv, h0⟩ | ⟨g, cap, cur, hv, hb, hg, hn, hm, hsz, ht⟩
  · have : l = [] := List.eq_nil_of_length_eq_zero h0
    subst this
    exact ⟨none, 0, hv, ⟨fun k hk => by simp at hk⟩⟩
  · refine ⟨_, _, hv, ⟨fun k hk => ⟨g, 0, rfl, (Array.getElem?_eq_some_iff.1 hg).1, ?_, ?_⟩⟩⟩
    all_goals rw [cell_row hg]
    all_goals
      have one : ∀ j, j < 2 → cur[0 + k * 2 + j]? = (nd l[k])[j]? := fun j hj => by
        rw [Nat.zero_add, ← nds_at l k j hk hj, ← ht, List.getElem?_take_of_lt (by omega)]; simp
    · exact one 0 (by omega)
    · exact one 1 (by omega)
set_option maxHeartbeats 1000000 in
set_option maxRecDepth 100000 in
theorem same_true (l : List Nd) (sa sb : Option Addr) (ca cb : Nat) (w : World) (hl : l.length ≤ 8796093022208) (ha : NodesAt w sa l) (hb : NodesAt w sb l) :
    Calls Tryz.prog 14 #[.slice sa l.length ca, .slice sb l.length cb] w fun e w' => e = .returned (.bool true) ∧ Below w.heap.size w w' := by
  have HA := hid ha
  have HB := hid hb
  clear ha hb
  go_enter Tryz.func14, Tryz.ntmps14
  go_wp2
  go_loopw [5] (fun iv W => ∃ k : Nat, k ≤ l.length ∧ iv = .int .i64 (k : Int) ∧ Hid (Below w.heap.size w W)) (fun iv _ => l.length - (intOf iv).toNat)
  case atStart => exact ⟨0, Nat.zero_le _, rfl, Below.refl _ _⟩
  case round =>
    obtain ⟨k, hk, rfl, HW⟩ := hrel
    by_cases hlt : k < l.length
    · obtain ⟨ga, oa, rfl, hga, a0, a1⟩ := HA.out.at_ k hlt
      obtain ⟨gb, ob, rfl, hgb, b0, b1⟩ := HB.out.at_ k hlt
      have p0 := below_cell HW.out hga a0
      have p1 := below_cell HW.out hga a1
      have q0 := below_cell HW.out hgb b0
      have q1 := below_cell HW.out hgb b1
      clear a0 a1 b0 b1
      obtain ⟨x, hx⟩ : ∃ x, x = l[k].1 := ⟨_, rfl⟩
      obtain ⟨y, hy⟩ : ∃ y, y = l[k].2 := ⟨_, rfl⟩
      rw [← hx] at p0 q0
      rw [← hy] at p1 q1
      clear hx hy
      go_wp2
      go_quiet (fail)
      go_wp2
      exact ⟨⟨k + 1, hlt, by go_num, below_drewN HW.out _⟩, by simp [intOf]; omega⟩
    · go_wp2
      go_ret
      exact ⟨rfl, HW.out⟩
end Go.Proofs.YtdkboifpdodonabGreatDoor.Doc
/-
  The document's own decimal, two, first, second, sign.
-/
namespace Go.Proofs.YtdkboifpdodonabGreatDoor.Doc
open Go.RowKit Go.Deep PureCnf PureForm
set_option maxRecDepth 100000

theorem dec_small {n : Nat} (h : n < 10) : Lib.decDigits n = [UInt8.ofNat (48 + n)] := by rw [Lib.decDigits, dif_pos h]
theorem dec_big {n : Nat} (h : ¬ n < 10) : Lib.decDigits n = Lib.decDigits (n / 10) ++ [UInt8.ofNat (48 + n % 10)] := by rw [Lib.decDigits, dif_neg h]
theorem dec_len_le (n : Nat) (h : n ≤ 9223372036854775807) : (Lib.decDigits n).length ≤ 21 := by
  have := Lib.itoa_length_le (n : Int) (by omega) (by omega)
  rwa [Lib.itoa_nonneg] at this

set_option maxHeartbeats 400000 in
set_option maxRecDepth 100000 in
theorem decimal_small (n : Nat) (hn : n < 10) (w : World) :
    Calls Tryz.prog 82 #[.int .i64 n] w fun e w' => e = .returned (str (Lib.decDigits n)) ∧ Below w.heap.size w w' := by
  have hc : (convert 56 9 (.slice (some ⟨w.heap.size, 0, none⟩) 1 1)).run Tryz.prog (w.alloc (.cells #[.int .u8 (48 + (n : Int))] 5)) = .ok (str [UInt8.ofNat (48 + n)]) (w.alloc (.cells #[.int .u8 (48 + (n : Int))] 5)) := by
    refine run_convert_bytes_back (P := Tryz.prog) _ 56 9 5 ⟨w.heap.size, 0, none⟩ 1 [UInt8.ofNat (48 + n)] Tryz.underlying56 Tryz.underlying5 Tryz.underlying9 (fun j hj => ?_)
    have h0 : j = 0 := by simpa using hj
    subst h0
    simp [Addr.add]
    omega
  rw [← dec_small hn] at hc
  go_enter Tryz.func82, Tryz.ntmps82
  go_wp2
  go_ret
  exact ⟨rfl, (Below.refl _ _).alloc (Nat.le_refl _) _⟩

set_option maxHeartbeats 400000 in
set_option maxRecDepth 100000 in
theorem decimal_any (n : Nat) : ∀ (w : World), n ≤ 9223372036854775807 →
    Calls Tryz.prog 82 #[.int .i64 n] w fun e w' => e = .returned (str (Lib.decDigits n)) ∧ Below w.heap.size w w' := by
  induction n using Nat.strongRecOn with
  | _ n ih =>
    intro w hn
    by_cases h : n < 10
    · exact decimal_small n h w
    · have h10 : ¬ (n : Int) < 10 := by omega
      have H1 : Hid (∀ w : World, Calls Tryz.prog 82 #[.int .i64 ((n : Int) / 10)] w fun e w' => e = .returned (str (Lib.decDigits (n / 10))) ∧ Below w.heap.size w w') := fun w => by
        have := ih (n / 10) (by omega) w (by omega)
        rwa [show ((n / 10 : Nat) : Int) = (n : Int) / 10 by omega] at this
      have H2 : Hid (∀ w : World, Calls Tryz.prog 82 #[.int .i64 ((n : Int) % 10)] w fun e w' => e = .returned (str (Lib.decDigits (n % 10))) ∧ Below w.heap.size w w') := fun w => by
        have := ih (n % 10) (by omega) w (by omega)
        rwa [show ((n % 10 : Nat) : Int) = (n : Int) % 10 by omega] at this
      have HD : Hid (Lib.decDigits (n / 10) ++ Lib.decDigits (n % 10) = Lib.decDigits n) := by rw [dec_big h, dec_small (Nat.mod_lt _ (by omega))]; exact rfl
      have hl1 := dec_len_le (n / 10) (by omega)
      have hl2 := dec_len_le (n % 10) (by omega)
      clear ih h
      go_enter Tryz.func82, Tryz.ntmps82
      go_wp2_with (fail)
      with_reducible refine (H1.out _).mono ?_
      rintro e w1 ⟨rfl, hb⟩
      have HB1 := hid hb
      clear hb
      go_wp2_with (fail)
      with_reducible refine (H2.out _).mono ?_
      rintro e w2 ⟨rfl, hb⟩
      have HB2 := hid hb
      clear hb
      go_wp2
      go_ret
      rw [← HD.out]
      exact ⟨congrArg (fun x => Ending.returned (Value.string x)) (str_add _ _), HB1.out.trans (HB2.out.mono HB1.out.size)⟩


set_option maxHeartbeats 1000000 in
theorem two_any (o : Int) (w : World) : Calls Tryz.prog 83 #[.int .i64 o] w fun e w' => e = .returned (.bool (two o)) ∧ w' = w := by
  by_cases h6 : 6 ≤ o
  · by_cases h10 : o ≤ 10
    · have HB : Hid (two o = true) := by show _ = _; simp [two, h6, h10]
      go_enter Tryz.func83, Tryz.ntmps83
      go_wp2
      go_ret
      rw [HB.out]
      exact ⟨rfl, rfl⟩
    · have HB : Hid (two o = false) := by show _ = _; simp [two]; omega
      go_enter Tryz.func83, Tryz.ntmps83
      go_wp2
      go_ret
      rw [HB.out]
      exact ⟨rfl, rfl⟩
  · have HB : Hid (two o = false) := by show _ = _; simp [two]; omega
    go_enter Tryz.func83, Tryz.ntmps83
    go_wp2
    go_ret
    rw [HB.out]
    exact ⟨rfl, rfl⟩

set_option maxHeartbeats 1000000 in
theorem sign_any (o : Int) (ho : two o = true) (w : World) : Calls Tryz.prog 85 #[.int .i64 o] w fun e w' => e = .returned (str (signI o).1) ∧ w' = w := by
  rcases two_cases ho with rfl | rfl | rfl | rfl | rfl
  all_goals
    go_enter Tryz.func85, Tryz.ntmps85
    go_wp2
    go_ret
    exact ⟨rfl, rfl⟩


set_option maxHeartbeats 1000000 in
theorem first_any (op r : Int) (ho : two op = true) (w : World) : Calls Tryz.prog 84 #[.int .i64 op, .int .i64 r] w fun e w' => e = .returned (.bool (firstB op r)) ∧ w' = w := by
  have HT := hid (two_any r w)
  cases hr : two r with
  | false =>
    have HB : Hid (firstB op r = false) := by show _ = _; simp [firstB, hr]
    rw [hr] at HT
    clear hr ho
    go_enter Tryz.func84, Tryz.ntmps84
    go_wp2_with (go_at_call 83; refine HT.out.mono ?_; rintro e w' ⟨rfl, rfl⟩)
    go_ret
    rw [HB.out]
    exact ⟨rfl, rfl⟩
  | true =>
    rw [hr] at HT
    have A6 : Hid (∀ W, Calls Tryz.prog 60 #[.int .i64 6] W fun e w' => e = .returned (.int .i64 5) ∧ w' = W) := hid (fun W => binds_any 6 (by omega) W)
    have A7 : Hid (∀ W, Calls Tryz.prog 60 #[.int .i64 7] W fun e w' => e = .returned (.int .i64 3) ∧ w' = W) := hid (fun W => binds_any 7 (by omega) W)
    have A8 : Hid (∀ W, Calls Tryz.prog 60 #[.int .i64 8] W fun e w' => e = .returned (.int .i64 4) ∧ w' = W) := hid (fun W => binds_any 8 (by omega) W)
    have A9 : Hid (∀ W, Calls Tryz.prog 60 #[.int .i64 9] W fun e w' => e = .returned (.int .i64 2) ∧ w' = W) := hid (fun W => binds_any 9 (by omega) W)
    have A10 : Hid (∀ W, Calls Tryz.prog 60 #[.int .i64 10] W fun e w' => e = .returned (.int .i64 1) ∧ w' = W) := hid (fun W => binds_any 10 (by omega) W)
    rcases two_cases ho with rfl | rfl | rfl | rfl | rfl <;> rcases two_cases hr with rfl | rfl | rfl | rfl | rfl
    all_goals
      clear ho hr
      go_enter Tryz.func84, Tryz.ntmps84
      go_wp2_with (first
        | (go_at_call 83; refine HT.out.mono ?_; rintro e w' ⟨rfl, rfl⟩)
        | (go_at_call 60; (first | (with_reducible refine (A6.out _).mono ?_) | (with_reducible refine (A7.out _).mono ?_) | (with_reducible refine (A8.out _).mono ?_) | (with_reducible refine (A9.out _).mono ?_) | (with_reducible refine (A10.out _).mono ?_)); rintro e w' ⟨rfl, rfl⟩))
      go_ret
      exact ⟨rfl, rfl⟩

set_option maxHeartbeats 1000000 in
theorem second_any (op r : Int) (ho : two op = true) (w : World) : Calls Tryz.prog 86 #[.int .i64 op, .int .i64 r] w fun e w' => e = .returned (.bool (secondB op r)) ∧ w' = w := by
  have HT := hid (two_any r w)
  cases hr : two r with
  | false =>
    have HB : Hid (secondB op r = false) := by show _ = _; simp [secondB, hr]
    rw [hr] at HT
    clear hr ho
    go_enter Tryz.func86, Tryz.ntmps86
    go_wp2_with (go_at_call 83; refine HT.out.mono ?_; rintro e w' ⟨rfl, rfl⟩)
    go_ret
    rw [HB.out]
    exact ⟨rfl, rfl⟩
  | true =>
    rw [hr] at HT
    have A6 : Hid (∀ W, Calls Tryz.prog 60 #[.int .i64 6] W fun e w' => e = .returned (.int .i64 5) ∧ w' = W) := hid (fun W => binds_any 6 (by omega) W)
    have A7 : Hid (∀ W, Calls Tryz.prog 60 #[.int .i64 7] W fun e w' => e = .returned (.int .i64 3) ∧ w' = W) := hid (fun W => binds_any 7 (by omega) W)
    have A8 : Hid (∀ W, Calls Tryz.prog 60 #[.int .i64 8] W fun e w' => e = .returned (.int .i64 4) ∧ w' = W) := hid (fun W => binds_any 8 (by omega) W)
    have A9 : Hid (∀ W, Calls Tryz.prog 60 #[.int .i64 9] W fun e w' => e = .returned (.int .i64 2) ∧ w' = W) := hid (fun W => binds_any 9 (by omega) W)
    have A10 : Hid (∀ W, Calls Tryz.prog 60 #[.int .i64 10] W fun e w' => e = .returned (.int .i64 1) ∧ w' = W) := hid (fun W => binds_any 10 (by omega) W)
    rcases two_cases ho with rfl | rfl | rfl | rfl | rfl <;> rcases two_cases hr with rfl | rfl | rfl | rfl | rfl
    all_goals
      clear ho hr
      go_enter Tryz.func86, Tryz.ntmps86
      go_wp2_with (first
        | (go_at_call 83; refine HT.out.mono ?_; rintro e w' ⟨rfl, rfl⟩)
        | (go_at_call 60; (first | (with_reducible refine (A6.out _).mono ?_) | (with_reducible refine (A7.out _).mono ?_) | (with_reducible refine (A8.out _).mono ?_) | (with_reducible refine (A9.out _).mono ?_) | (with_reducible refine (A10.out _).mono ?_)); rintro e w' ⟨rfl, rfl⟩))
      go_ret
      exact ⟨rfl, rfl⟩
end Go.Proofs.YtdkboifpdodonabGreatDoor.Doc
