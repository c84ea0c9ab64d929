import Derived.Test.YtdkboifpdodonacGreatDoorZ07
set_option linter.unusedSimpArgs false
/-
 The landed writer of formulas: two operands, three; a quantifier's variables; every tree.
-/
namespace Go.Proofs.YtdkboifpdodonacGreatDoor
open Go.RowKit Go.Deep PureCnf PureForm
set_option maxRecDepth 100000

set_option maxHeartbeats 2000000 in
theorem bare_two (o : Int) (ho : two o = true) (a b' : Tr) (HA : OperC a) (HB' : OperC b') : BareC (.bi (o, 0) a b') := by
 intro fol B b T w hw hB h3 hT hlen
 have HX : Hid (bareX (.bi (o, 0) a b') fol = operX a (leastF o) true ++ (([32] ++ (signT o ++ [32])) ++ operX b' (leastS o) fol)) := by
  show textOf ((Tr.bi (o, 0) a b').its 0 (!fol)) = _
  have e1 := brk_first ho a
  have e2 := brk_second ho b' (!fol)
  rw [Bool.not_not] at e2
  unfold operX
  (first | rw [Tr.its_un, ← e1, ← e2] | rw [Tr.its_bi, ← e1, ← e2] | rw [Tr.its_te, ← e1, ← e2] | rw [Tr.its_lf, ← e1, ← e2])
  have es : (signI o).1 = [32] ++ (signT o ++ [32]) := by rcases two_cases ho with rfl | rfl | rfl | rfl | rfl <;> rfl
  simp [textOf, sepI, es]
 rw [HX.out] at hlen ⊢
 simp only [List.length_append, List.length_cons, List.length_nil] at hlen
 obtain ⟨k, u, e⟩ := tv_form a
 obtain ⟨k2, u2, e2⟩ := tv_form b'
 show Calls Tryz.prog 70 #[.pointer (some ⟨b, 0, none⟩), .iface 94 (.agg #[.int .i64 o, tv a, tv b']), .bool fol] w _
 obtain ⟨X, hX⟩ : ∃ X, X = operX a (leastF o) true := ⟨_, rfl⟩
 obtain ⟨Y, hY⟩ : ∃ Y, Y = operX b' (leastS o) fol := ⟨_, rfl⟩
 obtain ⟨S, hS⟩ : ∃ S, S = signT o := ⟨_, rfl⟩
 have HSD := fun W => hid (sides_any o ho fol W)
 have HSG := fun W => hid (sign_any o ho W)
 have HOA : Hid (∀ W, IsWr B b T W → B ≤ W.heap.size → Tab W → Calls Tryz.prog 52 #[.pointer (some ⟨b, 0, none⟩), .iface k u, spotV (leastF o) true] W fun e w' => e = .returned (.tuple #[]) ∧ Wrote B b T X W w') := fun W h1 h2 h4 => by
  have := HA (leastF o) true B b T W h1 h2 h3 h4 (by omega)
  rwa [e, ← hX] at this
 rw [← hX, ← hY, ← hS] at hlen ⊢
 simp only [← hS] at HSG
 have HOB : Hid (∀ W, IsWr B b (T ++ (X ++ ([32] ++ (S ++ [32])))) W → B ≤ W.heap.size → Tab W → Calls Tryz.prog 52 #[.pointer (some ⟨b, 0, none⟩), .iface k2 u2, spotV (leastS o) fol] W fun e w' => e = .returned (.tuple #[]) ∧ Wrote B b (T ++ (X ++ ([32] ++ (S ++ [32])))) Y W w') := fun W h1 h2 h4 => by
  have := HB' (leastS o) fol B b (T ++ (X ++ ([32] ++ (S ++ [32])))) W h1 h2 h3 h4 (by rw [← hY]; simp only [List.length_append, List.length_cons, List.length_nil]; omega)
  rwa [e2, ← hY] at this
 rw [e, e2]
 obtain ⟨x, hx⟩ : ∃ x, x = leastF o := ⟨_, rfl⟩
 obtain ⟨y, hy⟩ : ∃ y, y = leastS o := ⟨_, rfl⟩
 simp only [← hx] at HOA HSD
 simp only [← hy] at HOB HSD
 have m0 := fun x W => ta139_miss 94 (by decide) (.agg #[.int .i64 o, .iface k u, .iface k2 u2]) x W
 have m1 := fun x W => ta141_miss 94 (by decide) (.agg #[.int .i64 o, .iface k u, .iface k2 u2]) x W
 have m2 := fun x W => ta90_miss 94 (by decide) (.agg #[.int .i64 o, .iface k u, .iface k2 u2]) x W
 have m3 := fun x W => ta92_miss 94 (by decide) (.agg #[.int .i64 o, .iface k u, .iface k2 u2]) x W
 have m4 := fun x W => ta94_hit (.agg #[.int .i64 o, .iface k u, .iface k2 u2]) x W
 obtain ⟨WA, hWA⟩ : ∃ WA, WA = w.alloc (Obj.cells #[.int .i64 o, .iface k u, .iface k2 u2] 94) := ⟨_, rfl⟩
 have hBA : Below w.heap.size w WA := by rw [hWA]; exact below_box _ _
 have r0 : WA.heap[w.heap.size]? = some (.cells #[.int .i64 o, .iface k u, .iface k2 u2] 94 (0, 0)) := by rw [hWA]; exact heap_alloc_new w _
 have c0 := fun j => cell_row r0 j
 have hbl := hw.lt
 have HR0 := hid r0
 have HBA := hid hBA
 have HWA := hid hWA
 have HTB := hid hT
 have HW := hid hw
 clear hWA hBA r0 hT hw hX hY hS hx hy HX HA HB' e e2 ho
 go_enter Tryz.func70, Tryz.ntmps70
 go_wp2_with (first
  |(rw [← HWA.out])
  |(go_at_call 87; refine (HSD _).out.mono ?_; rintro e w1 ⟨rfl, b1⟩; obtain ⟨X2, hX2⟩ : ∃ X2, X2 = (w1.alloc (Obj.cells #[Value.int .i64 x, Value.bool true] 117)).alloc (Obj.cells #[Value.int .i64 y, Value.bool fol] 117) := ⟨_, rfl⟩; have B12 : Below w1.heap.size w1 X2 := (by rw [hX2]; exact ((Below.refl _ _).alloc (Nat.le_refl _) _).alloc (by simp) _); have hs1 : w.heap.size < w1.heap.size := Nat.lt_of_lt_of_le (Array.getElem?_eq_some_iff.1 HR0.out).1 b1.size; have BX : Hid (Below w.heap.size w X2) := (HBA.out.trans ((b1.trans (B12.mono b1.size)).mono HBA.out.size)); have BOX : Hid (X2.heap[w.heap.size]? = some (.cells #[.int .i64 o, .iface k u, .iface k2 u2] 94 (0, 0)) ∧ X2.heap[w1.heap.size]? = some (.cells #[Value.int .i64 x, Value.bool true] 117 (0, 0)) ∧ X2.heap[w1.heap.size + 1]? = some (.cells #[Value.int .i64 y, Value.bool fol] 117 (0, 0))) := (by
    have s1 : (w1.alloc (Obj.cells #[Value.int .i64 x, Value.bool true] 117)).heap.size = w1.heap.size + 1 := by simp
    have q0 := (b1.block _ (Array.getElem?_eq_some_iff.1 HR0.out).1).trans HR0.out
    have q1 := (B12.block _ (Array.getElem?_eq_some_iff.1 q0).1).trans q0
    exact ⟨q1, by rw [hX2, Below.heap_alloc _ _ _ (by omega)]; exact heap_alloc_new w1 _, by rw [hX2, ← s1]; exact heap_alloc_new _ _⟩); have d0 := (fun j => cell_row BOX.out.1 j); have d1 := (fun j => cell_row BOX.out.2.1 j); have d2 := (fun j => cell_row BOX.out.2.2 j); have HX2 := hid hX2; have HC := hid (HOA.out X2 (HW.out.on BX.out) (Nat.le_trans hB BX.out.size) (HTB.out.below BX.out)); clear b1 hX2 B12)
  |(have q := HX2; clear q; rw [← HX2.out]; clear HX2)
  |(have q := Q3; clear q; go_at_call 52; refine HC.out.mono ?_; rintro e w5 ⟨rfl, q5⟩; have Q5 := hid (Q3.out.trans q5); clear q5)
  |(go_at_call 52; refine HC.out.mono ?_; rintro e w3 ⟨rfl, q3⟩; have r3 := q3.box BOX.out.1 (by omega) (by decide); have r4 := q3.box BOX.out.2.2 (by omega) (by decide); have f3 := (fun j => cell_row r3 j); have R3 := hid r3; have R4 := hid r4; have Q2 := hid (Wrote.grow BX.out hB q3); have HP := hid (put_three B b (T ++ X) [32] S [32] w3 Q2.out.is (by simp only [List.length_append, List.length_cons, List.length_nil]; omega) (Nat.le_trans hB Q2.out.low.size)); clear q3 r3 r4 HC)
  |(go_at_call 92; refine (HSG _).out.mono ?_; rintro e w' ⟨rfl, rfl⟩)
  |(go_at_call 71; refine HP.out.mono ?_; rintro e w4 ⟨rfl, q4⟩; have s3 := q4.box R3.out (by omega) (by decide); have s4 := q4.box R4.out (by omega) (by decide); have g3 := (fun j => cell_row s3 j); have g4 := (fun j => cell_row s4 j); have Q3 := hid (Q2.out.trans q4); have HC := hid (HOB.out w4 Q3.out.is (Nat.le_trans hB Q3.out.low.size) (HTB.out.low Q3.out.low h3)); clear q4 s3 s4))
 go_end0
 have R := Q5.out
 rw [List.append_assoc] at R
 exact ⟨rfl, R⟩
set_option maxHeartbeats 2000000 in
theorem bare_three (a b' d : Tr) (HA : OperC a) (HB' : OperC b') (HD : OperC d) : BareC (.te (11, 0) a b' d) := by
 intro fol B b T w hw hB h3 hT hlen
 have HX : Hid (bareX (.te (11, 0) a b' d) fol = [105, 116, 101, 40] ++ (operX a 0 false ++ ([44, 32] ++ (operX b' 0 false ++ ([44, 32] ++ (operX d 0 false ++ [41])))))) := by
  show textOf ((Tr.te (11, 0) a b' d).its 0 (!fol)) = _
  unfold operX
  (first | rw [Tr.its_un] | rw [Tr.its_bi] | rw [Tr.its_te] | rw [Tr.its_lf])
  simp only [brk_zero]
  simp [textOf, sepI, iteI, openI, commaI, closeI, wrapI]
 rw [HX.out] at hlen ⊢
 simp only [List.length_append, List.length_cons, List.length_nil] at hlen
 obtain ⟨k, u, e⟩ := tv_form a
 obtain ⟨k2, u2, e2⟩ := tv_form b'
 obtain ⟨k3, u3, e3⟩ := tv_form d
 show Calls Tryz.prog 70 #[.pointer (some ⟨b, 0, none⟩), .iface 96 (.agg #[tv a, tv b', tv d]), .bool fol] w _
 obtain ⟨X, hX⟩ : ∃ X, X = operX a 0 false := ⟨_, rfl⟩
 obtain ⟨Y, hY⟩ : ∃ Y, Y = operX b' 0 false := ⟨_, rfl⟩
 obtain ⟨Z, hZ⟩ : ∃ Z, Z = operX d 0 false := ⟨_, rfl⟩
 have HOA : Hid (∀ (T : List UInt8) W, IsWr B b T W → B ≤ W.heap.size → Tab W → T.length + X.length ≤ 140737488355328 → Calls Tryz.prog 52 #[.pointer (some ⟨b, 0, none⟩), .iface k u, spotV 0 false] W fun e w' => e = .returned (.tuple #[]) ∧ Wrote B b T X W w') := fun T W h1 h2 h4 h5 => by
  rw [hX] at h5
  have := HA 0 false B b T W h1 h2 h3 h4 h5
  rwa [e, ← hX] at this
 have HOB : Hid (∀ (T : List UInt8) W, IsWr B b T W → B ≤ W.heap.size → Tab W → T.length + Y.length ≤ 140737488355328 → Calls Tryz.prog 52 #[.pointer (some ⟨b, 0, none⟩), .iface k2 u2, spotV 0 false] W fun e w' => e = .returned (.tuple #[]) ∧ Wrote B b T Y W w') := fun T W h1 h2 h4 h5 => by
  rw [hY] at h5
  have := HB' 0 false B b T W h1 h2 h3 h4 h5
  rwa [e2, ← hY] at this
 have HOD : Hid (∀ (T : List UInt8) W, IsWr B b T W → B ≤ W.heap.size → Tab W → T.length + Z.length ≤ 140737488355328 → Calls Tryz.prog 52 #[.pointer (some ⟨b, 0, none⟩), .iface k3 u3, spotV 0 false] W fun e w' => e = .returned (.tuple #[]) ∧ Wrote B b T Z W w') := fun T W h1 h2 h4 h5 => by
  rw [hZ] at h5
  have := HD 0 false B b T W h1 h2 h3 h4 h5
  rwa [e3, ← hZ] at this
 rw [← hX, ← hY, ← hZ] at hlen ⊢
 rw [e, e2, e3]
 have m0 := fun x W => ta139_miss 96 (by decide) (.agg #[.iface k u, .iface k2 u2, .iface k3 u3]) x W
 have m1 := fun x W => ta141_miss 96 (by decide) (.agg #[.iface k u, .iface k2 u2, .iface k3 u3]) x W
 have m2 := fun x W => ta90_miss 96 (by decide) (.agg #[.iface k u, .iface k2 u2, .iface k3 u3]) x W
 have m3 := fun x W => ta92_miss 96 (by decide) (.agg #[.iface k u, .iface k2 u2, .iface k3 u3]) x W
 have m4 := fun x W => ta94_miss 96 (by decide) (.agg #[.iface k u, .iface k2 u2, .iface k3 u3]) x W
 have m5 := fun x W => ta96_hit (.agg #[.iface k u, .iface k2 u2, .iface k3 u3]) x W
 obtain ⟨WA, hWA⟩ : ∃ WA, WA = w.alloc (Obj.cells #[.iface k u, .iface k2 u2, .iface k3 u3] 96) := ⟨_, rfl⟩
 have hBA : Below w.heap.size w WA := by rw [hWA]; exact below_box _ _
 have r0 : WA.heap[w.heap.size]? = some (.cells #[.iface k u, .iface k2 u2, .iface k3 u3] 96 (0, 0)) := by rw [hWA]; exact heap_alloc_new w _
 have hbl := hw.lt
 have HP1 := hid (put_one B b T [105, 116, 101, 40] WA (hw.on hBA) (by simp; omega) (Nat.le_trans hB hBA.size))
 have HR0 := hid r0
 have HBA := hid hBA
 have HWA := hid hWA
 have HTB := hid hT
 clear hWA hBA r0 hT hw hX hY hZ HX HA HB' HD e e2 e3
 go_enter Tryz.func70, Tryz.ntmps70
 go_wp2_with (first
  |(rw [← HWA.out])
  |(have q := HP1; clear q; go_at_call 71; refine HP1.out.mono ?_; rintro e w1 ⟨rfl, q1⟩; have r1 := q1.box HR0.out (by omega) (by decide); have c1 := fun j => cell_row r1 j; have R1 := hid r1; have Q1 := hid (Wrote.grow HBA.out hB q1); have HC1 := hid (HOA.out _ w1 Q1.out.is (Nat.le_trans hB Q1.out.low.size) (HTB.out.low Q1.out.low h3) (by simp; omega)); clear q1 r1 HP1)
  |(have q := HC1; clear q; go_at_call 52; refine HC1.out.mono ?_; rintro e w2 ⟨rfl, q2⟩; have r2 := q2.box R1.out (by omega) (by decide); have R2 := hid r2; have Q2 := hid (Q1.out.trans q2); have HP2 := hid (put_one B b _ [44, 32] w2 Q2.out.is (by simp; omega) (Nat.le_trans hB Q2.out.low.size)); clear q2 r2 HC1 Q1 R1 c1)
  |(have q := HP2; clear q; go_at_call 71; refine HP2.out.mono ?_; rintro e w3 ⟨rfl, q3⟩; have r3 := q3.box R2.out (by omega) (by decide); have c3 := fun j => cell_row r3 j; have R3 := hid r3; have Q3 := hid (Q2.out.trans q3); have HC2 := hid (HOB.out _ w3 Q3.out.is (Nat.le_trans hB Q3.out.low.size) (HTB.out.low Q3.out.low h3) (by simp; omega)); clear q3 r3 HP2 Q2 R2)
  |(have q := HC2; clear q; go_at_call 52; refine HC2.out.mono ?_; rintro e w4 ⟨rfl, q4⟩; have r4 := q4.box R3.out (by omega) (by decide); have R4 := hid r4; have Q4 := hid (Q3.out.trans q4); have HP3 := hid (put_one B b _ [44, 32] w4 Q4.out.is (by simp; omega) (Nat.le_trans hB Q4.out.low.size)); clear q4 r4 HC2 Q3 R3 c3)
  |(have q := HP3; clear q; go_at_call 71; refine HP3.out.mono ?_; rintro e w5 ⟨rfl, q5⟩; have r5 := q5.box R4.out (by omega) (by decide); have c5 := fun j => cell_row r5 j; have R5 := hid r5; have Q5 := hid (Q4.out.trans q5); have HC3 := hid (HOD.out _ w5 Q5.out.is (Nat.le_trans hB Q5.out.low.size) (HTB.out.low Q5.out.low h3) (by simp; omega)); clear q5 r5 HP3 Q4 R4)
  |(have q := HC3; clear q; go_at_call 52; refine HC3.out.mono ?_; rintro e w6 ⟨rfl, q6⟩; have Q6 := hid (Q5.out.trans q6); have HP4 := hid (put_one B b _ [41] w6 Q6.out.is (by simp; omega) (Nat.le_trans hB Q6.out.low.size)); clear q6 HC3 Q5 c5 R5)
  |(have q := HP4; clear q; go_at_call 71; refine HP4.out.mono ?_; rintro e w7 ⟨rfl, q7⟩; have Q7 := hid (Q6.out.trans q7); clear q7 HP4 Q6))
 go_end0
 have R := Q7.out
 simp only [List.append_assoc] at R
 exact ⟨rfl, R⟩

end Go.Proofs.YtdkboifpdodonacGreatDoor
/-
 The landed writer of formulas: a quantifier's variables; every tree.
-/
namespace Go.Proofs.YtdkboifpdodonacGreatDoor
open Go.RowKit Go.Deep PureCnf PureForm
set_option maxRecDepth 100000

set_option maxHeartbeats 2000000 in
theorem bound_in (o n : Int) (ho : o = 4 ∨ o = 5) (h0 : 0 ≤ n) (h1 : n < 65536) (n2 : Int) (a : Tr) (HA : BoundC o n2 a) : BoundC o n (.un (o, n2) a) := by
 intro B b T w hw hB h3 hT hlen
 have HX : Hid (boundX o n (.un (o, n2) a) = (varI n).1 ++ ([44, 32] ++ boundX o n2 a)) := by
  show _ = _
  unfold boundX
  have hq : isQ o = true := by rcases ho with rfl | rfl <;> rfl
  (first | rw [Tr.its_un, if_pos (by exact hq), if_pos (by rfl)] | rw [Tr.its_bi, if_pos (by exact hq), if_pos (by rfl)] | rw [Tr.its_te, if_pos (by exact hq), if_pos (by rfl)] | rw [Tr.its_lf, if_pos (by exact hq), if_pos (by rfl)])
  simp [textOf, commaI]
 rw [HX.out] at hlen ⊢
 simp only [List.length_append, List.length_cons, List.length_nil] at hlen
 obtain ⟨k, u, e⟩ := tv_form a
 have e1 : tv (.un (o, n2) a) = .iface 92 (.agg #[.int .i64 o, .int .i64 n2, .iface k u]) := by (first | rw [tv_un, if_neg (by simp; omega), e] | rw [tv_bi, if_neg (by simp; omega), e] | rw [tv_te, if_neg (by simp; omega), e] | rw [tv_lf, if_neg (by simp; omega), e])
 rw [e1]
 obtain ⟨X, hX⟩ : ∃ X, X = (varI n).1 := ⟨_, rfl⟩
 obtain ⟨Y, hY⟩ : ∃ Y, Y = boundX o n2 a := ⟨_, rfl⟩
 have HO : Hid (∀ (T : List UInt8) W, IsWr B b T W → B ≤ W.heap.size → Tab W → T.length + Y.length ≤ 140737488355328 → Calls Tryz.prog 91 #[.pointer (some ⟨b, 0, none⟩), .agg #[.int .i64 o, .int .i64 n2, .iface k u]] W fun e w' => e = .returned (.tuple #[]) ∧ Wrote B b T Y W w') := fun T W h1 h2 h4 h5 => by
  rw [hY] at h5
  have := HA B b T W h1 h2 h3 h4 h5
  rwa [e, ← hY] at this
 rw [← hX, ← hY] at hlen ⊢
 have m1 := fun x W => ta92_hit (.agg #[.int .i64 o, .int .i64 n2, .iface k u]) x W
 obtain ⟨WA, hWA⟩ : ∃ WA, WA = w.alloc (Obj.cells #[.int .i64 o, .int .i64 n, .iface 92 (.agg #[.int .i64 o, .int .i64 n2, .iface k u])] 92) := ⟨_, rfl⟩
 have hBA : Below w.heap.size w WA := by rw [hWA]; exact below_box _ _
 have r0 : WA.heap[w.heap.size]? = some (.cells #[.int .i64 o, .int .i64 n, .iface 92 (.agg #[.int .i64 o, .int .i64 n2, .iface k u])] 92 (0, 0)) := by rw [hWA]; exact heap_alloc_new w _
 have c0 := fun j => cell_row r0 j
 have HNM := hid (name_any n h0 h1 WA (hT.below hBA))
 rw [← hX] at HNM
 have hbl := hw.lt
 have HR0 := hid r0
 have HBA := hid hBA
 have HWA := hid hWA
 have HTB := hid hT
 have HW := hid hw
 clear hWA hBA r0 hT hw hX hY HX HA e e1 ho h0 h1
 go_enter Tryz.func91, Tryz.ntmps91
 go_wp2_with (first
  |(have q := HX4; clear q; rw [← HX4.out]; clear HX4)
  |(rw [← HWA.out])
  |(go_at_call 89; refine HNM.out.mono ?_; rintro e w1 ⟨rfl, b1⟩; have B1 := hid (HBA.out.trans (b1.mono HBA.out.size)); have q1 := (b1.block _ (Array.getElem?_eq_some_iff.1 HR0.out).1).trans HR0.out; have R1 := hid q1; have HP1 := hid (put_one B b T X w1 (HW.out.on B1.out) (by omega) (Nat.le_trans hB B1.out.size)); clear b1 q1 HNM)
  |(have q := HP1; clear q; go_at_call 71; refine HP1.out.mono ?_; rintro e w2 ⟨rfl, q2⟩; have r2 := q2.box R1.out (by omega) (by decide); have c2 := fun j => cell_row r2 j; have Q2 := hid (Wrote.grow B1.out hB q2)
    obtain ⟨X4, hX4⟩ : ∃ X4, X4 = w2.alloc (Obj.cells #[Value.int .i64 o, Value.int .i64 n2, Value.iface k u] 92) := ⟨_, rfl⟩
    have b4 : Below w2.heap.size w2 X4 := (by rw [hX4]; exact (Below.refl _ _).alloc (Nat.le_refl _) _)
    have r4 : X4.heap[w2.heap.size]? = some (.cells #[Value.int .i64 o, Value.int .i64 n2, Value.iface k u] 92 (0, 0)) := (by rw [hX4]; exact heap_alloc_new w2 _)
    have c4 := fun j => cell_row r4 j
    have r5 := (b4.block _ (Array.getElem?_eq_some_iff.1 r2).1).trans r2
    have c5 := fun j => cell_row r5 j
    have hb2 : b < w2.heap.size := Q2.out.is.lt
    have R4 := hid r4
    have B4 := hid b4
    have HP2 := hid (put_one B b (T ++ X) [44, 32] X4 (Q2.out.is.on b4) (by simp; omega) (Nat.le_trans (Nat.le_trans hB Q2.out.low.size) b4.size))
    have HX4 := hid hX4
    clear q2 r2 HP1 hX4 b4 r4 r5)
  |(have q := HP2; clear q; go_at_call 71; refine HP2.out.mono ?_; rintro e w5 ⟨rfl, q5⟩; have r6 := q5.box R4.out (by omega) (by decide); have c6 := fun j => cell_row r6 j; have Q5 := hid (Q2.out.trans (Wrote.grow B4.out (Nat.le_trans hB Q2.out.low.size) q5)); have HC := hid (HO.out _ w5 Q5.out.is (Nat.le_trans hB Q5.out.low.size) (HTB.out.low Q5.out.low h3) (by simp; omega)); clear q5 r6 HP2)
  |(go_at_call 91; refine HC.out.mono ?_; rintro e w6 ⟨rfl, q6⟩; have Q6 := hid (Q5.out.trans q6); clear q6))
 have R := Q6.out
 rw [List.append_assoc] at R
 exact bodyPost_ret (results_none rfl _ _ _) rfl ⟨rfl, R⟩

/-- what the assertion finds of an operand: its kind's number, and whether it is a quantifier. -/
theorem ta92_any (a : Tr) (o : Int) (hg : a.good) (hr : a.root.1 ≠ o) : ∃ (v0 v1 : Int) (v2 : Value) (y : Bool), (∀ x W, (Instr.typeAssert (tv a) x 92 true).run Tryz.prog W = .ok (.tuple #[.agg #[.int .i64 v0, .int .i64 v1, v2], .bool y]) W) ∧ (y && (v0 == o)) = false ∧ (v2 = .nilIface ∨ ∃ k u, v2 = .iface k u) := by
 cases a using Tr.cas with
 | lf x =>
  obtain ⟨q, n⟩ := x
  rcases hg with ⟨h1, _⟩ | ⟨h1, _⟩
  ·simp only at h1
   subst h1
   exact ⟨0, 0, .nilIface, false, fun x W => ta92_miss 139 (by decide) _ x W, rfl, .inl rfl⟩
  ·simp only at h1
   subst h1
   exact ⟨0, 0, .nilIface, false, fun x W => ta92_miss 141 (by decide) _ x W, rfl, .inl rfl⟩
 | un x a =>
  obtain ⟨q, n⟩ := x
  obtain ⟨hx, _⟩ := hg
  rcases hx with ⟨h1, h2⟩ | ⟨h1, _⟩
  ·simp only at h1 h2
   subst h1 h2
   exact ⟨0, 0, .nilIface, false, fun x W => ta92_miss 90 (by decide) _ x W, rfl, .inl rfl⟩
  ·have h45 : q = 4 ∨ q = 5 := by simpa [isQ] using h1
   have e1 : tv (.un (q, n) a) = .iface 92 (.agg #[.int .i64 q, .int .i64 n, tv a]) := by (first | rw [tv_un, if_neg (by simp; omega)] | rw [tv_bi, if_neg (by simp; omega)] | rw [tv_te, if_neg (by simp; omega)] | rw [tv_lf, if_neg (by simp; omega)])
   rw [e1]
   exact ⟨q, n, tv a, true, fun x W => ta92_hit _ x W, by have : q ≠ o := hr; simp [this], .inr (tv_form a)⟩
 | bi x a b => exact ⟨0, 0, .nilIface, false, fun x W => ta92_miss 94 (by decide) _ x W, rfl, .inl rfl⟩
 | te x a b c => exact ⟨0, 0, .nilIface, false, fun x W => ta92_miss 96 (by decide) _ x W, rfl, .inl rfl⟩
set_option maxHeartbeats 2000000 in
theorem bound_out (o n : Int) (ho : o = 4 ∨ o = 5) (h0 : 0 ≤ n) (h1 : n < 65536) (a : Tr) (hg : a.good) (hr : a.root.1 ≠ o) (HA : OperC a) : BoundC o n a := by
 intro B b T w hw hB h3 hT hlen
 have HX : Hid (boundX o n a = (varI n).1 ++ ([58, 32] ++ operX a 0 false)) := by
  show _ = _
  unfold boundX operX
  rw [its_sep a o (by omega) hr, brk_zero]
  simp [textOf, colonI, wrapI]
 rw [HX.out] at hlen ⊢
 simp only [List.length_append, List.length_cons, List.length_nil] at hlen
 obtain ⟨v0, v1, v2, y, m1, hy, hv2⟩ := ta92_any a o hg hr
 obtain ⟨k, u, e⟩ := tv_form a
 obtain ⟨X, hX⟩ : ∃ X, X = (varI n).1 := ⟨_, rfl⟩
 obtain ⟨Y, hY⟩ : ∃ Y, Y = operX a 0 false := ⟨_, rfl⟩
 have HO : Hid (∀ (T : List UInt8) W, IsWr B b T W → B ≤ W.heap.size → Tab W → T.length + Y.length ≤ 140737488355328 → Calls Tryz.prog 52 #[.pointer (some ⟨b, 0, none⟩), .iface k u, spotV 0 false] W fun e w' => e = .returned (.tuple #[]) ∧ Wrote B b T Y W w') := fun T W h1 h2 h4 h5 => by
  rw [hY] at h5
  have := HA 0 false B b T W h1 h2 h3 h4 h5
  rwa [e, ← hY] at this
 rw [← hX, ← hY] at hlen ⊢
 rw [e] at m1 ⊢
 obtain ⟨WA, hWA⟩ : ∃ WA, WA = w.alloc (Obj.cells #[.int .i64 o, .int .i64 n, .iface k u] 92) := ⟨_, rfl⟩
 have hBA : Below w.heap.size w WA := by rw [hWA]; exact below_box _ _
 have r0 : WA.heap[w.heap.size]? = some (.cells #[.int .i64 o, .int .i64 n, .iface k u] 92 (0, 0)) := by rw [hWA]; exact heap_alloc_new w _
 have c0 := fun j => cell_row r0 j
 have HNM := hid (name_any n h0 h1 WA (hT.below hBA))
 rw [← hX] at HNM
 have hbl := hw.lt
 have HR0 := hid r0
 have HBA := hid hBA
 have HWA := hid hWA
 have HTB := hid hT
 have HW := hid hw
 clear hWA hBA r0 hT hw hX hY HX HA e ho h0 h1 hg hr
 rcases hv2 with rfl | ⟨k2, u2, rfl⟩
 ·cases y
  all_goals
   (try simp only [Bool.true_and] at hy)
   go_enter Tryz.func91, Tryz.ntmps91
   go_wp2_with (first
    |(have q := HX4; clear q; rw [← HX4.out]; clear HX4)
    |(rw [← HWA.out])
    |(go_at_call 89; refine HNM.out.mono ?_; rintro e w1 ⟨rfl, b1⟩; have B1 := hid (HBA.out.trans (b1.mono HBA.out.size)); have q1 := (b1.block _ (Array.getElem?_eq_some_iff.1 HR0.out).1).trans HR0.out; have R1 := hid q1; have HP1 := hid (put_one B b T X w1 (HW.out.on B1.out) (by omega) (Nat.le_trans hB B1.out.size)); clear b1 q1 HNM)
    |(have q := HP1; clear q; go_at_call 71; refine HP1.out.mono ?_; rintro e w2 ⟨rfl, q2⟩; have r2 := q2.box R1.out (by omega) (by decide); have c2 := fun j => cell_row r2 j; have Q2 := hid (Wrote.grow B1.out hB q2)
      obtain ⟨X4, hX4⟩ : ∃ X4, X4 = w2.alloc (Obj.cells #[Value.int .i64 v0, Value.int .i64 v1, Value.nilIface] 92) := ⟨_, rfl⟩
      have b4 : Below w2.heap.size w2 X4 := (by rw [hX4]; exact (Below.refl _ _).alloc (Nat.le_refl _) _)
      have r4 : X4.heap[w2.heap.size]? = some (.cells #[Value.int .i64 v0, Value.int .i64 v1, Value.nilIface] 92 (0, 0)) := (by rw [hX4]; exact heap_alloc_new w2 _)
      have c4 := fun j => cell_row r4 j
      have r5 := (b4.block _ (Array.getElem?_eq_some_iff.1 r2).1).trans r2
      have c5 := fun j => cell_row r5 j
      have hb2 : b < w2.heap.size := Q2.out.is.lt
      have R5 := hid r5
      have B4 := hid b4
      have HP2 := hid (put_one B b (T ++ X) [58, 32] X4 (Q2.out.is.on b4) (by simp; omega) (Nat.le_trans (Nat.le_trans hB Q2.out.low.size) b4.size))
      have HX4 := hid hX4
      clear q2 r2 HP1 hX4 b4 r4 r5)
    |(have q := HP2; clear q; go_at_call 71; refine HP2.out.mono ?_; rintro e w5 ⟨rfl, q5⟩; have r6 := q5.box R5.out (by omega) (by decide); have c6 := fun j => cell_row r6 j; have Q5 := hid (Q2.out.trans (Wrote.grow B4.out (Nat.le_trans hB Q2.out.low.size) q5)); have HC := hid (HO.out _ w5 Q5.out.is (Nat.le_trans hB Q5.out.low.size) (HTB.out.low Q5.out.low h3) (by simp; omega)); clear q5 r6 HP2)
    |(go_at_call 52; refine HC.out.mono ?_; rintro e w6 ⟨rfl, q6⟩; have Q6 := hid (Q5.out.trans q6); clear q6))
   go_end0
   have R := Q6.out
   rw [List.append_assoc] at R
   exact ⟨rfl, R⟩
 ·cases y
  all_goals
   (try simp only [Bool.true_and] at hy)
   go_enter Tryz.func91, Tryz.ntmps91
   go_wp2_with (first
    |(have q := HX4; clear q; rw [← HX4.out]; clear HX4)
    |(rw [← HWA.out])
    |(go_at_call 89; refine HNM.out.mono ?_; rintro e w1 ⟨rfl, b1⟩; have B1 := hid (HBA.out.trans (b1.mono HBA.out.size)); have q1 := (b1.block _ (Array.getElem?_eq_some_iff.1 HR0.out).1).trans HR0.out; have R1 := hid q1; have HP1 := hid (put_one B b T X w1 (HW.out.on B1.out) (by omega) (Nat.le_trans hB B1.out.size)); clear b1 q1 HNM)
    |(have q := HP1; clear q; go_at_call 71; refine HP1.out.mono ?_; rintro e w2 ⟨rfl, q2⟩; have r2 := q2.box R1.out (by omega) (by decide); have c2 := fun j => cell_row r2 j; have Q2 := hid (Wrote.grow B1.out hB q2)
      obtain ⟨X4, hX4⟩ : ∃ X4, X4 = w2.alloc (Obj.cells #[Value.int .i64 v0, Value.int .i64 v1, Value.iface k2 u2] 92) := ⟨_, rfl⟩
      have b4 : Below w2.heap.size w2 X4 := (by rw [hX4]; exact (Below.refl _ _).alloc (Nat.le_refl _) _)
      have r4 : X4.heap[w2.heap.size]? = some (.cells #[Value.int .i64 v0, Value.int .i64 v1, Value.iface k2 u2] 92 (0, 0)) := (by rw [hX4]; exact heap_alloc_new w2 _)
      have c4 := fun j => cell_row r4 j
      have r5 := (b4.block _ (Array.getElem?_eq_some_iff.1 r2).1).trans r2
      have c5 := fun j => cell_row r5 j
      have hb2 : b < w2.heap.size := Q2.out.is.lt
      have R5 := hid r5
      have B4 := hid b4
      have HP2 := hid (put_one B b (T ++ X) [58, 32] X4 (Q2.out.is.on b4) (by simp; omega) (Nat.le_trans (Nat.le_trans hB Q2.out.low.size) b4.size))
      have HX4 := hid hX4
      clear q2 r2 HP1 hX4 b4 r4 r5)
    |(have q := HP2; clear q; go_at_call 71; refine HP2.out.mono ?_; rintro e w5 ⟨rfl, q5⟩; have r6 := q5.box R5.out (by omega) (by decide); have c6 := fun j => cell_row r6 j; have Q5 := hid (Q2.out.trans (Wrote.grow B4.out (Nat.le_trans hB Q2.out.low.size) q5)); have HC := hid (HO.out _ w5 Q5.out.is (Nat.le_trans hB Q5.out.low.size) (HTB.out.low Q5.out.low h3) (by simp; omega)); clear q5 r6 HP2)
    |(go_at_call 52; refine HC.out.mono ?_; rintro e w6 ⟨rfl, q6⟩; have Q6 := hid (Q5.out.trans q6); clear q6))
   go_end0
   have R := Q6.out
   rw [List.append_assoc] at R
   exact ⟨rfl, R⟩

/-- every tree is written as the document says. -/
theorem write_all (t : Tr) : t.good → BareC t ∧ ∀ (o n : Int), (o = 4 ∨ o = 5) → 0 ≤ n → n < 65536 → BoundC o n t := by
 induction t using Tr.ind with
 | lf x =>
  obtain ⟨o, n⟩ := x
  intro ht
  have hB : BareC (.lf (o, n)) := by
   rcases ht with ⟨h1, h2⟩ | ⟨h1, h2, h3⟩
   ·simp only at h1 h2
    subst h1
    exact bare_const n h2
   ·simp only at h1 h2 h3
    subst h1
    exact bare_var n h2 h3
  refine ⟨hB, fun p m hp h0 h1 => bound_out p m hp h0 h1 _ ht ?_ (oper_any _ ht hB)⟩
  show o ≠ p
  rcases ht with ⟨h1, _⟩ | ⟨h1, _⟩ <;> simp only at h1 <;> omega
 | un x a iha =>
  obtain ⟨o, n⟩ := x
  intro ht
  obtain ⟨hx, ha⟩ := ht
  have ih := iha ha
  have ht : (Tr.un (o, n) a).good := ⟨hx, ha⟩
  rcases hx with ⟨h1, h2⟩ | ⟨h1, h2, h3⟩
  ·simp only at h1 h2
   subst h1 h2
   have hB := bare_not a (oper_any a ha ih.1)
   exact ⟨hB, fun p m hp h0 h1 => bound_out p m hp h0 h1 _ ht (show (3 : Int) ≠ p by omega) (oper_any _ ht hB)⟩
  ·have h45 : o = 4 ∨ o = 5 := by simpa [isQ] using h1
   have hb := ih.2 o n h45 h2 h3
   have hB := bare_quant o n h45 a hb
   refine ⟨hB, fun p m hp h0 h1 => ?_⟩
   by_cases hop : o = p
   ·subst hop
    exact bound_in o m hp h0 h1 n a hb
   ·exact bound_out p m hp h0 h1 _ ht hop (oper_any _ ht hB)
 | bi x a b iha ihb =>
  obtain ⟨o, n⟩ := x
  intro ht
  obtain ⟨⟨h1, h2⟩, ha, hb⟩ := ht
  have ht : (Tr.bi (o, n) a b).good := ⟨⟨h1, h2⟩, ha, hb⟩
  simp only at h1 h2
  subst h2
  have hB := bare_two o h1 a b (oper_any a ha (iha ha).1) (oper_any b hb (ihb hb).1)
  exact ⟨hB, fun p m hp h0 h3 => bound_out p m hp h0 h3 _ ht (show o ≠ p by have := of_decide_eq_true h1; omega) (oper_any _ ht hB)⟩
 | te x a b c iha ihb ihc =>
  obtain ⟨o, n⟩ := x
  intro ht
  obtain ⟨⟨h1, h2⟩, ha, hb, hc⟩ := ht
  have ht : (Tr.te (o, n) a b c).good := ⟨⟨h1, h2⟩, ha, hb, hc⟩
  simp only at h1 h2
  subst h1 h2
  have hB := bare_three a b c (oper_any a ha (iha ha).1) (oper_any b hb (ihb hb).1) (oper_any c hc (ihc hc).1)
  exact ⟨hB, fun p m hp h0 h3 => bound_out p m hp h0 h3 _ ht (show (11 : Int) ≠ p by omega) (oper_any _ ht hB)⟩

end Go.Proofs.YtdkboifpdodonacGreatDoor
/-
 The landed program's writeClauses.
-/
namespace Go.Proofs.YtdkboifpdodonacGreatDoor
open Go.RowKit Go.Deep PureCnf
set_option maxRecDepth 100000

theorem isWr_new {w : World} : IsWr w.heap.size w.heap.size [] (w.alloc (Obj.cells #[.pointer none, .slice none 0 0] 123)) :=
 .inl ⟨Nat.le_refl _, .slice none 0 0, heap_alloc_new w _, ⟨by simp [Lib.byteCells], .inl ⟨rfl, by simp [Lib.byteCells]⟩⟩, by simp [Value.ownBlock]⟩
end Go.Proofs.YtdkboifpdodonacGreatDoor
/-
 PrintCnf of the landed program.
-/
namespace Go.Proofs.YtdkboifpdodonacGreatDoor
open Go.RowKit Go.Deep PureCnf
set_option maxRecDepth 100000

theorem within_any (X : List UInt8) (w : World) (hX : X.length ≤ 2199023255552) :
  Calls Tryz.prog 33 #[str X] w fun e w' => e = .returned (.tuple #[str (if X.length ≤ 1048576 then X else []), .int .i64 (if X.length ≤ 1048576 then 0 else 5)]) ∧ w' = w := by
 by_cases h : X.length ≤ 1048576
 ·rw [if_pos h, if_pos h]
  have h2 : ¬ (1048576 : Int) < (X.length : Int) := by omega
  clear h
  go_enter Tryz.func33, Tryz.ntmps33
  go_wp2
  go_ret2
  exact ⟨rfl, rfl⟩
 ·rw [if_neg h, if_neg h]
  have h2 : (1048576 : Int) < (X.length : Int) := by omega
  clear h
  go_enter Tryz.func33, Tryz.ntmps33
  go_wp2
  go_ret2
  exact ⟨rfl, rfl⟩

end Go.Proofs.YtdkboifpdodonacGreatDoor
/-
 The landed program's write, Print.
-/
namespace Go.Proofs.YtdkboifpdodonacGreatDoor
open Go.RowKit Go.Deep PureCnf PureForm
set_option maxRecDepth 100000

theorem Tab.size {w : World} (h : Tab w) : 5 ≤ w.heap.size := by
 unfold Tab Lib.TabIs World.var? at h
 rw [show Tryz.prog.globalNamed "internal/strconv.uint64pow10" = some 4 by kernel_rfl] at h
 by_cases hs : 4 < w.heap.size
 ·omega
 ·simp only [Option.bind_some] at h
  rw [Array.getElem?_eq_none (by omega)] at h
  cases h
theorem text_some (t : Tr) (ht : t.good) : t.text ≠ [] := by
 unfold Tr.text textOf
 cases t using Tr.cas with
 | lf x =>
  obtain ⟨o, n⟩ := x
  rcases ht with ⟨h1, h2⟩ | ⟨h1, _⟩
  ·simp only at h1 h2
   subst h1
   rcases h2 with rfl | rfl <;> simp [Tr.its_lf, Tr.its_un, Tr.its_bi, Tr.its_te, sepI, constI]
  ·simp only at h1
   subst h1
   simp [Tr.its_lf, Tr.its_un, Tr.its_bi, Tr.its_te, sepI, varI]
 | un x a =>
  obtain ⟨o, n⟩ := x
  obtain ⟨hx, _⟩ := ht
  rcases hx with ⟨h1, _⟩ | ⟨h1, _⟩
  ·simp only at h1
   subst h1
   (first | rw [Tr.its_un, if_neg (by simp [isQ])] | rw [Tr.its_bi, if_neg (by simp [isQ])] | rw [Tr.its_te, if_neg (by simp [isQ])] | rw [Tr.its_lf, if_neg (by simp [isQ])])
   simp [sepI, notI]
  ·have h45 : o = 4 ∨ o = 5 := by simpa [isQ] using h1
   (first | rw [Tr.its_un, if_pos (by exact h1), if_neg (by simp; omega)] | rw [Tr.its_bi, if_pos (by exact h1), if_neg (by simp; omega)] | rw [Tr.its_te, if_pos (by exact h1), if_neg (by simp; omega)] | rw [Tr.its_lf, if_pos (by exact h1), if_neg (by simp; omega)])
   rcases h45 with rfl | rfl <;> simp [sepI, quantI]
 | bi x a b =>
  obtain ⟨o, n⟩ := x
  obtain ⟨⟨h1, _⟩, _⟩ := ht
  have es : (signI o).1 ≠ [] := by rcases two_cases h1 with e | e | e | e | e <;> simp only at e <;> subst e <;> decide
  (first | rw [Tr.its_un] | rw [Tr.its_bi] | rw [Tr.its_te] | rw [Tr.its_lf])
  simp [sepI, es]
 | te x a b c =>
  (first | rw [Tr.its_un] | rw [Tr.its_bi] | rw [Tr.its_te] | rw [Tr.its_lf])
  simp [sepI, iteI]
theorem oper_text (t : Tr) : operX t 0 false = t.text := by
 unfold operX
 rw [brk_zero]
 rfl

set_option maxHeartbeats 1000000 in
theorem write32 (t : Tr) (ht : t.good) (hn : t.post.length ≤ 65536) (w : World) (hT : Tab w) :
  Calls Tryz.prog 34 #[tv t] w fun e w' => e = .returned (str t.text) ∧ Below w.heap.size w w' := by
 have hlen := text_len t ht 0 true
 have hne := text_some t ht
 have h3 := hT.size
 obtain ⟨WA, hWA⟩ : ∃ WA, WA = w.alloc (Obj.cells #[.pointer none, .slice none 0 0] 123) := ⟨_, rfl⟩
 have hBA : Below w.heap.size w WA := by rw [hWA]; exact below_box _ _
 have hw0 : IsWr w.heap.size w.heap.size [] WA := by rw [hWA]; exact isWr_new
 have HO := hid (oper_any t ht (write_all t ht).1 0 false w.heap.size w.heap.size [] WA hw0 hBA.size h3 (hT.below hBA) (by rw [oper_text]; show 0 + t.text.length ≤ _; unfold Tr.text; omega))
 rw [oper_text] at HO
 obtain ⟨k, u, e⟩ := tv_form t
 rw [e] at HO ⊢
 obtain ⟨X, hX⟩ : ∃ X, X = t.text := ⟨_, rfl⟩
 rw [← hX] at HO hne ⊢
 have HNE := hid hne
 have HBA := hid hBA
 have HWA := hid hWA
 clear hX hWA hBA hw0 hT hlen hne e
 go_enter Tryz.func34, Tryz.ntmps34
 go_wp2_with (first
  |(rw [← HWA.out])
  |(go_at_call 52; refine HO.out.mono ?_; rintro e w1 ⟨rfl, q1⟩; have Q1 := hid q1; have HS := hid (string_any w.heap.size w.heap.size X w1 q1.is HNE.out); clear q1)
  |(go_at_call 53; refine HS.out.mono ?_; rintro e w2 ⟨rfl, b2⟩; have B2 := hid b2; clear b2))
 go_ret
 exact ⟨rfl, HBA.out.trans (Q1.out.low.trans B2.out)⟩

/-- what Print answers. -/
def printV (r : Except Nat (List UInt8)) : Value := match r with
 | .ok T => .tuple #[str T, .int .i64 0]
 | .error n => .tuple #[.string ⟨#[]⟩, .int .i64 (n : Int)]
def PrintCT (g : Nat) : Prop := ∀ (f : List Nd) (sa : Option Addr) (ca : Nat) (w : World), Tab w → NodesAt w sa f → f.length ≤ 9223372036854775807 →
 Calls Tryz.prog g #[.slice sa f.length ca] w fun e w' => e = .returned (printV (printF f)) ∧ Below w.heap.size w w'
set_option maxHeartbeats 1000000 in
theorem print14 : PrintCT 13 := by
 intro f sa ca w hT hf hl
 have HG := hid (grow_any f sa ca w hf hl)
 have HNO : growV f = .tuple #[.nilIface, .bool false] → printF f = .error 134 := fun h => by
  unfold growV at h
  unfold printF
  split at h
  ·next t ht =>
   rw [ht]
   by_cases hc : f.length ≤ 65536 ∧ t.need true ≤ 64
   ·rw [if_pos hc] at h
    simp at h
   ·simp only [if_neg hc]
  ·next ht => rw [ht]
 by_cases hfm : ∃ t, treeOf f = some t ∧ f.length ≤ 65536 ∧ t.need true ≤ 64
 ·obtain ⟨t, ht, hc⟩ := hfm
  obtain ⟨hg, hp⟩ := treeOf_some ht
  have eg : growV f = .tuple #[tv t, .bool true] := by unfold growV; rw [ht]; simp only [if_pos hc]
  have hlen := text_len t hg 0 true
  rw [hp] at hlen
  have HPV : Hid (printV (printF f) = .tuple #[str (if t.text.length ≤ 1048576 then t.text else []), .int .i64 (if t.text.length ≤ 1048576 then 0 else 5)]) := by
   show _ = _
   unfold printF
   rw [ht]
   simp only [if_pos hc]
   by_cases h : t.text.length ≤ 1048576
   ·simp only [if_pos h]; rfl
   ·simp only [if_neg h]; rfl
  have HWR : Hid (∀ W, Below w.heap.size w W → Calls Tryz.prog 34 #[tv t] W fun e w' => e = .returned (str t.text) ∧ Below W.heap.size W w') := fun W hW => write32 t hg (by rw [hp]; exact hc.1) W (hT.below hW)
  have HWI := fun W => hid (within_any t.text W (by unfold Tr.text; omega))
  rw [eg] at HG
  obtain ⟨k, u, e⟩ := tv_form t
  rw [e] at HG
  simp only [e] at HWR
  obtain ⟨X, hX⟩ : ∃ X, X = t.text := ⟨_, rfl⟩
  rw [← hX] at HPV
  simp only [← hX] at HWR HWI
  obtain ⟨Y, hY⟩ : ∃ Y, Y = (if X.length ≤ 1048576 then X else []) := ⟨_, rfl⟩
  obtain ⟨z, hz⟩ : ∃ z : Int, z = (if X.length ≤ 1048576 then 0 else 5) := ⟨_, rfl⟩
  simp only [← hY, ← hz] at HWI
  rw [← hY, ← hz] at HPV
  rw [HPV.out]
  clear hX hY hz hT hf eg hlen HNO ht hg hp e hc HPV
  go_enter Tryz.func13, Tryz.ntmps13
  go_wp2_with (first
   |(go_at_call 32; refine HG.out.mono ?_; rintro e w1 ⟨rfl, b1⟩; have B1 := hid b1; clear b1)
   |(go_at_call 34; refine (HWR.out _ B1.out).mono ?_; rintro e w2 ⟨rfl, b2⟩; have B2 := hid (B1.out.trans (b2.mono B1.out.size)); clear b2)
   |(go_at_call 33; refine (HWI _).out.mono ?_; rintro e w' ⟨rfl, rfl⟩))
  exact bodyPost_ret (v := .tuple #[str Y, .int .i64 z]) (by simp [results, Tryz.results13, go_sem]) rfl ⟨rfl, B2.out⟩
 ·have eg : growV f = .tuple #[.nilIface, .bool false] := by
   unfold growV
   split
   ·next t ht => rw [if_neg (fun hc => hfm ⟨t, ht, hc⟩)]
   ·rfl
  rw [HNO eg]
  rw [eg] at HG
  clear HNO eg hfm hf hT
  go_enter Tryz.func13, Tryz.ntmps13
  go_wp2_with (go_at_call 32; refine HG.out.mono ?_; rintro e w1 ⟨rfl, b1⟩; have B1 := hid b1; clear b1)
  exact bodyPost_ret (v := .tuple #[.string ⟨#[]⟩, .int .i64 134]) (by simp [results, Tryz.results13, go_sem]) rfl ⟨rfl, B1.out⟩

end Go.Proofs.YtdkboifpdodonacGreatDoor
/-
 General lemmas of the texts of formula (laid together out of P1, P4, P5, P7, T1).
-/
namespace Go.Proofs.YtdkboifpdodonacGreatDoor.Doc
open Go.RowKit Go.Deep PureCnf PureForm
set_option maxRecDepth 100000

theorem below_drewN {B : Nat} {w W : World} (h : Below B w W) (n : Nat) : Below B w (W.drewN n) := ⟨h.os, h.tape, h.output, h.size, h.block⟩
def nd (x : Nd) : List Value := [.int .i64 x.1, .int .i64 x.2]
def nds (l : List Nd) : List Value := l.flatMap nd
theorem nds_at (l : List Nd) (k j : Nat) (hk : k < l.length) (hj : j < 2) : (nds l)[k * 2 + j]? = (nd l[k])[j]? := by
 induction l generalizing k with
 | nil => simp at hk
 | cons p t ih =>
  have e : nds (p :: t) = nd p ++ nds t := by simp [nds]
  have hl : (nd p).length = 2 := rfl
  rw [e]
  cases k with
  | zero => rw [List.getElem?_append_left (by omega)]; simp
  | succ k =>
   rw [List.getElem?_append_right (by omega), hl, show (k + 1) * 2 + j - 2 = k * 2 + j by omega, ih k (by simpa using hk)]
   simp
theorem own_nodes {W : World} {B : Nat} {v : Value} {l : List Nd} (h : W.ownsRow B 44 2 v l.length (nds l)) : ∃ sa c, v = .slice sa l.length c ∧ NodesAt W sa l := by
 rcases h.2 with ⟨hv, h0⟩ | ⟨g, cap, cur, hv, hb, hg, hn, hm, hsz, ht⟩
 ·have : l = [] := List.eq_nil_of_length_eq_zero h0
  subst this
  exact ⟨none, 0, hv, ⟨fun k hk => by simp at hk⟩⟩
 ·refine ⟨_, _, hv, ⟨fun k hk => ⟨g, 0, rfl, (Array.getElem?_eq_some_iff.1 hg).1, ?_, ?_⟩⟩⟩
  all_goals rw [cell_row hg]
  all_goals
   have one : ∀ j, j < 2 → cur[0 + k * 2 + j]? = (nd l[k])[j]? := fun j hj => by
    rw [Nat.zero_add, ← nds_at l k j hk hj, ← ht, List.getElem?_take_of_lt (by omega)]; simp
  ·exact one 0 (by omega)
  ·exact one 1 (by omega)
set_option maxHeartbeats 1000000 in
set_option maxRecDepth 100000 in
theorem same_true (l : List Nd) (sa sb : Option Addr) (ca cb : Nat) (w : World) (hl : l.length ≤ 8796093022208) (ha : NodesAt w sa l) (hb : NodesAt w sb l) :
  Calls Tryz.prog 9 #[.slice sa l.length ca, .slice sb l.length cb] w fun e w' => e = .returned (.bool true) ∧ Below w.heap.size w w' := by
 have HA := hid ha
 have HB := hid hb
 clear ha hb
 go_enter Tryz.func9, Tryz.ntmps9
 go_wp2
 go_loopw [5] (fun iv W => ∃ k : Nat, k ≤ l.length ∧ iv = .int .i64 (k : Int) ∧ Hid (Below w.heap.size w W)) (fun iv _ => l.length - (intOf iv).toNat)
 case atStart => exact ⟨0, Nat.zero_le _, rfl, Below.refl _ _⟩
 case round =>
  obtain ⟨k, hk, rfl, HW⟩ := hrel
  by_cases hlt : k < l.length
  ·obtain ⟨ga, oa, rfl, hga, a0, a1⟩ := HA.out.at_ k hlt
   obtain ⟨gb, ob, rfl, hgb, b0, b1⟩ := HB.out.at_ k hlt
   have p0 := below_cell HW.out hga a0
   have p1 := below_cell HW.out hga a1
   have q0 := below_cell HW.out hgb b0
   have q1 := below_cell HW.out hgb b1
   clear a0 a1 b0 b1
   obtain ⟨x, hx⟩ : ∃ x, x = l[k].1 := ⟨_, rfl⟩
   obtain ⟨y, hy⟩ : ∃ y, y = l[k].2 := ⟨_, rfl⟩
   rw [← hx] at p0 q0
   rw [← hy] at p1 q1
   clear hx hy
   go_wp2
   go_quiet (fail)
   go_wp2
   exact ⟨⟨k + 1, hlt, by go_num, below_drewN HW.out _⟩, by simp [intOf]; omega⟩
  ·go_wp2
   go_ret
   exact ⟨rfl, HW.out⟩
end Go.Proofs.YtdkboifpdodonacGreatDoor.Doc
/-
 Lists of numbers in memory; the law's sameInts, sameCnf.
-/
namespace Go.Proofs.YtdkboifpdodonacGreatDoor
open Go.RowKit Go.Deep PureCnf
set_option maxRecDepth 100000

/-- numbers that can be read there. -/
structure IntsAt (w : World) (sa : Option Addr) (l : List Int) : Prop where
 at_ : ∀ k (hk : k < l.length), ∃ a, sa = some a ∧ a.block < w.heap.size ∧ w.cell? (a.add k) = some (.int .i64 l[k])
 wf : ∀ k (hk : k < l.length), -9223372036854775808 ≤ l[k] ∧ l[k] ≤ 9223372036854775807
theorem add_block (a : Addr) (j : Nat) : (a.add j).block = a.block := by unfold Addr.add; split <;> rfl
theorem IntsAt.below {w W : World} {sa : Option Addr} {l : List Int} (h : IntsAt w sa l) (hW : Below w.heap.size w W) : IntsAt W sa l :=
 ⟨fun k hk => by
  obtain ⟨a, e, hb, c⟩ := h.at_ k hk
  exact ⟨a, e, Nat.lt_of_lt_of_le hb hW.size, (hW.cell (by rw [add_block]; exact hb)).trans c⟩, h.wf⟩
/-- clauses, as a value. -/
abbrev cnfV (V : Int) (se : Option Addr) (ne ce : Nat) (sl : Option Addr) (nl cl : Nat) : Value := .agg #[.int .i64 V, .slice se ne ce, .slice sl nl cl]
/-- what a box of clauses holds. -/
structure CnfBox (w : World) (V : Int) (E L : List Int) (se sl : Option Addr) (ce cl : Nat) (b : Nat) : Prop where
 c0 : w.cell? ⟨b, 0, none⟩ = some (.int .i64 V)
 c1 : w.cell? ⟨b, 1, none⟩ = some (.slice se E.length ce)
 c2 : w.cell? ⟨b, 2, none⟩ = some (.slice sl L.length cl)
set_option maxHeartbeats 1000000 in
theorem sameInts_true (l : List Int) (sa sb : Option Addr) (ca cb : Nat) (w : World) (hn : l.length ≤ 9223372036854775807) (hA : IntsAt w sa l) (hB : IntsAt w sb l) :
  Calls Tryz.prog 31 #[.slice sa l.length ca, .slice sb l.length cb] w fun e w' => e = .returned (.bool true) ∧ ∃ n, w' = w.drewN n := by
 have HA := hid hA
 have HB := hid hB
 clear hA hB
 go_enter Tryz.func31, Tryz.ntmps31
 go_wp2
 go_loopw [5] (fun i W => ∃ k n : Nat, k ≤ l.length ∧ i = .int .i64 k ∧ W = w.drewN n) (fun i _ => l.length - (intOf i).toNat)
 case atStart => exact ⟨0, 0, Nat.zero_le _, rfl, rfl⟩
 case round =>
  obtain ⟨k, n, hk, rfl, rfl⟩ := hrel
  by_cases hlt : k < l.length
  ·obtain ⟨a, rfl, ha, ca1⟩ := HA.out.at_ k hlt
   obtain ⟨b, rfl, hb, cb1⟩ := HB.out.at_ k hlt
   have f1 : (l[k] != l[k]) = false := by simp
   go_wp2
   go_quiet (fail)
   go_wp2
   exact ⟨⟨k + 1, _, hlt, by go_num, rfl⟩, by simp [intOf]; omega⟩
  ·go_wp2
   go_ret
   exact ⟨rfl, _, rfl⟩
theorem IntsAt.drewN {w : World} {sa : Option Addr} {l : List Int} (h : IntsAt w sa l) (n : Nat) : IntsAt (w.drewN n) sa l := ⟨h.at_, h.wf⟩
set_option maxHeartbeats 1000000 in
theorem sameCnf_true (V : Int) (E L : List Int) (se sl se' sl' : Option Addr) (ce cl ce' cl' : Nat) (w : World) (hnE : E.length ≤ 9223372036854775807) (hnL : L.length ≤ 9223372036854775807) (hE : IntsAt w se E) (hL : IntsAt w sl L) (hE' : IntsAt w se' E) (hL' : IntsAt w sl' L) :
  Calls Tryz.prog 10 #[cnfV V se E.length ce sl L.length cl, cnfV V se' E.length ce' sl' L.length cl'] w fun e w' => e = .returned (.bool true) ∧ Below w.heap.size w w' := by
 obtain ⟨w1, hw1⟩ : ∃ w1, w1 = w.alloc (Obj.cells #[.int .i64 V, .slice se E.length ce, .slice sl L.length cl] 33 (0, 0)) := ⟨_, rfl⟩
 obtain ⟨w2, hw2⟩ : ∃ w2, w2 = w1.alloc (Obj.cells #[.int .i64 V, .slice se' E.length ce', .slice sl' L.length cl'] 33 (0, 0)) := ⟨_, rfl⟩
 have HB : Hid (Below w.heap.size w w2) := by rw [hw2, hw1]; exact ((Below.refl _ _).alloc (Nat.le_refl _) _).alloc (by simp) _
 have hz : w1.heap.size = w.heap.size + 1 := by rw [hw1]; simp
 have hb1 : CnfBox w2 V E L se sl ce cl w.heap.size := by rw [hw2, hw1]; exact ⟨by simp, by simp, by simp⟩
 have hb2 : CnfBox w2 V E L se' sl' ce' cl' (w.heap.size + 1) := by rw [← hz, hw2]; exact ⟨by simp, by simp, by simp⟩
 obtain ⟨c0, c1, c2⟩ := hb1
 obtain ⟨d0, d1, d2⟩ := hb2
 have S1 := hid (fun n => sameInts_true E se se' ce ce' (w2.drewN n) hnE ((hE.below HB.out).drewN n) ((hE'.below HB.out).drewN n))
 have S2 := hid (fun n => sameInts_true L sl sl' cl cl' (w2.drewN n) hnL ((hL.below HB.out).drewN n) ((hL'.below HB.out).drewN n))
 have H1 := hid hw1
 have H2 := hid hw2
 have HZ := hid hz
 clear hE hL hE' hL' hw1 hw2
 go_enter Tryz.func10, Tryz.ntmps10
 go_wp2_with (first | (rw [← H2.out]) | (rw [← H1.out]))
 refine (S1.out 0).mono ?_
 rintro e w3 ⟨rfl, n, rfl⟩
 go_wp2_with fail
 refine (S2.out _).mono ?_
 rintro e w4 ⟨rfl, m, rfl⟩
 go_wp2
 go_ret
 exact ⟨rfl, ⟨HB.out.os, HB.out.tape, HB.out.output, HB.out.size, HB.out.block⟩⟩
def ci (l : List Int) : List Value := l.map fun x => Value.int .i64 x
theorem IntsAt.store {W : World} {b : Nat} {sa : Option Addr} {l : List Int} (h : IntsAt W sa l) (hne : ∀ a, sa = some a → a.block ≠ b) (i : Nat) (v : Value) : IntsAt (W.setCell ⟨b, i, none⟩ v) sa l :=
 ⟨fun k hk => by
  obtain ⟨a, e, hb, c⟩ := h.at_ k hk
  refine ⟨a, e, by simpa [World.setCell] using hb, ?_⟩
  rw [← c]
  exact World.cell?_of_block (Below.heap_setCell W _ _ _ (by rw [add_block]; exact hne a e)), h.wf⟩
end Go.Proofs.YtdkboifpdodonacGreatDoor
/-
 The head of clauses' text: plain mathematics.
-/
namespace PureCnf

/-- behind the word ahead of i. -/
def prevEnd (l : List Piece) (i : Nat) : Nat := match l[i - 1]? with
 | some p => p.at_ + p.w.length
 | none => 0
def lineOf (l : List Piece) (i : Nat) : Nat := match l[i]? with
 | some p => p.line
 | none => 0
def numOf (l : List Piece) (i : Nat) : Int := match l[i]? with
 | some p => numB p.w 2147483647
 | none => 0
/-- the fault of the head's word i: its code and place. -/
def headStep (l : List Piece) (i : Nat) : Option (Int × Nat) := match l[i]? with
 | none => some (135, prevEnd l i)
 | some p =>
  if p.line ≠ lineOf l 0 then some (135, prevEnd l i)
  else if (i = 0 ∧ p.w ≠ [112]) ∨ (i = 1 ∧ p.w ≠ [99, 110, 102]) then some (135, p.at_)
  else if i < 2 then none
  else if numB p.w 2147483647 < 0 then some (133, p.at_)
  else if 65536 < numB p.w 2147483647 then some (8, p.at_)
  else none
/-- the fault from word i on. -/
def headFrom (l : List Piece) : Nat → Nat → Option (Int × Nat)
 | 0, _ => match l[4]? with
  | some p => if p.line = lineOf l 0 then some (135, p.at_) else none
  | none => none
 | d + 1, i => match headStep l i with
  | some f => some f
  | none => headFrom l d (i + 1)
/-- the head: a fault, or none. -/
def headN (n : Nat) (l : List Piece) : Option (Int × Nat) := if l = [] then some (135, n) else headFrom l 4 0
end PureCnf
/-
 Clauses' text read: plain mathematics.
-/
namespace PureCnf

/-! ### where pieces lie -/
theorem words_in (l : List UInt8) (e line : Nat) (k : Nat) : ∀ p ∈ wordsFrom l e line k, p.at_ + p.w.length ≤ e := by
 generalize hd : e - k = d
 induction d using Nat.strongRecOn generalizing k with
 | _ d ih =>
  intro p hp
  rw [wordsFrom_eq] at hp
  split at hp
  ·next h =>
   have h1 := runW_ge whB l (runW inkB l k e) e
   have h2 := runW_le (p := inkB) (l := l) (i := k) (e := e) (by omega)
   rcases List.mem_cons.1 hp with rfl | hp
   ·simp only [List.length_drop, List.length_take]; omega
   ·exact ih (e - runW whB l (runW inkB l k e) e) (by omega) _ rfl p hp
  ·simp at hp
theorem lineWords_in {l : List UInt8} {i e line : Nat} : ∀ p ∈ lineWords l i e line, p.at_ + p.w.length ≤ e := by
 intro p hp
 unfold lineWords at hp
 split at hp
 ·simp at hp
 ·exact words_in l e line _ p hp
theorem pieces_in (l : List UInt8) (i line : Nat) : ∀ p ∈ piecesFrom l i line, p.at_ + p.w.length ≤ l.length := by
 generalize hd : l.length - i = d
 induction d using Nat.strongRecOn generalizing i line with
 | _ d ih =>
  intro p hp
  rw [piecesFrom_eq] at hp
  split at hp
  ·next h =>
   have h1 := runW_ge lineB l i l.length
   have h2 := runW_le (p := lineB) (l := l) (i := i) (e := l.length) (by omega)
   rcases List.mem_append.1 hp with hp | hp
   ·have := lineWords_in p hp; omega
   ·exact ih (l.length - (runW lineB l i l.length + 1)) (by omega) _ _ rfl p hp
  ·simp at hp
theorem lineWords_count {l : List UInt8} {i e line : Nat} : (lineWords l i e line).length ≤ e - i := by
 unfold lineWords
 split
 ·simp
 ·have := wordsFrom_count l e line (runW whB l i e)
  have := runW_ge whB l i e
  omega
theorem pieces_count (l : List UInt8) (i line : Nat) : (piecesFrom l i line).length ≤ l.length - i := by
 generalize hd : l.length - i = d
 induction d using Nat.strongRecOn generalizing i line with
 | _ d ih =>
  rw [piecesFrom_eq]
  split
  ·next h =>
   have h1 := runW_ge lineB l i l.length
   have h2 := runW_le (p := lineB) (l := l) (i := i) (e := l.length) (by omega)
   have h3 := lineWords_count (l := l) (i := i) (e := runW lineB l i l.length) (line := line)
   have h4 := ih (l.length - (runW lineB l i l.length + 1)) (by omega) (runW lineB l i l.length + 1) (line + 1) rfl
   rw [List.length_append]
   omega
  ·simp

/-! ### literals -/
/-- of a word: the literal, 0 if it is none. -/
def litNum (l : List UInt8) : Int := if l.head? = some 45 then (if 0 < numB l.tail 2147483647 then -numB l.tail 2147483647 else 0) else (if 0 ≤ numB l 2147483647 then numB l 2147483647 else 0)
def litFine (l : List UInt8) : Bool := if l.head? = some 45 then decide (0 < numB l.tail 2147483647) else decide (0 ≤ numB l 2147483647)

/-- the words behind the head: a fault with its place, or the clauses. -/
def bodyRun (n : Nat) (V C : Int) : List Piece → List Int → List Int → Bool → Except (Int × Nat) (List Int × List Int)
 | [], E, L, op => if op = true ∨ (E.length : Int) < C then .error (135, n) else .ok (E, L)
 | p :: t, E, L, _ =>
  if (E.length : Int) = C then .error (135, p.at_)
  else if litFine p.w = false then .error (133, p.at_)
  else if V < litNum p.w ∨ litNum p.w < -V then .error (3, p.at_)
  else if litNum p.w = 0 then bodyRun n V C t (E ++ [(L.length : Int)]) L false
  else if L.length = 1048576 then .error (8, p.at_)
  else bodyRun n V C t E (L ++ [litNum p.w]) true

/-- of a text: a fault (its code, its place), or the clauses. -/
def parseN (l : List UInt8) : Except (Int × Option Nat) (Int × List Int × List Int) :=
 if 1048576 < l.length then .error (5, none)
 else match headN l.length (piecesFrom l 0 0) with
  | some f => .error (f.1, some f.2)
  | none => match bodyRun l.length (numOf (piecesFrom l 0 0) 2) (numOf (piecesFrom l 0 0) 3) ((piecesFrom l 0 0).drop 4) [] [] false with
   | .error f => .error (f.1, some f.2)
   | .ok x => .ok (numOf (piecesFrom l 0 0) 2, x.1, x.2)
end PureCnf
/-
 What reading clauses stands on.
-/
namespace Go.Proofs.YtdkboifpdodonacGreatDoor
open Go.RowKit Go.Deep PureCnf
set_option maxRecDepth 100000

theorem list_at (s : ByteArray) (k : Nat) (h : k < s.size) : s.data.toList[k]'(by simpa using h) = s[k] := rfl

/-- the place behind these bytes: line and column. -/
def spotN (l : List UInt8) : Nat × Nat := l.foldl (fun p c => if c.toNat = 10 then (p.1 + 1, 1) else (p.1, p.2 + 1)) (1, 1)

theorem spotN_snoc (l : List UInt8) (c : UInt8) : spotN (l ++ [c]) = if c.toNat = 10 then ((spotN l).1 + 1, 1) else ((spotN l).1, (spotN l).2 + 1) := by simp [spotN, List.foldl_append]

theorem spotN_le (l : List UInt8) : (spotN l).1 ≤ l.length + 1 ∧ (spotN l).2 ≤ l.length + 1 := by
 have e : ∀ m : List UInt8, (spotN m.reverse).1 ≤ m.length + 1 ∧ (spotN m.reverse).2 ≤ m.length + 1 := by
  intro m
  induction m with
  | nil => simp [spotN]
  | cons c t ih =>
   rw [List.reverse_cons, spotN_snoc]
   split <;> simp <;> omega
 have := e l.reverse
 simpa using this

/-- of a word: the literal, 0 if it is none. -/
def litN (l : List UInt8) : Int := if l.head? = some 45 then (if 0 < numB l.tail 2147483647 then -numB l.tail 2147483647 else 0) else (if 0 ≤ numB l 2147483647 then numB l 2147483647 else 0)


def faultV (e : Int) (p : Nat × Nat) : Value := .agg #[.int .i64 e, .int .i64 (p.1 : Int), .int .i64 (p.2 : Int)]

theorem ci_append (a b : List Int) : ci (a ++ b) = ci a ++ ci b := by simp [ci]

theorem run_append_int (w : World) (base : Nat) (ty : TypeId) (v : Value) (l : List Int) (hown : w.ownsRow base 3 1 v l.length (ci l)) (ad : Addr) (x : Int) (hu : w.cell? ad = some (.int .i64 x)) (hn : l.length ≤ 1099511627776) (hbase : base ≤ w.heap.size) :
  ∃ v' w', (Builtin.append_ #[31, 31] ty #[v, .slice (some ad) 1 1]).run Tryz.prog w = .ok v' w' ∧ w'.ownsRow base 3 1 v' (l ++ [x]).length (ci (l ++ [x])) ∧ w.grownBy w' v.ownBlock ∧ (v'.ownBlock = v.ownBlock ∨ v'.ownBlock = some w.heap.size) := by
 obtain ⟨i, hi, hz0, hz1, hz2⟩ := info_parts info3
 have hnews : ∀ j y, [Value.int .i64 x][j]? = some y → w.cell? (ad.add j) = some y := by
  intro j y hy
  cases j with
  | zero => simp at hy; subst hy; simpa [Addr.add] using hu
  | succ j => simp at hy
 have h1' : ∀ y ∈ [Value.int .i64 x], y.oneCell' = true := by intro y hy; simp at hy; subst hy; rfl
 obtain ⟨v', w', hr, ho, hg, hnil⟩ := run_append_own (P := Tryz.prog) w base 31 ty 3 i (.int .i64 0) 1 8 Tryz.underlying31 hi hz0 hz1 hz2 rfl (by decide) v l.length (ci l) hown ad 1 1 [.int .i64 x] rfl hnews h1' (by unfold maxLen; omega) (by omega) hbase
 refine ⟨v', w', hr, ?_, hg, ?_⟩
 ·rw [ci_append, List.length_append]
  exact ho
 ·rcases hown.2 with ⟨rfl, h0⟩ | ⟨g, cap, cur, rfl, hbg, hgg, hnc, hcm, hcs, htake⟩
  ·have hx : l = [] := List.eq_nil_of_length_eq_zero h0
   subst hx
   have hr' := run_append_nil (P := Tryz.prog) w 31 ty 3 i (.int .i64 0) Tryz.underlying31 hi hz0 ad 1 1 [.int .i64 x] (by rw [hz1]; rfl) hnews (by omega) (by omega) (by rw [hz2]; omega)
   have e : (Builtin.append_ #[31, 31] ty #[.slice none 0 0, .slice (some ad) 1 1]).run Tryz.prog w = .ok v' w' := hr
   rw [e] at hr'
   simp only [Result.ok.injEq] at hr'
   right
   rw [hr'.1]
   rfl
  ·by_cases hroom : l.length + 1 ≤ cap
   ·have hr' := run_append_room (P := Tryz.prog) w 31 ty 3 i Tryz.underlying31 hi g l.length cap cur hgg ad 1 1 [.int .i64 x] (by rw [hz1]; rfl) hnews h1' hroom (by rw [hz1, hcs]; simp; omega)
    rw [hr] at hr'
    simp only [Result.ok.injEq] at hr'
    left
    rw [hr'.1]
    rfl
   ·have hr' := run_append_grow (P := Tryz.prog) w 31 ty 3 i (.int .i64 0) Tryz.underlying31 hi hz0 ⟨g, 0, none⟩ l.length cap (ci l) (by rw [hz1]; exact hown.1) (hown.cells (g := g) rfl) ad 1 1 [.int .i64 x] (by rw [hz1]; rfl) hnews (by omega) (by omega) (by rw [hz2]; exact growslice_fits (by omega) (by omega))
    rw [hr] at hr'
    simp only [Result.ok.injEq] at hr'
    right
    rw [hr'.1]
    rfl

theorem ownsRow_below {w W : World} {base e size n : Nat} {v : Value} {xs : List Value} (h : w.ownsRow base e size v n xs) (hb : Below w.heap.size w W) : W.ownsRow base e size v n xs := by
 refine ⟨h.1, ?_⟩
 rcases h.2 with hn | ⟨g, cap, cur, hv, hB, hg, rest⟩
 ·exact .inl hn
 ·exact .inr ⟨g, cap, cur, hv, hB, (hb.block g (Array.getElem?_eq_some_iff.1 hg).1).trans hg, rest⟩

theorem ownsRow_store {W : World} {base e size n b i : Nat} {v u : Value} {xs : List Value} (h : W.ownsRow base e size v n xs) (hb : b < base) : (W.setCell ⟨b, i, none⟩ u).ownsRow base e size v n xs := by
 refine ⟨h.1, ?_⟩
 rcases h.2 with hn | ⟨g, cap, cur, hv, hB, hg, rest⟩
 ·exact .inl hn
 ·exact .inr ⟨g, cap, cur, hv, hB, (Below.heap_setCell W _ _ _ (by simp; omega)).trans hg, rest⟩

theorem litNum_eq (l : List UInt8) : litNum l = litN l := rfl

theorem litN_range (l : List UInt8) : -2147483647 ≤ litN l ∧ litN l ≤ 2147483647 := by
 have h1 := numB_range l.tail 2147483647
 have h2 := numB_range l 2147483647
 unfold litN
 split <;> split <;> omega

theorem parseN_head {l : List UInt8} {f : Int × Nat} (h1 : ¬ 1048576 < l.length) (h : headN l.length (piecesFrom l 0 0) = some f) : parseN l = .error (f.1, some f.2) := by
 unfold parseN; rw [if_neg h1, h]

theorem parseN_err {l : List UInt8} {f : Int × Nat} (h1 : ¬ 1048576 < l.length) (h : headN l.length (piecesFrom l 0 0) = none) (hb : bodyRun l.length (numOf (piecesFrom l 0 0) 2) (numOf (piecesFrom l 0 0) 3) ((piecesFrom l 0 0).drop 4) [] [] false = .error f) : parseN l = .error (f.1, some f.2) := by
 unfold parseN; rw [if_neg h1, h]; simp only; rw [hb]

theorem parseN_ok {l : List UInt8} {x : List Int × List Int} (h1 : ¬ 1048576 < l.length) (h : headN l.length (piecesFrom l 0 0) = none) (hb : bodyRun l.length (numOf (piecesFrom l 0 0) 2) (numOf (piecesFrom l 0 0) 3) ((piecesFrom l 0 0).drop 4) [] [] false = .ok x) : parseN l = .ok (numOf (piecesFrom l 0 0) 2, x.1, x.2) := by
 unfold parseN; rw [if_neg h1, h]; simp only; rw [hb]

def faultOf (l : List UInt8) (f : Int × Option Nat) : Value := match f.2 with
 | some i => faultV f.1 (spotN (l.take i))
 | none => faultV f.1 (0, 0)

/-- numbers that lie from a block on. -/
structure Own (W : World) (base : Nat) (sa : Option Addr) (l : List Int) : Prop where
 ints : IntsAt W sa l
 far : ∀ a, sa = some a → base ≤ a.block

theorem Own.store {W : World} {base b i : Nat} {v : Value} {sa : Option Addr} {l : List Int} (h : Own W base sa l) (hb : b < base) : Own (W.setCell ⟨b, i, none⟩ v) base sa l :=
 ⟨h.ints.store (fun a e => by have := h.far a e; omega) i v, h.far⟩

theorem Own.mono {W : World} {base b2 : Nat} {sa : Option Addr} {l : List Int} (h : Own W base sa l) (hb : b2 ≤ base) : Own W b2 sa l := ⟨h.ints, fun a e => Nat.le_trans hb (h.far a e)⟩



/-- the two places of the results. -/
structure Res (w W : World) : Prop where
 r0 : W.heap[w.heap.size]? = some (.cells #[.int .i64 0, .slice none 0 0, .slice none 0 0] 33 (0, 0))
 r1 : W.heap[w.heap.size + 1]? = some (.cells #[.int .i64 0, .int .i64 0, .int .i64 0] 28 (0, 0))
 below : Below w.heap.size w W

theorem Res.on {w W W' : World} (h : Res w W) (hb : Below W.heap.size W W') : Res w W' :=
 ⟨(hb.block _ (Array.getElem?_eq_some_iff.1 h.r0).1).trans h.r0, (hb.block _ (Array.getElem?_eq_some_iff.1 h.r1).1).trans h.r1, h.below.trans (hb.mono h.below.size)⟩

theorem Res.size {w W : World} (h : Res w W) : w.heap.size + 2 ≤ W.heap.size := (Array.getElem?_eq_some_iff.1 h.r1).1

theorem bodyRun_wf {n : Nat} {V C : Int} (t : List Piece) : ∀ (E L : List Int) (op : Bool), (∀ y ∈ E, -9223372036854775808 ≤ y ∧ y ≤ 9223372036854775807) → (∀ y ∈ L, -9223372036854775808 ≤ y ∧ y ≤ 9223372036854775807) → L.length ≤ 1048576 → ∀ {x : List Int × List Int}, bodyRun n V C t E L op = .ok x → (∀ y ∈ x.1, -9223372036854775808 ≤ y ∧ y ≤ 9223372036854775807) ∧ (∀ y ∈ x.2, -9223372036854775808 ≤ y ∧ y ≤ 9223372036854775807) := by
 induction t with
 | nil =>
  intro E L op hE hL _ x h
  unfold bodyRun at h
  split at h
  ·cases h
  ·cases h; exact ⟨hE, hL⟩
 | cons p t ih =>
  intro E L op hE hL hn x h
  unfold bodyRun at h
  split at h
  ·cases h
  ·split at h
   ·cases h
   ·split at h
    ·cases h
    ·split at h
     ·refine ih _ _ _ (fun y hy => ?_) hL hn h
      rcases List.mem_append.1 hy with hy | hy
      ·exact hE y hy
      ·simp only [List.mem_cons, List.not_mem_nil, or_false] at hy
       subst hy
       omega
     ·split at h
      ·cases h
      ·refine ih _ _ _ hE (fun y hy => ?_) (by simp; omega) h
       rcases List.mem_append.1 hy with hy | hy
       ·exact hL y hy
       ·simp only [List.mem_cons, List.not_mem_nil, or_false] at hy
        have := litN_range p.w
        rw [hy, litNum_eq]
        omega

theorem ints_own {W : World} {base n c : Nat} {sa : Option Addr} {l : List Int} (h : W.ownsRow base 3 1 (.slice sa n c) l.length (ci l)) (hw : ∀ y ∈ l, -9223372036854775808 ≤ y ∧ y ≤ 9223372036854775807) : Own W base sa l := by
 refine ⟨⟨fun k hk => ?_, fun k hk => hw _ (List.getElem_mem hk)⟩, fun a ha => ?_⟩
 ·rcases h.2 with ⟨hv, h0⟩ | ⟨g, cap, cur, hv, hb, hg, _⟩
  ·omega
  ·simp only [Value.slice.injEq] at hv
   obtain ⟨rfl, rfl, rfl⟩ := hv
   exact ⟨_, rfl, (Array.getElem?_eq_some_iff.1 hg).1, h.cells (g := g) rfl k _ (by simp [ci, List.getElem?_eq_getElem hk])⟩
 ·subst ha
  rcases h.2 with ⟨hv, h0⟩ | ⟨g, cap, cur, hv, hb, hg, _⟩
  ·cases hv
  ·simp only [Value.slice.injEq, Option.some.injEq] at hv
   rw [hv.1]
   exact hb





end Go.Proofs.YtdkboifpdodonacGreatDoor
