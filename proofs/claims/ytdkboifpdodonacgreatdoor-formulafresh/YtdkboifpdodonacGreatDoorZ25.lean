import Derived.Test.YtdkboifpdodonacGreatDoorZ24
set_option linter.unusedSimpArgs false
/-
 The landed program's literal.
-/
namespace Go.Proofs.YtdkboifpdodonacGreatDoor
open Go.RowKit Go.Deep PureCnf
set_option maxRecDepth 100000

/-- what a word behind the head is refused with. -/
def litE (V C : Int) (E L : List Int) (X : List UInt8) : Int :=
 if (E.length : Int) = C then 135 else if litFine X = false then 133 else if V < litNum X ∨ litNum X < -V then 3 else if litNum X = 0 then 0 else if L.length = 1048576 then 8 else 0
def litEs (V C : Int) (E L : List Int) (X : List UInt8) : List Int := if litE V C E L X = 0 ∧ litNum X = 0 then E ++ [(L.length : Int)] else E
def litLs (V C : Int) (E L : List Int) (X : List UInt8) : List Int := if litE V C E L X = 0 ∧ litNum X ≠ 0 then L ++ [litNum X] else L
theorem lit_err {V C : Int} {E L : List Int} {X : List UInt8} {z : Int} (h : litE V C E L X = z) (hz : z ≠ 0) : litEs V C E L X = E ∧ litLs V C E L X = L := by
 unfold litEs litLs
 rw [h, if_neg (by simp [hz]), if_neg (by simp [hz])]
 exact ⟨rfl, rfl⟩
theorem lit_end {V C : Int} {E L : List Int} {X : List UInt8} (h : litE V C E L X = 0) (hz : litNum X = 0) : litEs V C E L X = E ++ [(L.length : Int)] ∧ litLs V C E L X = L := by
 unfold litEs litLs
 rw [h, if_pos ⟨rfl, hz⟩, if_neg (by simp [hz])]
 exact ⟨rfl, rfl⟩
theorem lit_on {V C : Int} {E L : List Int} {X : List UInt8} (h : litE V C E L X = 0) (hz : litNum X ≠ 0) : litEs V C E L X = E ∧ litLs V C E L X = L ++ [litNum X] := by
 unfold litEs litLs
 rw [h, if_neg (by simp [hz]), if_pos ⟨rfl, hz⟩]
 exact ⟨rfl, rfl⟩

theorem number_list (X : List UInt8) (w : World) (hs : X.length ≤ 1099511627776) :
  Calls Tryz.prog 79 #[str X, .int .i64 2147483647] w fun e w' => e = .returned (.tuple #[.int .i64 (numV X 2147483647), .bool (numY X 2147483647)]) ∧ Below w.heap.size w w' := number33_any ⟨X.toArray⟩ 2147483647 w (show X.toArray.size ≤ _ by simpa using hs) (by omega)
theorem cutPrefix_list (X : List UInt8) (w : World) : Calls Tryz.prog 78 #[str X, .string ⟨#[45]⟩] w fun e w' => e = .returned (.tuple #[str (bare X), .bool (decide (X.head? = some 45))]) ∧ w' = w := cutPrefix32 ⟨X.toArray⟩ w
theorem bare_le (X : List UInt8) : (bare X).length ≤ X.length := by unfold bare; split <;> simp
theorem litFine_bare (X : List UInt8) : litFine X = if X.head? = some 45 then decide (0 < numB (bare X) 2147483647) else decide (0 ≤ numB (bare X) 2147483647) := by
 unfold litFine bare
 by_cases h : X.head? = some 45
 ·rw [if_pos h, if_pos h, if_pos h]
 ·rw [if_neg h, if_neg h, if_neg h]
theorem litNum_bare (X : List UInt8) : litNum X = if X.head? = some 45 then (if 0 < numB (bare X) 2147483647 then -numB (bare X) 2147483647 else 0) else (if 0 ≤ numB (bare X) 2147483647 then numB (bare X) 2147483647 else 0) := by
 unfold litNum bare
 by_cases h : X.head? = some 45
 ·simp only [if_pos h]
 ·simp only [if_neg h]

/-- append of one number, in a region of whichever order. -/
theorem step_int {ops : Array Oper} {o : Oper} {a : Act} {w : World} {K : Act → World → Prop} {Q : Exit → Act → World → Prop} {X : Prop} (hgd : o.guard = none) (sl x : Operand)
  (ho : o.op = .call { callee := .builtin .append, args := #[sl, x], argTypes := #[31, 31] }) (B : Nat) (v : Value) (l : List Int) (y : Int) (ad : Addr) (hs : a.eval sl = v) (hown : w.ownsRow B 3 1 v l.length (ci l)) (hx : a.eval x = .slice (some ad) 1 1)
  (hu : w.cell? ad = some (.int .i64 y)) (hn : l.length ≤ 1099511627776) (hB : B ≤ w.heap.size)
  (h : ∀ v' w', w'.ownsRow B 3 1 v' (l ++ [y]).length (ci (l ++ [y])) → w.grownBy w' v.ownBlock → (v'.ownBlock = v.ownBlock ∨ v'.ownBlock = some w.heap.size) → K (a.put o.dst v') w') : if Region.wanted o (yielded ops a.tmps) = true then Oper.wp Tryz.prog o a w K Q else X := by
 have hw : Region.wanted o (yielded ops a.tmps) = true := by simp [Region.wanted, hgd]
 rw [if_pos hw]
 obtain ⟨v', w', hr, h1, h2, h3⟩ := run_append_int w B o.type v l hown ad y hu hn hB
 unfold Oper.wp execOp
 simp only [ho, resolve, invoke, builtin, Sem.run_bind, Sem.run_pure, Result.andThen_ok, List.map_toArray, List.map_cons, List.map_nil, hs, hx, hr]
 exact h v' w' h1 h2 h3
/-- append of one number, in a region of the text's order. -/
theorem app_int {ops : Array Oper} {rest : List Oper} {o : Oper} {a : Act} {Q : Exit → Act → World → Prop} {w : World} (hgd : o.guard = none) (sl x : Operand)
  (ho : o.op = .call { callee := .builtin .append, args := #[sl, x], argTypes := #[31, 31] }) (B : Nat) (v : Value) (l : List Int) (y : Int) (ad : Addr) (hs : a.eval sl = v) (hown : w.ownsRow B 3 1 v l.length (ci l)) (hx : a.eval x = .slice (some ad) 1 1)
  (hu : w.cell? ad = some (.int .i64 y)) (hn : l.length ≤ 1099511627776) (hB : B ≤ w.heap.size)
  (h : ∀ v' w', w'.ownsRow B 3 1 v' (l ++ [y]).length (ci (l ++ [y])) → w.grownBy w' v.ownBlock → (v'.ownBlock = v.ownBlock ∨ v'.ownBlock = some w.heap.size) → wpList Tryz.prog ops Q rest (a.put o.dst v') w') : wpList Tryz.prog ops Q (o :: rest) a w := by
 refine wpList_plain hgd fun K' hK' => ?_
 obtain ⟨v', w', hr, h1, h2, h3⟩ := run_append_int w B o.type v l hown ad y hu hn hB
 unfold Oper.wp
 simp [execOp, ho, resolve, invoke, builtin, hs, hx, hr, Result.andThen]
 exact hK' _ _ (h v' w' h1 h2 h3)
theorem own_shape {W : World} {B e size n : Nat} {v : Value} {xs : List Value} (h : W.ownsRow B e size v n xs) : ∃ sa c, v = .slice sa n c := by
 rcases h.2 with ⟨hv, h0⟩ | ⟨g, cap, cur, hv, _⟩
 ·exact ⟨none, 0, by rw [hv, h0]⟩
 ·exact ⟨_, _, hv⟩
theorem Cl.drew {w0 W : World} {b : Nat} {V C : Int} {E L : List Int} {ve vl : Value} {bg : Bool} (h : Cl w0 W b V E L ve vl bg C) : Cl w0 W.drew b V E L ve vl bg C := h.on (Below.refl _ _).drew
theorem Cl.rowE {w0 W : World} {b : Nat} {V C : Int} {E L : List Int} {ve vl : Value} {bg : Bool} (h : Cl w0 W b V E L ve vl bg C) {W' : World} (hg : W.grownBy W' ve.ownBlock) : W'.heap[b]? = some (.cells #[.int .i64 V, ve, vl, .bool bg, .int .i64 C] 99 (0, 0)) := by
 rw [← h.row]
 refine hg.block b h.size (fun e => ?_)
 have := (h.oe.lt b e.symm).1
 omega
theorem Cl.rowL {w0 W : World} {b : Nat} {V C : Int} {E L : List Int} {ve vl : Value} {bg : Bool} (h : Cl w0 W b V E L ve vl bg C) {W' : World} (hg : W.grownBy W' vl.ownBlock) : W'.heap[b]? = some (.cells #[.int .i64 V, ve, vl, .bool bg, .int .i64 C] 99 (0, 0)) := by
 rw [← h.row]
 refine hg.block b h.size (fun e => ?_)
 have := (h.ol.lt b e.symm).1
 omega

set_option maxHeartbeats 2000000 in
theorem literal_A {w0 W : World} {b : Nat} {V C : Int} {E L : List Int} {ve vl : Value} {bg : Bool} (h : Cl w0 W b V E L ve vl bg C) (X : List UInt8) (hC : (E.length : Int) = C) :
  Calls Tryz.prog 60 #[.pointer (some ⟨b, 0, none⟩), str X] W fun e W' => e = .returned (.int .i64 (litE V C E L X)) ∧ (∃ ve' vl', Cl w0 W' b V (litEs V C E L X) (litLs V C E L X) ve' vl' bg C) ∧ Keep b W W' := by
 have HE : Hid (litE V C E L X = 135) := by show _ = _; unfold litE; rw [if_pos hC]
 obtain ⟨⟨se, ce, rfl, hce⟩, sl, cl, rfl, hcl⟩ := h.forms
 have c0 := fun j => cell_row h.row j
 have HCL := hid h
 subst hC
 clear h
 go_enter Tryz.func60, Tryz.ntmps60
 go_wp2_with fail
 go_quiet (fail)
 go_wp2_with fail
 go_ret
 rw [HE.out]
 have hs := lit_err HE.out (by decide)
 rw [hs.1, hs.2]
 have b2 : Below W.heap.size W (W.drewN nq) := Below.drewN' (Below.refl _ _) nq
 exact ⟨rfl, ⟨_, _, HCL.out.on b2⟩, Keep.of_below b2⟩

set_option maxHeartbeats 2000000 in
set_option maxRecDepth 100000 in
theorem literal_B1 {w0 W : World} {b : Nat} {V C : Int} {E L : List Int} {ve vl : Value} {bg : Bool} (h : Cl w0 W b V E L ve vl bg C) (X : List UInt8) (hX : X.length ≤ 1099511627776) (_hV : 0 ≤ V ∧ V ≤ 65536) (_hE : E.length ≤ 1048576) (_hL : L.length ≤ 1048576)
  (hC : ¬ (E.length : Int) = C) (hn : numB (bare X) 2147483647 = -1) :
  Calls Tryz.prog 60 #[.pointer (some ⟨b, 0, none⟩), str X] W fun e W' => e = .returned (.int .i64 (litE V C E L X)) ∧ (∃ ve' vl', Cl w0 W' b V (litEs V C E L X) (litLs V C E L X) ve' vl' bg C) ∧ Keep b W W' := by
 have hf : litFine X = false := by rw [litFine_bare, hn]; split <;> rfl
 have HE : Hid (litE V C E L X = 133) := by show _ = _; unfold litE; rw [if_neg hC, if_pos hf]
 have e1 := num_no hn
 obtain ⟨⟨se, ce, rfl, hce⟩, sl, cl, rfl, hcl⟩ := h.forms
 have c0 := fun j => cell_row h.row j
 have HCL := hid h
 have hC2 : ((E.length : Int) == C) = false := by simpa using hC
 have HCP := fun W => hid (cutPrefix_list X W)
 have HNM := fun W => hid (number_list (bare X) W (by have := bare_le X; omega))
 simp only [e1.1, e1.2] at HCP HNM
 obtain ⟨Y, hY⟩ : ∃ Y, Y = bare X := ⟨_, rfl⟩
 simp only [← hY] at HCP HNM
 clear h hC hY hf hn e1
 go_enter Tryz.func60, Tryz.ntmps60
 go_wp2_with fail
 go_quiet (fail)
 go_wp2_with (go_at_call 78; refine (HCP _).out.mono ?_; rintro e w' ⟨rfl, rfl⟩)
 refine (HNM _).out.mono ?_
 rintro e w1 ⟨rfl, b1⟩
 have b2 : Below W.heap.size W w1 := (Below.drewN' (Below.refl _ _) nq).trans b1
 have cl1 := HCL.out.on b2
 have CL1 := hid cl1
 have HB2 := hid b2
 have hbs := cl1.size
 clear c0
 have c0 := fun j => cell_row cl1.row j
 have f0 := fun j => unfrozen_row cl1.row j
 have hb1 : b < w1.heap.size := by omega
 clear b1 b2 cl1 HCL
 go_wp2_with fail
 go_ret
 rw [HE.out]
 have hs := lit_err HE.out (by decide)
 rw [hs.1, hs.2]
 exact ⟨rfl, ⟨_, _, CL1.out⟩, Keep.of_below HB2.out⟩

set_option maxHeartbeats 2000000 in
set_option maxRecDepth 100000 in
theorem literal_B2 {w0 W : World} {b : Nat} {V C : Int} {E L : List Int} {ve vl : Value} {bg : Bool} (h : Cl w0 W b V E L ve vl bg C) (X : List UInt8) (hX : X.length ≤ 1099511627776) (_hV : 0 ≤ V ∧ V ≤ 65536) (_hE : E.length ≤ 1048576) (_hL : L.length ≤ 1048576)
  (hC : ¬ (E.length : Int) = C) (hn : numB (bare X) 2147483647 = 0) (hm : X.head? = some 45) :
  Calls Tryz.prog 60 #[.pointer (some ⟨b, 0, none⟩), str X] W fun e W' => e = .returned (.int .i64 (litE V C E L X)) ∧ (∃ ve' vl', Cl w0 W' b V (litEs V C E L X) (litLs V C E L X) ve' vl' bg C) ∧ Keep b W W' := by
 have hf : litFine X = false := by rw [litFine_bare, hn, if_pos hm]; rfl
 have HE : Hid (litE V C E L X = 133) := by show _ = _; unfold litE; rw [if_neg hC, if_pos hf]
 have e1 := num_yes (v := 0) hn
 obtain ⟨⟨se, ce, rfl, hce⟩, sl, cl, rfl, hcl⟩ := h.forms
 have c0 := fun j => cell_row h.row j
 have HCL := hid h
 have hC2 : ((E.length : Int) == C) = false := by simpa using hC
 have HCP := fun W => hid (cutPrefix_list X W)
 have HNM := fun W => hid (number_list (bare X) W (by have := bare_le X; omega))
 simp only [e1.1, e1.2, hm, decide_true] at HCP HNM
 obtain ⟨Y, hY⟩ : ∃ Y, Y = bare X := ⟨_, rfl⟩
 simp only [← hY] at HCP HNM
 clear h hC hY hf hn e1 hm
 go_enter Tryz.func60, Tryz.ntmps60
 go_wp2_with fail
 go_quiet (fail)
 go_wp2_with (go_at_call 78; refine (HCP _).out.mono ?_; rintro e w' ⟨rfl, rfl⟩)
 refine (HNM _).out.mono ?_
 rintro e w1 ⟨rfl, b1⟩
 have b2 : Below W.heap.size W w1 := (Below.drewN' (Below.refl _ _) nq).trans b1
 have cl1 := HCL.out.on b2
 have CL1 := hid cl1
 have HB2 := hid b2
 have hbs := cl1.size
 clear c0
 have c0 := fun j => cell_row cl1.row j
 have f0 := fun j => unfrozen_row cl1.row j
 have hb1 : b < w1.heap.size := by omega
 clear b1 b2 cl1 HCL
 go_wp2_with fail
 go_ret
 rw [HE.out]
 have hs := lit_err HE.out (by decide)
 rw [hs.1, hs.2]
 exact ⟨rfl, ⟨_, _, CL1.out⟩, Keep.of_below HB2.out⟩

set_option maxHeartbeats 2000000 in
set_option maxRecDepth 100000 in
theorem literal_C {w0 W : World} {b : Nat} {V C : Int} {E L : List Int} {ve vl : Value} {bg : Bool} (h : Cl w0 W b V E L ve vl bg C) (X : List UInt8) (hX : X.length ≤ 1099511627776) (hV : 0 ≤ V ∧ V ≤ 65536) (_hE : E.length ≤ 1048576) (_hL : L.length ≤ 1048576)
  (hC : ¬ (E.length : Int) = C) (v : Nat) (hn : numB (bare X) 2147483647 = (v : Int)) (hf : litFine X = true) (hv : V < (v : Int)) (hq : litNum X = v ∨ litNum X = -(v : Int)) :
  Calls Tryz.prog 60 #[.pointer (some ⟨b, 0, none⟩), str X] W fun e W' => e = .returned (.int .i64 (litE V C E L X)) ∧ (∃ ve' vl', Cl w0 W' b V (litEs V C E L X) (litLs V C E L X) ve' vl' bg C) ∧ Keep b W W' := by
 have HE : Hid (litE V C E L X = 3) := by
  show _ = _
  unfold litE; rw [if_neg hC, if_neg (by rw [hf]; decide), if_pos (by omega)]
 have e1 := num_yes hn
 have hm : (decide (X.head? = some 45) && decide (v = 0)) = false := by
  rw [litFine_bare, hn] at hf
  by_cases h : X.head? = some 45
  ·rw [if_pos h] at hf
   simp at hf
   simp; omega
  ·simp [h]
 obtain ⟨mn, hmn⟩ : ∃ mn, mn = decide (X.head? = some 45) := ⟨_, rfl⟩
 rw [← hmn] at hm
 have hv1 : v ≤ 2147483647 := by have := (numB_range (bare X) 2147483647).2; omega
 have hz : ((v : Int) == 0) = false := by simp; omega
 obtain ⟨⟨se, ce, rfl, hce⟩, sl, cl, rfl, hcl⟩ := h.forms
 have c0 := fun j => cell_row h.row j
 have HCL := hid h
 have hC2 : ((E.length : Int) == C) = false := by simpa using hC
 have HCP := fun W => hid (cutPrefix_list X W)
 have HNM := fun W => hid (number_list (bare X) W (by have := bare_le X; omega))
 simp only [e1.1, e1.2, ← hmn] at HCP HNM
 obtain ⟨Y, hY⟩ : ∃ Y, Y = bare X := ⟨_, rfl⟩
 simp only [← hY] at HCP HNM
 clear h hC hY hf hn e1 hmn hq hm
 go_enter Tryz.func60, Tryz.ntmps60
 go_wp2_with fail
 go_quiet (fail)
 go_wp2_with (go_at_call 78; refine (HCP _).out.mono ?_; rintro e w' ⟨rfl, rfl⟩)
 refine (HNM _).out.mono ?_
 rintro e w1 ⟨rfl, b1⟩
 have b2 : Below W.heap.size W w1 := (Below.drewN' (Below.refl _ _) nq).trans b1
 have cl1 := HCL.out.on b2
 have CL1 := hid cl1
 have HB2 := hid b2
 have hbs := cl1.size
 clear c0
 have c0 := fun j => cell_row cl1.row j
 have f0 := fun j => unfrozen_row cl1.row j
 have hb1 : b < w1.heap.size := by omega
 clear b1 b2 cl1 HCL
 go_wp2_with fail
 all_goals
  go_ret
  rw [HE.out]
  have hs := lit_err HE.out (by decide)
  rw [hs.1, hs.2]
  exact ⟨rfl, ⟨_, _, CL1.out⟩, Keep.of_below HB2.out⟩

set_option maxHeartbeats 2000000 in
set_option maxRecDepth 100000 in
theorem literal_D {w0 W : World} {b : Nat} {V C : Int} {E L : List Int} {ve vl : Value} {bg : Bool} (h : Cl w0 W b V E L ve vl bg C) (X : List UInt8) (hX : X.length ≤ 1099511627776) (hV : 0 ≤ V ∧ V ≤ 65536) (hE : E.length ≤ 1048576) (_hL : L.length ≤ 1048576)
  (hC : ¬ (E.length : Int) = C) (hn : numB (bare X) 2147483647 = 0) (hm : ¬ X.head? = some 45) :
  Calls Tryz.prog 60 #[.pointer (some ⟨b, 0, none⟩), str X] W fun e W' => e = .returned (.int .i64 (litE V C E L X)) ∧ (∃ ve' vl', Cl w0 W' b V (litEs V C E L X) (litLs V C E L X) ve' vl' bg C) ∧ Keep b W W' := by
 have hf : litFine X = true := by rw [litFine_bare, hn, if_neg hm]; rfl
 have hq : litNum X = 0 := by rw [litNum_bare, hn, if_neg hm]; rfl
 have HE : Hid (litE V C E L X = 0) := by
  show _ = _
  unfold litE; rw [if_neg hC, if_neg (by rw [hf]; decide), if_neg (by omega), if_pos hq]
 have HQ := hid hq
 have e1 := num_yes (v := 0) hn
 have hm2 : decide (X.head? = some 45) = false := by simpa using hm
 obtain ⟨⟨se, ce, rfl, hce⟩, sl, cl, rfl, hcl⟩ := h.forms
 have c0 := fun j => cell_row h.row j
 have HCL := hid h
 have hC2 : ((E.length : Int) == C) = false := by simpa using hC
 have HCP := fun W => hid (cutPrefix_list X W)
 have HNM := fun W => hid (number_list (bare X) W (by have := bare_le X; omega))
 simp only [e1.1, e1.2, hm2] at HCP HNM
 obtain ⟨Y, hY⟩ : ∃ Y, Y = bare X := ⟨_, rfl⟩
 simp only [← hY] at HCP HNM
 clear h hC hY hf hn e1 hm hq hm2
 go_enter Tryz.func60, Tryz.ntmps60
 go_wp2_with fail
 go_quiet (fail)
 go_wp2_with (go_at_call 78; refine (HCP _).out.mono ?_; rintro e w' ⟨rfl, rfl⟩)
 refine (HNM _).out.mono ?_
 rintro e w1 ⟨rfl, b1⟩
 have b2 : Below W.heap.size W w1 := (Below.drewN' (Below.refl _ _) nq).trans b1
 have cl1 := HCL.out.on b2
 have CL1 := hid cl1
 have HB2 := hid b2
 have hbs := cl1.size
 clear c0
 have c0 := fun j => cell_row cl1.row j
 have f0 := fun j => unfrozen_row cl1.row j
 have hb1 : b < w1.heap.size := by omega
 clear b1 b2 cl1 HCL
 go_wp2_with fail
 have R := hid ((CL1.out.alloc (Obj.cells #[.int .i64 (L.length : Int)] 3)).drew)
 have NR : Hid ((w1.alloc (Obj.cells #[.int .i64 (L.length : Int)] 3)).drew.heap[w1.heap.size]? = some (Obj.cells #[.int .i64 (L.length : Int)] 3)) := heap_alloc_new w1 _
 have cR := fun j => cell_row R.out.row j
 have fR := fun j => unfrozen_row R.out.row j
 go_region_law (refine step_int rfl _ _ rfl (b + 1) (.slice se E.length ce) E (L.length : Int) ⟨w1.heap.size, 0, none⟩ rfl R.out.oe rfl (by rw [cell_row NR.out]; rfl) (by omega) R.out.size ?_; intro v2 w2 o2 g2 p2; obtain ⟨sx, cx, rfl⟩ := own_shape o2; have r2 := R.out.rowE g2; have m2 := R.out.ends o2 g2 p2; have k2 := Keep.grown (b := b) g2 g2.size R.out.oe; have c2 := fun j => cell_row r2 j; have f2 := fun j => unfrozen_row r2 j; have hb2 := (Array.getElem?_eq_some_iff.1 r2).1; have M2 := hid m2; have K2 := hid k2; clear o2 g2 r2 m2 k2 p2)
 all_goals
  go_wp2
  go_ret
  have hs := lit_end HE.out HQ.out
  rw [hs.1, hs.2, HE.out]
  have M3 := M2.out
  simp only [List.length_append, List.length_cons, List.length_nil, Nat.zero_add] at M3
  exact ⟨rfl, ⟨_, _, M3⟩, (Keep.of_below HB2.out).trans ((Keep.of_below (((Below.refl _ _).alloc (Nat.le_refl _) _).drew)).trans (K2.out.trans Keep.set))⟩

set_option maxHeartbeats 2000000 in
set_option maxRecDepth 100000 in
theorem literal_E {w0 W : World} {b : Nat} {V C : Int} {E L : List Int} {ve vl : Value} {bg : Bool} (h : Cl w0 W b V E L ve vl bg C) (X : List UInt8) (hX : X.length ≤ 1099511627776) (hV : 0 ≤ V ∧ V ≤ 65536) (_hE : E.length ≤ 1048576) (_hL : L.length ≤ 1048576)
  (hC : ¬ (E.length : Int) = C) (v : Nat) (hn : numB (bare X) 2147483647 = (v : Int)) (hf : litFine X = true) (hv0 : 0 < v) (hv : (v : Int) ≤ V) (hq : litNum X = v ∨ litNum X = -(v : Int)) (hLL : L.length = 1048576) :
  Calls Tryz.prog 60 #[.pointer (some ⟨b, 0, none⟩), str X] W fun e W' => e = .returned (.int .i64 (litE V C E L X)) ∧ (∃ ve' vl', Cl w0 W' b V (litEs V C E L X) (litLs V C E L X) ve' vl' bg C) ∧ Keep b W W' := by
 have HE : Hid (litE V C E L X = 8) := by
  show _ = _
  unfold litE; rw [if_neg hC, if_neg (by rw [hf]; decide), if_neg (by omega), if_neg (by omega), if_pos hLL]
 have e1 := num_yes hn
 obtain ⟨mn, hmn⟩ : ∃ mn, mn = decide (X.head? = some 45) := ⟨_, rfl⟩
 have hv1 : v ≤ 2147483647 := by omega
 have hv2 : decide (V < (v : Int)) = false := by simp; omega
 have hz : ((v : Int) == 0) = false := by simp; omega
 obtain ⟨⟨se, ce, rfl, hce⟩, sl, cl, rfl, hcl⟩ := h.forms
 have c0 := fun j => cell_row h.row j
 have HCL := hid h
 have hC2 : ((E.length : Int) == C) = false := by simpa using hC
 have HCP := fun W => hid (cutPrefix_list X W)
 have HNM := fun W => hid (number_list (bare X) W (by have := bare_le X; omega))
 simp only [e1.1, e1.2, ← hmn] at HCP HNM
 obtain ⟨Y, hY⟩ : ∃ Y, Y = bare X := ⟨_, rfl⟩
 simp only [← hY] at HCP HNM
 clear h hC hY hf hn e1 hmn hq
 go_enter Tryz.func60, Tryz.ntmps60
 go_wp2_with fail
 go_quiet (fail)
 go_wp2_with (go_at_call 78; refine (HCP _).out.mono ?_; rintro e w' ⟨rfl, rfl⟩)
 refine (HNM _).out.mono ?_
 rintro e w1 ⟨rfl, b1⟩
 have b2 : Below W.heap.size W w1 := (Below.drewN' (Below.refl _ _) nq).trans b1
 have cl1 := HCL.out.on b2
 have CL1 := hid cl1
 have HB2 := hid b2
 have hbs := cl1.size
 clear c0
 have c0 := fun j => cell_row cl1.row j
 have f0 := fun j => unfrozen_row cl1.row j
 have hb1 : b < w1.heap.size := by omega
 clear b1 b2 cl1 HCL
 go_wp2_with fail
 all_goals
  go_ret
  rw [HE.out]
  have hs := lit_err HE.out (by decide)
  rw [hs.1, hs.2]
  exact ⟨rfl, ⟨_, _, CL1.out⟩, Keep.of_below HB2.out⟩

set_option maxHeartbeats 2000000 in
set_option maxRecDepth 100000 in
theorem literal_F {w0 W : World} {b : Nat} {V C : Int} {E L : List Int} {ve vl : Value} {bg : Bool} (h : Cl w0 W b V E L ve vl bg C) (X : List UInt8) (hX : X.length ≤ 1099511627776) (hV : 0 ≤ V ∧ V ≤ 65536) (_hE : E.length ≤ 1048576) (hL : L.length ≤ 1048576)
  (hC : ¬ (E.length : Int) = C) (v : Nat) (hn : numB (bare X) 2147483647 = (v : Int)) (hf : litFine X = true) (hv0 : 0 < v) (hv : (v : Int) ≤ V) (hm2 : decide (X.head? = some 45) = true) (hq : litNum X = -(v : Int)) (hLL : L.length ≠ 1048576) :
  Calls Tryz.prog 60 #[.pointer (some ⟨b, 0, none⟩), str X] W fun e W' => e = .returned (.int .i64 (litE V C E L X)) ∧ (∃ ve' vl', Cl w0 W' b V (litEs V C E L X) (litLs V C E L X) ve' vl' bg C) ∧ Keep b W W' := by
 have HE : Hid (litE V C E L X = 0) := by
  show _ = _
  unfold litE; rw [if_neg hC, if_neg (by rw [hf]; decide), if_neg (by omega), if_neg (by omega), if_neg hLL]
 have HS := hid (lit_on HE.out (by omega))
 rw [hq] at HS
 have e1 := num_yes hn
 have hv1 : v ≤ 2147483647 := by omega
 have hv2 : decide (V < (v : Int)) = false := by simp; omega
 have hz : ((v : Int) == 0) = false := by simp; omega
 have hL2 : ((L.length : Int) == 1048576) = false := by simp; omega
 obtain ⟨⟨se, ce, rfl, hce⟩, sl, cl, rfl, hcl⟩ := h.forms
 have c0 := fun j => cell_row h.row j
 have HCL := hid h
 have hC2 : ((E.length : Int) == C) = false := by simpa using hC
 have HCP := fun W => hid (cutPrefix_list X W)
 have HNM := fun W => hid (number_list (bare X) W (by have := bare_le X; omega))
 simp only [e1.1, e1.2, hm2] at HCP HNM
 obtain ⟨Y, hY⟩ : ∃ Y, Y = bare X := ⟨_, rfl⟩
 simp only [← hY] at HCP HNM
 clear h hC hY hf hn e1 hm2 hq
 go_enter Tryz.func60, Tryz.ntmps60
 go_wp2_with fail
 go_quiet (fail)
 go_wp2_with (go_at_call 78; refine (HCP _).out.mono ?_; rintro e w' ⟨rfl, rfl⟩)
 refine (HNM _).out.mono ?_
 rintro e w1 ⟨rfl, b1⟩
 have b2 : Below W.heap.size W w1 := (Below.drewN' (Below.refl _ _) nq).trans b1
 have cl1 := HCL.out.on b2
 have CL1 := hid cl1
 have HB2 := hid b2
 have hbs := cl1.size
 clear c0
 have c0 := fun j => cell_row cl1.row j
 have f0 := fun j => unfrozen_row cl1.row j
 have hb1 : b < w1.heap.size := by omega
 clear b1 b2 cl1 HCL
 have R := hid (CL1.out.alloc (Obj.cells #[.int .i64 (-(v : Int))] 3))
 have NR : Hid ((w1.alloc (Obj.cells #[.int .i64 (-(v : Int))] 3)).heap[w1.heap.size]? = some (Obj.cells #[.int .i64 (-(v : Int))] 3)) := heap_alloc_new w1 _
 go_wp2_with (at_builtin; refine app_int rfl _ _ rfl (b + 1) (.slice sl L.length cl) L (-(v : Int)) ⟨w1.heap.size, 0, none⟩ rfl R.out.ol rfl (by rw [cell_row NR.out]; rfl) (by omega) R.out.size ?_; intro v2 w2 o2 g2 p2; obtain ⟨sx, cx, rfl⟩ := own_shape o2; have r2 := R.out.rowL g2; have m2 := R.out.lits o2 g2 p2; have k2 := Keep.grown (b := b) g2 g2.size R.out.ol; have c2 := fun j => cell_row r2 j; have f2 := fun j => unfrozen_row r2 j; have hb2 := (Array.getElem?_eq_some_iff.1 r2).1; have M2 := hid m2; have K2 := hid k2; clear o2 g2 r2 m2 k2 p2)
 all_goals
  go_wp2
  go_ret
  rw [HS.out.1, HS.out.2, HE.out]
  have M3 := M2.out
  simp only [List.length_append, List.length_cons, List.length_nil, Nat.zero_add] at M3
  exact ⟨rfl, ⟨_, _, M3⟩, (Keep.of_below HB2.out).trans ((Keep.of_below ((Below.refl _ _).alloc (Nat.le_refl _) _)).trans (K2.out.trans Keep.set))⟩

set_option maxHeartbeats 2000000 in
set_option maxRecDepth 100000 in
theorem literal_G {w0 W : World} {b : Nat} {V C : Int} {E L : List Int} {ve vl : Value} {bg : Bool} (h : Cl w0 W b V E L ve vl bg C) (X : List UInt8) (hX : X.length ≤ 1099511627776) (hV : 0 ≤ V ∧ V ≤ 65536) (_hE : E.length ≤ 1048576) (hL : L.length ≤ 1048576)
  (hC : ¬ (E.length : Int) = C) (v : Nat) (hn : numB (bare X) 2147483647 = (v : Int)) (hf : litFine X = true) (hv0 : 0 < v) (hv : (v : Int) ≤ V) (hm2 : decide (X.head? = some 45) = false) (hq : litNum X = (v : Int)) (hLL : L.length ≠ 1048576) :
  Calls Tryz.prog 60 #[.pointer (some ⟨b, 0, none⟩), str X] W fun e W' => e = .returned (.int .i64 (litE V C E L X)) ∧ (∃ ve' vl', Cl w0 W' b V (litEs V C E L X) (litLs V C E L X) ve' vl' bg C) ∧ Keep b W W' := by
 have HE : Hid (litE V C E L X = 0) := by
  show _ = _
  unfold litE; rw [if_neg hC, if_neg (by rw [hf]; decide), if_neg (by omega), if_neg (by omega), if_neg hLL]
 have HS := hid (lit_on HE.out (by omega))
 rw [hq] at HS
 have e1 := num_yes hn
 have hv1 : v ≤ 2147483647 := by omega
 have hv2 : decide (V < (v : Int)) = false := by simp; omega
 have hz : ((v : Int) == 0) = false := by simp; omega
 have hL2 : ((L.length : Int) == 1048576) = false := by simp; omega
 obtain ⟨⟨se, ce, rfl, hce⟩, sl, cl, rfl, hcl⟩ := h.forms
 have c0 := fun j => cell_row h.row j
 have HCL := hid h
 have hC2 : ((E.length : Int) == C) = false := by simpa using hC
 have HCP := fun W => hid (cutPrefix_list X W)
 have HNM := fun W => hid (number_list (bare X) W (by have := bare_le X; omega))
 simp only [e1.1, e1.2, hm2] at HCP HNM
 obtain ⟨Y, hY⟩ : ∃ Y, Y = bare X := ⟨_, rfl⟩
 simp only [← hY] at HCP HNM
 clear h hC hY hf hn e1 hm2 hq
 go_enter Tryz.func60, Tryz.ntmps60
 go_wp2_with fail
 go_quiet (fail)
 go_wp2_with (go_at_call 78; refine (HCP _).out.mono ?_; rintro e w' ⟨rfl, rfl⟩)
 refine (HNM _).out.mono ?_
 rintro e w1 ⟨rfl, b1⟩
 have b2 : Below W.heap.size W w1 := (Below.drewN' (Below.refl _ _) nq).trans b1
 have cl1 := HCL.out.on b2
 have CL1 := hid cl1
 have HB2 := hid b2
 have hbs := cl1.size
 clear c0
 have c0 := fun j => cell_row cl1.row j
 have f0 := fun j => unfrozen_row cl1.row j
 have hb1 : b < w1.heap.size := by omega
 clear b1 b2 cl1 HCL
 have R := hid (CL1.out.alloc (Obj.cells #[.int .i64 ((v : Int))] 3))
 have NR : Hid ((w1.alloc (Obj.cells #[.int .i64 ((v : Int))] 3)).heap[w1.heap.size]? = some (Obj.cells #[.int .i64 ((v : Int))] 3)) := heap_alloc_new w1 _
 go_wp2_with (at_builtin; refine app_int rfl _ _ rfl (b + 1) (.slice sl L.length cl) L ((v : Int)) ⟨w1.heap.size, 0, none⟩ rfl R.out.ol rfl (by rw [cell_row NR.out]; rfl) (by omega) R.out.size ?_; intro v2 w2 o2 g2 p2; obtain ⟨sx, cx, rfl⟩ := own_shape o2; have r2 := R.out.rowL g2; have m2 := R.out.lits o2 g2 p2; have k2 := Keep.grown (b := b) g2 g2.size R.out.ol; have c2 := fun j => cell_row r2 j; have f2 := fun j => unfrozen_row r2 j; have hb2 := (Array.getElem?_eq_some_iff.1 r2).1; have M2 := hid m2; have K2 := hid k2; clear o2 g2 r2 m2 k2 p2)
 all_goals
  go_wp2
  go_ret
  rw [HS.out.1, HS.out.2, HE.out]
  have M3 := M2.out
  simp only [List.length_append, List.length_cons, List.length_nil, Nat.zero_add] at M3
  exact ⟨rfl, ⟨_, _, M3⟩, (Keep.of_below HB2.out).trans ((Keep.of_below ((Below.refl _ _).alloc (Nat.le_refl _) _)).trans (K2.out.trans Keep.set))⟩
end Go.Proofs.YtdkboifpdodonacGreatDoor
/-
 The landed program's line.
-/
namespace Go.Proofs.YtdkboifpdodonacGreatDoor
open Go.RowKit Go.Deep PureCnf
set_option maxRecDepth 100000

theorem literal22_any {w0 W : World} {b : Nat} {V C : Int} {E L : List Int} {ve vl : Value} {bg : Bool} (h : Cl w0 W b V E L ve vl bg C) (X : List UInt8) (hX : X.length ≤ 1099511627776) (hV : 0 ≤ V ∧ V ≤ 65536) (hE : E.length ≤ 1048576) (hL : L.length ≤ 1048576) :
  Calls Tryz.prog 60 #[.pointer (some ⟨b, 0, none⟩), str X] W fun e W' => e = .returned (.int .i64 (litE V C E L X)) ∧ (∃ ve' vl', Cl w0 W' b V (litEs V C E L X) (litLs V C E L X) ve' vl' bg C) ∧ Keep b W W' := by
 by_cases hC : (E.length : Int) = C
 ·exact literal_A h X hC
 have hr := numB_range (bare X) 2147483647
 by_cases hn : numB (bare X) 2147483647 = -1
 ·exact literal_B1 h X hX hV hE hL hC hn
 obtain ⟨v, hv⟩ : ∃ v : Nat, numB (bare X) 2147483647 = v := ⟨(numB (bare X) 2147483647).toNat, by omega⟩
 by_cases hm : X.head? = some 45
 ·by_cases h0 : v = 0
  ·subst h0
   exact literal_B2 h X hX hV hE hL hC hv hm
  ·have hf : litFine X = true := by rw [litFine_bare, hv, if_pos hm]; simp; omega
   have hq : litNum X = -(v : Int) := by rw [litNum_bare, hv, if_pos hm, if_pos (by omega)]
   by_cases hV2 : V < (v : Int)
   ·exact literal_C h X hX hV hE hL hC v hv hf hV2 (.inr hq)
   ·by_cases hLL : L.length = 1048576
    ·exact literal_E h X hX hV hE hL hC v hv hf (by omega) (by omega) (.inr hq) hLL
    ·exact literal_F h X hX hV hE hL hC v hv hf (by omega) (by omega) (by simpa using hm) hq hLL
 ·have hf : litFine X = true := by rw [litFine_bare, hv, if_neg hm]; simp
  have hq : litNum X = (v : Int) := by rw [litNum_bare, hv, if_neg hm, if_pos (by omega)]
  by_cases h0 : v = 0
  ·subst h0
   exact literal_D h X hX hV hE hL hC hv hm
  ·by_cases hV2 : V < (v : Int)
   ·exact literal_C h X hX hV hE hL hC v hv hf hV2 (.inl hq)
   ·by_cases hLL : L.length = 1048576
    ·exact literal_E h X hX hV hE hL hC v hv hf (by omega) (by omega) (.inl hq) hLL
    ·exact literal_G h X hX hV hE hL hC v hv hf (by omega) (by omega) (by simpa using hm) hq hLL

/-- the words of a line behind the head: the fault (0: none) and its place; the lists. -/
def bRun (V C : Int) : List Piece → List Int → List Int → (Int × Nat) × List Int × List Int
 | [], E, L => ((0, 0), E, L)
 | p :: t, E, L => if litE V C E L p.w ≠ 0 then ((litE V C E L p.w, p.at_), E, L) else bRun V C t (litEs V C E L p.w) (litLs V C E L p.w)
theorem lit_count (V C : Int) (E L : List Int) (X : List UInt8) : (litEs V C E L X).length + (litLs V C E L X).length ≤ E.length + L.length + 1 := by
 unfold litEs litLs
 by_cases h : litE V C E L X = 0
 ·by_cases h2 : litNum X = 0
  ·rw [if_pos ⟨h, h2⟩, if_neg (by simp [h2])]; simp; omega
  ·rw [if_neg (by simp [h2]), if_pos ⟨h, h2⟩]; simp; omega
 ·rw [if_neg (by simp [h]), if_neg (by simp [h])]; omega
theorem bRun_drop {V C : Int} {l : List Piece} {j : Nat} {E L : List Int} (h : j < l.length) : bRun V C (l.drop j) E L = if litE V C E L l[j].w ≠ 0 then ((litE V C E L l[j].w, l[j].at_), E, L) else bRun V C (l.drop (j + 1)) (litEs V C E L l[j].w) (litLs V C E L l[j].w) := by
 rw [List.drop_eq_getElem_cons h, bRun]

set_option maxHeartbeats 1000000 in
theorem line_none {w0 W : World} {b B : Nat} {V C : Int} {E L : List Int} {ve vl v : Value} {bg : Bool} (h : Cl w0 W b V E L ve vl bg C) (hl : WRow W B v []) :
  Calls Tryz.prog 39 #[.pointer (some ⟨b, 0, none⟩), v] W fun e W' => e = .returned (.tuple #[.int .i64 0, .int .i64 0]) ∧ Cl w0 W' b V E L ve vl bg C := by
 obtain ⟨sa, ca, rfl⟩ := hl.form
 have HCL := hid h
 clear h hl
 go_enter Tryz.func39, Tryz.ntmps39
 go_wp2_with fail
 go_ret2
 exact ⟨rfl, HCL.out⟩

set_option maxHeartbeats 1000000 in
theorem line_head {w0 W : World} {b B : Nat} {E L : List Int} {ve vl v : Value} (l : List Piece) (h : Cl w0 W b 0 E L ve vl false 0) (hl : WRow W B v l) (hB : b < B) (hn : l.length ≤ 1099511627776) (h0 : 0 < l.length)
  (hw : ∀ p ∈ l, p.at_ + p.w.length ≤ 1099511627776) :
  Calls Tryz.prog 39 #[.pointer (some ⟨b, 0, none⟩), v] W fun e W' => e = .returned (.tuple #[.int .i64 (hOut l).1, .int .i64 ((hOut l).2 : Int)]) ∧
   ∃ V C, Cl w0 W' b V E L ve vl true C ∧ ((hOut l).1 = 0 → V = hV l l.length ∧ C = hC l l.length) := by
 obtain ⟨sa, ca, rfl⟩ := hl.form
 have c0 := fun j => cell_row h.row j
 have f0 := fun j => unfrozen_row h.row j
 have HH := hid (head21_any l (h.setB true) (hl.keep Keep.set hB) hB hn h0 hw)
 have hne : ((l.length : Int) == 0) = false := beq_eq_false_iff_ne.2 (by omega)
 clear h hl
 go_enter Tryz.func39, Tryz.ntmps39
 go_wp2_with fail
 refine HH.out.mono ?_
 rintro e w2 ⟨rfl, V, C, cl, hh⟩
 have CL := hid cl
 have HHH := hid hh
 clear cl hh c0 f0
 go_wp2_with fail
 go_ret2
 exact ⟨rfl, V, C, CL.out, HHH.out⟩

set_option maxHeartbeats 2000000 in
theorem line_body {w0 W : World} {b B : Nat} {V C : Int} {E L : List Int} {ve vl v : Value} (l : List Piece) (h : Cl w0 W b V E L ve vl true C) (hl : WRow W B v l) (hB : b < B) (h0 : 0 < l.length) (hV : 0 ≤ V ∧ V ≤ 65536) (hEL : E.length + L.length + l.length ≤ 1048576)
  (hw : ∀ p ∈ l, p.at_ + p.w.length ≤ 1099511627776) :
  Calls Tryz.prog 39 #[.pointer (some ⟨b, 0, none⟩), v] W fun e W' => e = .returned (.tuple #[.int .i64 (bRun V C l E L).1.1, .int .i64 ((bRun V C l E L).1.2 : Int)]) ∧
   ∃ ve' vl', Cl w0 W' b V (bRun V C l E L).2.1 (bRun V C l E L).2.2 ve' vl' true C := by
 obtain ⟨sa, ca, rfl⟩ := hl.form
 have c0 := fun j => cell_row h.row j
 have HCL := hid h
 have HWR := hid hl
 have hne : ((l.length : Int) == 0) = false := beq_eq_false_iff_ne.2 (by omega)
 have hn : l.length ≤ 1048576 := by omega
 clear h hl
 go_enter Tryz.func39, Tryz.ntmps39
 go_wp2_with fail
 clear c0
 go_loopw [27] (fun iv W1 => ∃ (j : Nat) (E1 L1 : List Int) (ve1 vl1 : Value), iv = .int .i64 j ∧ j ≤ l.length ∧ E1.length + L1.length ≤ E.length + L.length + j ∧ Hid (bRun V C l E L = bRun V C (l.drop j) E1 L1 ∧ Cl w0 W1 b V E1 L1 ve1 vl1 true C ∧ WRow W1 B (.slice sa l.length ca) l)) (fun iv _ => l.length - (intOf iv).toNat)
 case atStart => exact ⟨0, E, L, ve, vl, rfl, Nat.zero_le _, by omega, rfl, HCL.out, HWR.out⟩
 case round =>
  obtain ⟨j, E1, L1, ve1, vl1, rfl, hj, hcn, HP⟩ := hrel
  by_cases hlt : j < l.length
  ·obtain ⟨P1, P2, P3⟩ := HP.out
   obtain ⟨g, c, hv, hg, c0, c1⟩ := P3.read hlt
   simp only [Value.slice.injEq, true_and] at hv
   obtain ⟨rfl, rfl⟩ := hv
   have hpw := hw _ (List.getElem_mem hlt)
   obtain ⟨X, hX⟩ : ∃ x, x = l[j].w := ⟨_, rfl⟩
   obtain ⟨at_, hat⟩ : ∃ x, x = l[j].at_ := ⟨_, rfl⟩
   have hdr := bRun_drop (V := V) (C := C) (E := E1) (L := L1) hlt
   rw [← hX, ← hat] at hdr hpw
   rw [← hX] at c0
   rw [← hat] at c1
   obtain ⟨WA, hWA⟩ : ∃ x, x = wr.alloc (Obj.cells #[.string ⟨X.toArray⟩, .int .i64 (at_ : Int)] 131) := ⟨_, rfl⟩
   have tA : Below wr.heap.size wr WA := by rw [hWA]; exact (Below.refl _ _).alloc (Nat.le_refl _) _
   have rA : WA.heap[wr.heap.size]? = some (.cells #[.string ⟨X.toArray⟩, .int .i64 (at_ : Int)] 131 (0, 0)) := by rw [hWA]; exact heap_alloc_new wr _
   have cA := fun k => cell_row rA k
   have HLT := hid (literal22_any (P2.on tA) X (by omega) hV (by omega) (by omega))
   have hct := lit_count V C E1 L1 X
   have hbs := P2.size
   have HRA := hid rA
   have HWR2 := hid (P3.keep (Keep.of_below tA) hB)
   have HWA := hid hWA
   have HPP := hid P1
   have HDR := hid hdr
   clear hX hat hdr P1 P2 P3 HP rA tA hWA HCL HWR
   go_wp2_with (rw [← HWA.out])
   refine HLT.out.mono ?_
   rintro e1 w2 ⟨rfl, ⟨ve2, vl2, cl2⟩, kp⟩
   have r2 := kp.block _ _ _ _ (show wr.heap.size ≠ b by omega) (by decide) HRA.out
   have HWR3 := hid (HWR2.out.keep kp hB)
   have CL2 := hid cl2
   have c2 := fun k => cell_row r2 k
   clear r2 kp cl2 HWR2 cA
   cases he : decide (litE V C E1 L1 X = 0) with
   | true =>
    have he0 : litE V C E1 L1 X = 0 := by simpa using he
    have HD2 : Hid (bRun V C l E L = bRun V C (l.drop (j + 1)) (litEs V C E1 L1 X) (litLs V C E1 L1 X)) := by
     show _ = _
     rw [HPP.out, HDR.out, if_neg (by simpa using he0)]
    rw [he0]
    clear he he0
    go_wp2_with fail
    go_roundw
    case rel => exact ⟨j + 1, _, _, _, _, by go_num, hlt, by omega, HD2.out, CL2.out, HWR3.out⟩
    case measure => simp [intOf]; omega
   | false =>
    have he0 : ¬ litE V C E1 L1 X = 0 := by simpa using he
    have HO : Hid (bRun V C l E L = ((litE V C E1 L1 X, at_), E1, L1)) := by
     show _ = _
     rw [HPP.out, HDR.out, if_pos he0]
    have hs := lit_err rfl he0
    rw [hs.1, hs.2] at CL2
    obtain ⟨z, hz⟩ : ∃ z, z = litE V C E1 L1 X := ⟨_, rfl⟩
    rw [← hz] at HO he0 ⊢
    have he1 : (z != 0) = true := by simpa using he0
    clear he hz he0 hs hct
    go_wp2_with fail
    go_quiet (fail)
    go_wp2_with fail
    go_ret2
    rw [HO.out]
    exact ⟨rfl, _, _, CL2.out.on (Below.drewN' (Below.refl _ _) _)⟩
  ·obtain ⟨P1, P2, P3⟩ := HP.out
   obtain rfl : j = l.length := by omega
   have HO : Hid (bRun V C l E L = ((0, 0), E1, L1)) := by
    show _ = _
    rw [P1, List.drop_length, bRun]
   have CL2 := hid P2
   clear P1 P2 P3 HP
   go_wp2_with fail
   go_ret2
   rw [HO.out]
   exact ⟨rfl, _, _, CL2.out⟩
end Go.Proofs.YtdkboifpdodonacGreatDoor
/-
 Line by line: what the landed program reads so is what is read word by word. Plain mathematics.
-/
namespace Go.Proofs.YtdkboifpdodonacGreatDoor
open Go.RowKit Go.Deep PureCnf
set_option maxRecDepth 100000

theorem wordsFrom_line (l : List UInt8) (e line k : Nat) : ∀ p ∈ wordsFrom l e line k, p.line = line := by
 generalize hd : e - k = d
 induction d using Nat.strongRecOn generalizing k with
 | _ d ih =>
  intro p hp
  rw [wordsFrom_eq] at hp
  split at hp
  ·next h =>
   have h1 := runW_ge whB l (runW inkB l k e) e
   rcases List.mem_cons.1 hp with rfl | hp
   ·rfl
   ·exact ih (e - runW whB l (runW inkB l k e) e) (by omega) _ rfl p hp
  ·simp at hp
theorem lineWords_line {l : List UInt8} {i e line : Nat} : ∀ p ∈ lineWords l i e line, p.line = line := by
 intro p hp
 unfold lineWords at hp
 split at hp
 ·simp at hp
 ·exact wordsFrom_line _ _ _ _ p hp
theorem pieces_line (l : List UInt8) (i line : Nat) : ∀ p ∈ piecesFrom l i line, line ≤ p.line := by
 generalize hd : l.length - i = d
 induction d using Nat.strongRecOn generalizing i line with
 | _ d ih =>
  intro p hp
  rw [piecesFrom_eq] at hp
  split at hp
  ·next h =>
   have h1 := runW_ge lineB l i l.length
   rcases List.mem_append.1 hp with hp | hp
   ·rw [lineWords_line p hp]; exact Nat.le_refl _
   ·have := ih (l.length - (runW lineB l i l.length + 1)) (by omega) _ _ rfl p hp
    omega
  ·simp at hp

section
variable {ws rest : List Piece} {k : Nat} (hk : ∀ p ∈ ws, p.line = k) (hr : ∀ p ∈ rest, k < p.line)
theorem lineOf_zero (hk : ∀ p ∈ ws, p.line = k) (h0 : 0 < ws.length) : lineOf (ws ++ rest) 0 = k := by
 unfold lineOf
 rw [List.getElem?_append_left h0, List.getElem?_eq_getElem h0]
 exact hk _ (List.getElem_mem h0)
theorem step_in (hk : ∀ p ∈ ws, p.line = k) {i : Nat} (h : i < ws.length) (h4 : i < 4) : headStep (ws ++ rest) i = if hwE i ws[i].w ≠ 0 then some (hwE i ws[i].w, ws[i].at_) else none := by
 unfold headStep
 rw [List.getElem?_append_left h, List.getElem?_eq_getElem h, lineOf_zero hk (by omega)]
 simp only [hk _ (List.getElem_mem h), ne_eq, not_true_eq_false, if_false]
 rcases (show i = 0 ∨ i = 1 ∨ i = 2 ∨ i = 3 by omega) with rfl | rfl | rfl | rfl
 ·by_cases hx : ws[0].w = [112]
  ·simp [hwE, hx]
  ·simp [hwE, hx]
 ·by_cases hx : ws[1].w = [99, 110, 102]
  ·simp [hwE, hx]
  ·simp [hwE, hx]
 ·have e : hwE 2 ws[2].w = amtE ws[2].w 65536 := by simp [hwE]
  rw [e]
  unfold amtE
  generalize numB ws[2].w 2147483647 = m
  rw [if_neg (by omega), if_neg (by omega)]
  by_cases h1 : m < 0
  ·simp [h1]
  ·by_cases h2 : (65536 : Int) < m
   ·rw [if_neg h1, if_pos h2, if_neg h1, if_pos (show ((65536 : Nat) : Int) < m from h2)]; rfl
   ·rw [if_neg h1, if_neg h2, if_neg h1, if_neg (show ¬ ((65536 : Nat) : Int) < m from h2)]; rfl
 ·have e : hwE 3 ws[3].w = amtE ws[3].w 65536 := by simp [hwE]
  rw [e]
  unfold amtE
  generalize numB ws[3].w 2147483647 = m
  rw [if_neg (by omega), if_neg (by omega)]
  by_cases h1 : m < 0
  ·simp [h1]
  ·by_cases h2 : (65536 : Int) < m
   ·rw [if_neg h1, if_pos h2, if_neg h1, if_pos (show ((65536 : Nat) : Int) < m from h2)]; rfl
   ·rw [if_neg h1, if_neg h2, if_neg h1, if_neg (show ¬ ((65536 : Nat) : Int) < m from h2)]; rfl
theorem step_out (hk : ∀ p ∈ ws, p.line = k) (hr : ∀ p ∈ rest, k < p.line) (h0 : 0 < ws.length) : headStep (ws ++ rest) ws.length = some (135, hEnd ws) := by
 have he : prevEnd (ws ++ rest) ws.length = hEnd ws := by
  unfold prevEnd hEnd
  rw [List.getElem?_append_left (by omega)]
  cases ws[ws.length - 1]? <;> rfl
 unfold headStep
 rw [he, lineOf_zero hk h0, List.getElem?_append_right (Nat.le_refl _), Nat.sub_self]
 cases rest with
 | nil => rfl
 | cons p t =>
  have := hr p (by simp)
  simp
  omega
theorem from_line (hk : ∀ p ∈ ws, p.line = k) (hr : ∀ p ∈ rest, k < p.line) (h0 : 0 < ws.length) : ∀ (d i : Nat), d + i = 4 → i ≤ ws.length →
  headFrom (ws ++ rest) d i = match hrun i (ws.drop i) with | some f => some f | none => if ws.length < 4 then some (135, hEnd ws) else none := by
 intro d
 induction d with
 | zero =>
  intro i hd hi
  obtain rfl : i = 4 := by omega
  unfold headFrom
  rw [lineOf_zero hk h0]
  by_cases h : 4 < ws.length
  ·rw [List.getElem?_append_left h, List.getElem?_eq_getElem h, hrun_drop h]
   simp [hk _ (List.getElem_mem h), hwE]
  ·obtain h : ws.length = 4 := by omega
   rw [List.drop_of_length_le (by omega), hrun, List.getElem?_append_right (by omega)]
   simp only [h, Nat.sub_self]
   cases rest with
   | nil => simp
   | cons p t =>
    have := hr p (by simp)
    simp
    omega
 | succ d ih =>
  intro i hd hi
  unfold headFrom
  by_cases h : i < ws.length
  ·rw [step_in hk h (by omega), hrun_drop h]
   by_cases he : hwE i ws[i].w = 0
   ·simp only [he, ne_eq, not_true_eq_false, if_false]
    exact ih (i + 1) (by omega) h
   ·simp only [ne_eq, he, not_false_eq_true, if_true]
  ·obtain rfl : i = ws.length := by omega
   rw [step_out hk hr h0, List.drop_length, hrun]
   simp only [if_pos (show ws.length < 4 by omega)]
theorem hrun_ne {l : List Piece} : ∀ {i : Nat} {f : Int × Nat}, hrun i l = some f → f.1 ≠ 0 := by
 induction l with
 | nil => intro i f h; simp [hrun] at h
 | cons p t ih =>
  intro i f h
  rw [hrun] at h
  split at h
  ·next hn => cases h; exact hn
  ·exact ih h
theorem hrun_none {l : List Piece} : ∀ {i : Nat}, hrun i l = none → ∀ j (h : j < l.length), hwE (i + j) l[j].w = 0 := by
 induction l with
 | nil => intro i _ j h; simp at h
 | cons p t ih =>
  intro i h j hj
  rw [hrun] at h
  split at h
  ·cases h
  ·next hn =>
   cases j with
   | zero => simpa using hn
   | succ j =>
    have := ih h j (by simpa using hj)
    rw [show i + (j + 1) = i + 1 + j by omega]
    simpa using this
theorem head_line (hk : ∀ p ∈ ws, p.line = k) (hr : ∀ p ∈ rest, k < p.line) (h0 : 0 < ws.length) (n : Nat) : headN n (ws ++ rest) = if (hOut ws).1 = 0 then none else some (hOut ws) := by
 have hne : ws ++ rest ≠ [] := by intro e; rw [(List.append_eq_nil_iff.1 e).1] at h0; simp at h0
 unfold headN
 rw [if_neg hne, from_line hk hr h0 4 0 rfl (Nat.zero_le _), List.drop_zero]
 unfold hOut
 cases hh : hrun 0 ws with
 | some f =>
  simp only
  rw [if_neg (hrun_ne hh)]
 | none =>
  simp only
  by_cases h4 : ws.length < 4
  ·simp [h4]
  ·simp [h4]
theorem amt_ok {X : List UInt8} (h : amtE X 65536 = 0) : amtV X 65536 = numB X 2147483647 ∧ 0 ≤ amtV X 65536 ∧ amtV X 65536 ≤ 65536 := by
 unfold amtE at h
 unfold amtV
 split at h
 ·omega
 ·split at h
  ·omega
  ·next h1 h2 => rw [if_neg h1, if_neg h2]; omega
theorem head_good (h0 : (hOut ws).1 = 0) : ws.length = 4 ∧ numOf (ws ++ rest) 2 = hV ws ws.length ∧ numOf (ws ++ rest) 3 = hC ws ws.length ∧ (0 ≤ hV ws ws.length ∧ hV ws ws.length ≤ 65536) ∧ 0 ≤ hC ws ws.length := by
 unfold hOut at h0
 split at h0
 ·next f hf => exact absurd h0 (hrun_ne hf)
 ·next hn =>
  have h4 : ¬ ws.length < 4 := by intro h; simp [h] at h0
  have hall := hrun_none hn
  have h5 : ws.length = 4 := by
   by_cases h : 4 < ws.length
   ·have := hall 4 h
    simp [hwE] at this
   ·omega
  have a2 := hall 2 (by omega)
  have a3 := hall 3 (by omega)
  simp [hwE] at a2 a3
  have b2 := amt_ok a2
  have b3 := amt_ok a3
  have e2 : numOf (ws ++ rest) 2 = numB (ws[2]'(by omega)).w 2147483647 := by
   unfold numOf; rw [List.getElem?_append_left (by omega), List.getElem?_eq_getElem (by omega)]
  have e3 : numOf (ws ++ rest) 3 = numB (ws[3]'(by omega)).w 2147483647 := by
   unfold numOf; rw [List.getElem?_append_left (by omega), List.getElem?_eq_getElem (by omega)]
  have v2 : hV ws ws.length = amtV (ws[2]'(by omega)).w 65536 := by
   unfold hV; rw [List.getElem?_eq_getElem (by omega)]; simp [h5]
  have v3 : hC ws ws.length = amtV (ws[3]'(by omega)).w 65536 := by
   unfold hC; rw [List.getElem?_eq_getElem (by omega)]; simp [h5]
  rw [e2, e3, v2, v3]
  exact ⟨h5, b2.1.symm, b3.1.symm, b2.2, b3.2.1⟩
end

/-! ### behind the head -/
theorem body_line {n : Nat} {V C : Int} (rest : List Piece) (ws : List Piece) : ∀ (E L : List Int) (op : Bool), (E.length : Int) ≤ C → (op = true → (E.length : Int) < C) →
  ((bRun V C ws E L).1.1 ≠ 0 → bodyRun n V C (ws ++ rest) E L op = .error (bRun V C ws E L).1) ∧
  ((bRun V C ws E L).1.1 = 0 → ∃ op', bodyRun n V C (ws ++ rest) E L op = bodyRun n V C rest (bRun V C ws E L).2.1 (bRun V C ws E L).2.2 op' ∧ (((bRun V C ws E L).2.1.length : Int) ≤ C) ∧ (op' = true → ((bRun V C ws E L).2.1.length : Int) < C) ∧ (bRun V C ws E L).2.1.length + (bRun V C ws E L).2.2.length ≤ E.length + L.length + ws.length) := by
 induction ws with
 | nil => intro E L op h1 h2; exact ⟨fun h => absurd rfl h, fun _ => ⟨op, rfl, h1, h2, by simp [bRun]⟩⟩
 | cons p t ih =>
  intro E L op h1 h2
  rw [bRun, List.cons_append, bodyRun]
  by_cases a1 : (E.length : Int) = C
  ·have e : litE V C E L p.w = 135 := by unfold litE; rw [if_pos a1]
   simp [e, a1]
  by_cases a2 : litFine p.w = false
  ·have e : litE V C E L p.w = 133 := by unfold litE; rw [if_neg a1, if_pos a2]
   simp [e, a1, a2]
  by_cases a3 : V < litNum p.w ∨ litNum p.w < -V
  ·have e : litE V C E L p.w = 3 := by unfold litE; rw [if_neg a1, if_neg a2, if_pos a3]
   rw [if_neg a1, if_neg a2, if_pos a3, if_pos (by rw [e]; decide), e]
   exact ⟨fun _ => rfl, fun h => absurd (show (3 : Int) = 0 from h) (by decide)⟩
  by_cases a4 : litNum p.w = 0
  ·have e : litE V C E L p.w = 0 := by unfold litE; rw [if_neg a1, if_neg a2, if_neg a3, if_pos a4]
   have hs := lit_end e a4
   rw [if_neg a1, if_neg a2, if_neg a3, if_pos a4, if_neg (by simpa using e), hs.1, hs.2]
   have := ih (E ++ [(L.length : Int)]) L false (by simp; omega) (by simp)
   refine ⟨this.1, fun h => ?_⟩
   obtain ⟨op', b1, b2, b3, b4⟩ := this.2 h
   refine ⟨op', b1, b2, b3, ?_⟩
   simp at b4 ⊢
   omega
  by_cases a5 : L.length = 1048576
  ·have e : litE V C E L p.w = 8 := by unfold litE; rw [if_neg a1, if_neg a2, if_neg a3, if_neg a4, if_pos a5]
   rw [if_neg a1, if_neg a2, if_neg a3, if_neg a4, if_pos a5, if_pos (by rw [e]; decide), e]
   exact ⟨fun _ => rfl, fun h => absurd (show (8 : Int) = 0 from h) (by decide)⟩
  ·have e : litE V C E L p.w = 0 := by unfold litE; rw [if_neg a1, if_neg a2, if_neg a3, if_neg a4, if_neg a5]
   have hs := lit_on e a4
   rw [if_neg a1, if_neg a2, if_neg a3, if_neg a4, if_neg a5, if_neg (by simpa using e), hs.1, hs.2]
   have := ih E (L ++ [litNum p.w]) true h1 (fun _ => by omega)
   refine ⟨this.1, fun h => ?_⟩
   obtain ⟨op', b1, b2, b3, b4⟩ := this.2 h
   refine ⟨op', b1, b2, b3, ?_⟩
   simp at b4 ⊢
   omega
end Go.Proofs.YtdkboifpdodonacGreatDoor
/-
 One line of the text: what has been read so far, and the landed program's line over it.
-/
namespace Go.Proofs.YtdkboifpdodonacGreatDoor
open Go.RowKit Go.Deep PureCnf
set_option maxRecDepth 100000

theorem cutL_tw {p : UInt8 → Bool} {l : List UInt8} {k e : Nat} (he : e ≤ l.length) : (cutL l k e).takeWhile p = cutL l k (runW p l k e) := by
 have h1 : (cutL l k e).takeWhile p = (cutL l k e).take ((cutL l k e).takeWhile p).length := List.prefix_iff_eq_take.1 (List.takeWhile_prefix _)
 have h2 : ((cutL l k e).takeWhile p).length ≤ e - k := by
  have := (List.takeWhile_prefix p (l := cutL l k e)).length_le
  rwa [cutL_length he] at this
 rw [h1, ← cutL_run]
 generalize ((cutL l k e).takeWhile p).length = n at h2
 unfold cutL
 rw [List.drop_take, List.drop_take, List.take_take, Nat.min_eq_left h2, Nat.add_sub_cancel_left]

theorem hrun_le {n : Nat} {l : List Piece} : (∀ p ∈ l, p.at_ + p.w.length ≤ n) → ∀ {i : Nat} {f : Int × Nat}, hrun i l = some f → f.2 ≤ n := by
 induction l with
 | nil => intro _ i f h; simp [hrun] at h
 | cons p t ih =>
  intro hw i f h
  rw [hrun] at h
  split at h
  ·cases h
   have := hw p (by simp)
   simp; omega
  ·exact ih (fun q hq => hw q (by simp [hq])) h
theorem hOut_le {n : Nat} {l : List Piece} (hw : ∀ p ∈ l, p.at_ + p.w.length ≤ n) : (hOut l).2 ≤ n := by
 unfold hOut
 split
 ·next f hf => exact hrun_le hw hf
 ·split
  ·show hEnd l ≤ n
   unfold hEnd
   cases h : l[l.length - 1]? with
   | none => exact Nat.zero_le _
   | some p => exact hw p (List.mem_of_getElem? h)
  ·exact Nat.zero_le _
theorem bRun_le {n : Nat} {V C : Int} {l : List Piece} : (∀ p ∈ l, p.at_ + p.w.length ≤ n) → ∀ {E L : List Int}, (bRun V C l E L).1.2 ≤ n := by
 induction l with
 | nil => intro _ E L; exact Nat.zero_le _
 | cons p t ih =>
  intro hw E L
  rw [bRun]
  split
  ·have := hw p (by simp)
   simp; omega
  ·exact ih (fun q hq => hw q (by simp [hq]))

/-- what has been read ahead of place i, where a line begins. -/
structure Sofar (l : List UInt8) (i line : Nat) (V C : Int) (E L : List Int) (bg : Bool) : Prop where
 no : bg = false → V = 0 ∧ C = 0 ∧ E = [] ∧ L = [] ∧ piecesFrom l 0 0 = piecesFrom l i line
 yes : bg = true → headN l.length (piecesFrom l 0 0) = none ∧ V = numOf (piecesFrom l 0 0) 2 ∧ C = numOf (piecesFrom l 0 0) 3 ∧ (0 ≤ V ∧ V ≤ 65536) ∧ (E.length : Int) ≤ C ∧ E.length + L.length ≤ i ∧
  ∃ op, bodyRun l.length V C ((piecesFrom l 0 0).drop 4) [] [] false = bodyRun l.length V C (piecesFrom l i line) E L op ∧ (op = true → (E.length : Int) < C)

theorem line_step {w0 W : World} {b B : Nat} {V C : Int} {E L : List Int} {ve vl v : Value} {bg : Bool} (l : List UInt8) (i line : Nat) (hi : i < l.length) (hl : l.length ≤ 1048576)
  (h : Cl w0 W b V E L ve vl bg C) (hr : WRow W B v (lineWords l i (runW lineB l i l.length) line)) (hB : b < B) (hS : Sofar l i line V C E L bg) :
  Calls Tryz.prog 39 #[.pointer (some ⟨b, 0, none⟩), v] W fun e W' => ∃ (c : Int) (at_ : Nat), e = .returned (.tuple #[.int .i64 c, .int .i64 (at_ : Int)]) ∧
   ∃ V' C' E' L' ve' vl' bg', Cl w0 W' b V' E' L' ve' vl' bg' C' ∧ (c = 0 → Sofar l (runW lineB l i l.length + 1) (line + 1) V' C' E' L' bg') ∧ (c ≠ 0 → parseN l = .error (c, some at_) ∧ at_ ≤ l.length) := by
 have hlen : ¬ 1048576 < l.length := by omega
 have e0 := runW_ge lineB l i l.length
 have e1 := runW_le (p := lineB) (l := l) (i := i) (e := l.length) (by omega)
 have hpc := piecesFrom_on (line := line) hi
 obtain ⟨e, he⟩ : ∃ e, e = runW lineB l i l.length := ⟨_, rfl⟩
 rw [← he] at e0 e1 hpc hr ⊢
 obtain ⟨ws, hws⟩ : ∃ ws, ws = lineWords l i e line := ⟨_, rfl⟩
 have hin : ∀ p ∈ ws, p.at_ + p.w.length ≤ e := by rw [hws]; exact lineWords_in
 have hcn : ws.length ≤ e - i := by rw [hws]; exact lineWords_count
 have hk : ∀ p ∈ ws, p.line = line := by rw [hws]; exact lineWords_line
 have hk2 := pieces_line l (e + 1) (line + 1)
 rw [← hws] at hpc hr
 by_cases h0 : ws.length = 0
 ·have hw0 : ws = [] := List.eq_nil_of_length_eq_zero h0
  rw [hw0] at hr hpc
  simp only [List.nil_append] at hpc
  refine (line_none h hr).mono ?_
  rintro x W' ⟨rfl, cl⟩
  refine ⟨0, 0, rfl, V, C, E, L, ve, vl, bg, cl, fun _ => ⟨fun hb => ?_, fun hb => ?_⟩, fun hc => absurd rfl hc⟩
  ·have := hS.no hb
   rw [hpc] at this
   exact this
  ·obtain ⟨a1, a2, a3, a4, a5, a6, op, a7, a8⟩ := hS.yes hb
   rw [hpc] at a7
   exact ⟨a1, a2, a3, a4, a5, by omega, op, a7, a8⟩
 ·cases bg with
  | false =>
   obtain ⟨rfl, rfl, rfl, rfl, hp⟩ := hS.no rfl
   refine (line_head ws h hr hB (by omega) (by omega) (fun p hp => by have := hin p hp; omega)).mono ?_
   rintro x W' ⟨rfl, V', C', cl, hg⟩
   have hh := head_line (n := l.length) hk (fun p hp => by have := hk2 p hp; omega) (by omega)
   rw [← hpc, ← hp] at hh
   refine ⟨(hOut ws).1, (hOut ws).2, rfl, V', C', [], [], ve, vl, true, cl, fun hc => ⟨fun hb => Bool.noConfusion hb, fun _ => ?_⟩, fun hc => ?_⟩
   ·rw [if_pos hc] at hh
    obtain ⟨b1, b2, b3, b4, b5⟩ := head_good (rest := piecesFrom l (e + 1) (line + 1)) hc
    rw [← hpc, ← hp] at b2 b3
    obtain ⟨rfl, rfl⟩ := hg hc
    refine ⟨hh, b2.symm, b3.symm, b4, by simpa using b5, by simp, false, ?_, fun hb => by cases hb⟩
    rw [hp, hpc, ← b1, List.drop_left]
   ·rw [if_neg hc] at hh
    refine ⟨parseN_head hlen hh, ?_⟩
    have := hOut_le hin
    omega
  | true =>
   obtain ⟨a1, a2, a3, a4, a5, a6, op, a7, a8⟩ := hS.yes rfl
   refine (line_body ws h hr hB (by omega) a4 (by omega) (fun p hp => by have := hin p hp; omega)).mono ?_
   rintro x W' ⟨rfl, ve', vl', cl⟩
   have hb := body_line (n := l.length) (V := V) (C := C) (piecesFrom l (e + 1) (line + 1)) ws E L op a5 a8
   rw [← hpc] at hb
   refine ⟨(bRun V C ws E L).1.1, (bRun V C ws E L).1.2, rfl, V, C, _, _, ve', vl', true, cl, fun hc => ⟨fun hb => Bool.noConfusion hb, fun _ => ?_⟩, fun hc => ?_⟩
   ·obtain ⟨op', b1, b2, b3, b4⟩ := hb.2 hc
    exact ⟨a1, a2, a3, a4, b2, by omega, op', by rw [a7, b1], b3⟩
   ·refine ⟨parseN_err (f := (bRun V C ws E L).1) hlen a1 (by rw [← a2, ← a3, a7, hb.1 hc]), ?_⟩
    have := bRun_le (V := V) (C := C) hin (E := E) (L := L)
    omega
end Go.Proofs.YtdkboifpdodonacGreatDoor
