/-
  The landed program's literal.
-/
import Derived.Test.YtdkboifpdodonaaDoorD7
namespace Go.Proofs.YtdkboifpdodonaaDoor
open Go.RowKit Go.Deep PureCnf
set_option maxRecDepth 100000

/-- what a word behind the head is refused with. -/
def litE (V C : Int) (E L : List Int) (X : List UInt8) : Int :=
  if (E.length : Int) = C then 135 else if litFine X = false then 133 else if V < litNum X ∨ litNum X < -V then 3 else if litNum X = 0 then 0 else if L.length = 1048576 then 8 else 0
def litEs (V C : Int) (E L : List Int) (X : List UInt8) : List Int := if litE V C E L X = 0 ∧ litNum X = 0 then E ++ [(L.length : Int)] else E
def litLs (V C : Int) (E L : List Int) (X : List UInt8) : List Int := if litE V C E L X = 0 ∧ litNum X ≠ 0 then L ++ [litNum X] else L
theorem lit_err {V C : Int} {E L : List Int} {X : List UInt8} {z : Int} (h : litE V C E L X = z) (hz : z ≠ 0) : litEs V C E L X = E ∧ litLs V C E L X = L := by
  unfold litEs litLs
  rw [h, if_neg (by simp [hz]), if_neg (by simp [hz])]
  exact ⟨rfl, rfl⟩
theorem lit_end {V C : Int} {E L : List Int} {X : List UInt8} (h : litE V C E L X = 0) (hz : litNum X = 0) : litEs V C E L X = E ++ [(L.length : Int)] ∧ litLs V C E L X = L := by
  unfold litEs litLs
  rw [h, if_pos ⟨rfl, hz⟩, if_neg (by simp [hz])]
  exact ⟨rfl, rfl⟩
theorem lit_on {V C : Int} {E L : List Int} {X : List UInt8} (h : litE V C E L X = 0) (hz : litNum X ≠ 0) : litEs V C E L X = E ∧ litLs V C E L X = L ++ [litNum X] := by
  unfold litEs litLs
  rw [h, if_neg (by simp [hz]), if_pos ⟨rfl, hz⟩]
  exact ⟨rfl, rfl⟩

theorem number_list (X : List UInt8) (w : World) (hs : X.length ≤ 1099511627776) :
    Calls Tryd.prog 100 #[str X, .int .i64 2147483647] w fun e w' => e = .returned (.tuple #[.int .i64 (numV X 2147483647), .bool (numY X 2147483647)]) ∧ Below w.heap.size w w' := number33_any ⟨X.toArray⟩ 2147483647 w (show X.toArray.size ≤ _ by simpa using hs) (by omega)
theorem cutPrefix_list (X : List UInt8) (w : World) : Calls Tryd.prog 99 #[str X, .string ⟨#[45]⟩] w fun e w' => e = .returned (.tuple #[str (bare X), .bool (decide (X.head? = some 45))]) ∧ w' = w := cutPrefix32 ⟨X.toArray⟩ w
theorem bare_le (X : List UInt8) : (bare X).length ≤ X.length := by unfold bare; split <;> simp
theorem litFine_bare (X : List UInt8) : litFine X = if X.head? = some 45 then decide (0 < numB (bare X) 2147483647) else decide (0 ≤ numB (bare X) 2147483647) := by
  unfold litFine bare
  by_cases h : X.head? = some 45
  · rw [if_pos h, if_pos h, if_pos h]
  · rw [if_neg h, if_neg h, if_neg h]
theorem litNum_bare (X : List UInt8) : litNum X = if X.head? = some 45 then (if 0 < numB (bare X) 2147483647 then -numB (bare X) 2147483647 else 0) else (if 0 ≤ numB (bare X) 2147483647 then numB (bare X) 2147483647 else 0) := by
  unfold litNum bare
  by_cases h : X.head? = some 45
  · simp only [if_pos h]
  · simp only [if_neg h]

/-- append of one number, in a region of whichever order. -/
theorem step_int {ops : Array Oper} {o : Oper} {a : Act} {w : World} {K : Act → World → Prop} {Q : Exit → Act → World → Prop} {X : Prop} (hgd : o.guard = none) (sl x : Operand)
    (ho : o.op = .call { callee := .builtin .append, args := #[sl, x], argTypes := #[22, 22] }) (B : Nat) (v : Value) (l : List Int) (y : Int) (ad : Addr) (hs : a.eval sl = v) (hown : w.ownsRow B 3 1 v l.length (ci l)) (hx : a.eval x = .slice (some ad) 1 1)
    (hu : w.cell? ad = some (.int .i64 y)) (hn : l.length ≤ 1099511627776) (hB : B ≤ w.heap.size)
    (h : ∀ v' w', w'.ownsRow B 3 1 v' (l ++ [y]).length (ci (l ++ [y])) → w.grownBy w' v.ownBlock → (v'.ownBlock = v.ownBlock ∨ v'.ownBlock = some w.heap.size) → K (a.put o.dst v') w') : if Region.wanted o (yielded ops a.tmps) = true then Oper.wp Tryd.prog o a w K Q else X := by
  have hw : Region.wanted o (yielded ops a.tmps) = true := by simp [Region.wanted, hgd]
  rw [if_pos hw]
  obtain ⟨v', w', hr, h1, h2, h3⟩ := run_append_int w B o.type v l hown ad y hu hn hB
  unfold Oper.wp execOp
  simp only [ho, resolve, invoke, builtin, Sem.run_bind, Sem.run_pure, Result.andThen_ok, List.map_toArray, List.map_cons, List.map_nil, hs, hx, hr]
  exact h v' w' h1 h2 h3
/-- append of one number, in a region of the text's order. -/
theorem app_int {ops : Array Oper} {rest : List Oper} {o : Oper} {a : Act} {Q : Exit → Act → World → Prop} {w : World} (hgd : o.guard = none) (sl x : Operand)
    (ho : o.op = .call { callee := .builtin .append, args := #[sl, x], argTypes := #[22, 22] }) (B : Nat) (v : Value) (l : List Int) (y : Int) (ad : Addr) (hs : a.eval sl = v) (hown : w.ownsRow B 3 1 v l.length (ci l)) (hx : a.eval x = .slice (some ad) 1 1)
    (hu : w.cell? ad = some (.int .i64 y)) (hn : l.length ≤ 1099511627776) (hB : B ≤ w.heap.size)
    (h : ∀ v' w', w'.ownsRow B 3 1 v' (l ++ [y]).length (ci (l ++ [y])) → w.grownBy w' v.ownBlock → (v'.ownBlock = v.ownBlock ∨ v'.ownBlock = some w.heap.size) → wpList Tryd.prog ops Q rest (a.put o.dst v') w') : wpList Tryd.prog ops Q (o :: rest) a w := by
  refine wpList_plain hgd fun K' hK' => ?_
  obtain ⟨v', w', hr, h1, h2, h3⟩ := run_append_int w B o.type v l hown ad y hu hn hB
  unfold Oper.wp
  simp [execOp, ho, resolve, invoke, builtin, hs, hx, hr, Result.andThen]
  exact hK' _ _ (h v' w' h1 h2 h3)
theorem own_shape {W : World} {B e size n : Nat} {v : Value} {xs : List Value} (h : W.ownsRow B e size v n xs) : ∃ sa c, v = .slice sa n c := by
  rcases h.2 with ⟨hv, h0⟩ | ⟨g, cap, cur, hv, _⟩
  · exact ⟨none, 0, by rw [hv, h0]⟩
  · exact ⟨_, _, hv⟩
theorem Cl.drew {w0 W : World} {b : Nat} {V C : Int} {E L : List Int} {ve vl : Value} {bg : Bool} (h : Cl w0 W b V E L ve vl bg C) : Cl w0 W.drew b V E L ve vl bg C := h.on (Below.refl _ _).drew
theorem Cl.rowE {w0 W : World} {b : Nat} {V C : Int} {E L : List Int} {ve vl : Value} {bg : Bool} (h : Cl w0 W b V E L ve vl bg C) {W' : World} (hg : W.grownBy W' ve.ownBlock) : W'.heap[b]? = some (.cells #[.int .i64 V, ve, vl, .bool bg, .int .i64 C] 93 (0, 0)) := by
  rw [← h.row]
  refine hg.block b h.size (fun e => ?_)
  have := (h.oe.lt b e.symm).1
  omega
theorem Cl.rowL {w0 W : World} {b : Nat} {V C : Int} {E L : List Int} {ve vl : Value} {bg : Bool} (h : Cl w0 W b V E L ve vl bg C) {W' : World} (hg : W.grownBy W' vl.ownBlock) : W'.heap[b]? = some (.cells #[.int .i64 V, ve, vl, .bool bg, .int .i64 C] 93 (0, 0)) := by
  rw [← h.row]
  refine hg.block b h.size (fun e => ?_)
  have := (h.ol.lt b e.symm).1
  omega

set_option maxHeartbeats 2000000 in
theorem literal_A {w0 W : World} {b : Nat} {V C : Int} {E L : List Int} {ve vl : Value} {bg : Bool} (h : Cl w0 W b V E L ve vl bg C) (X : List UInt8) (hC : (E.length : Int) = C) :
    Calls Tryd.prog 74 #[.pointer (some ⟨b, 0, none⟩), str X] W fun e W' => e = .returned (.int .i64 (litE V C E L X)) ∧ (∃ ve' vl', Cl w0 W' b V (litEs V C E L X) (litLs V C E L X) ve' vl' bg C) ∧ Keep b W W' := by
  have HE : Hid (litE V C E L X = 135) := by show _ = _; unfold litE; rw [if_pos hC]
  obtain ⟨⟨se, ce, rfl, hce⟩, sl, cl, rfl, hcl⟩ := h.forms
  have c0 := fun j => cell_row h.row j
  have HCL := hid h
  subst hC
  clear h
  go_enter Tryd.func74, Tryd.ntmps74
  go_wp2_with fail
  go_quiet (fail)
  go_wp2_with fail
  go_ret
  rw [HE.out]
  have hs := lit_err HE.out (by decide)
  rw [hs.1, hs.2]
  have b2 : Below W.heap.size W (W.drewN nq) := Below.drewN' (Below.refl _ _) nq
  exact ⟨rfl, ⟨_, _, HCL.out.on b2⟩, Keep.of_below b2⟩

set_option maxHeartbeats 2000000 in
set_option maxRecDepth 100000 in
theorem literal_B1 {w0 W : World} {b : Nat} {V C : Int} {E L : List Int} {ve vl : Value} {bg : Bool} (h : Cl w0 W b V E L ve vl bg C) (X : List UInt8) (hX : X.length ≤ 1099511627776) (_hV : 0 ≤ V ∧ V ≤ 65536) (_hE : E.length ≤ 1048576) (_hL : L.length ≤ 1048576)
    (hC : ¬ (E.length : Int) = C) (hn : numB (bare X) 2147483647 = -1) :
    Calls Tryd.prog 74 #[.pointer (some ⟨b, 0, none⟩), str X] W fun e W' => e = .returned (.int .i64 (litE V C E L X)) ∧ (∃ ve' vl', Cl w0 W' b V (litEs V C E L X) (litLs V C E L X) ve' vl' bg C) ∧ Keep b W W' := by
  have hf : litFine X = false := by rw [litFine_bare, hn]; split <;> rfl
  have HE : Hid (litE V C E L X = 133) := by show _ = _; unfold litE; rw [if_neg hC, if_pos hf]
  have e1 := num_no hn
  obtain ⟨⟨se, ce, rfl, hce⟩, sl, cl, rfl, hcl⟩ := h.forms
  have c0 := fun j => cell_row h.row j
  have HCL := hid h
  have hC2 : ((E.length : Int) == C) = false := by simpa using hC
  have HCP := fun W => hid (cutPrefix_list X W)
  have HNM := fun W => hid (number_list (bare X) W (by have := bare_le X; omega))
  simp only [e1.1, e1.2] at HCP HNM
  obtain ⟨Y, hY⟩ : ∃ Y, Y = bare X := ⟨_, rfl⟩
  simp only [← hY] at HCP HNM
  clear h hC hY hf hn e1
  go_enter Tryd.func74, Tryd.ntmps74
  go_wp2_with fail
  go_quiet (fail)
  go_wp2_with (go_at_call 99; refine (HCP _).out.mono ?_; rintro e w' ⟨rfl, rfl⟩)
  refine (HNM _).out.mono ?_
  rintro e w1 ⟨rfl, b1⟩
  have b2 : Below W.heap.size W w1 := (Below.drewN' (Below.refl _ _) nq).trans b1
  have cl1 := HCL.out.on b2
  have CL1 := hid cl1
  have HB2 := hid b2
  have hbs := cl1.size
  clear c0
  have c0 := fun j => cell_row cl1.row j
  have f0 := fun j => unfrozen_row cl1.row j
  have hb1 : b < w1.heap.size := by omega
  clear b1 b2 cl1 HCL
  go_wp2_with fail
  go_ret
  rw [HE.out]
  have hs := lit_err HE.out (by decide)
  rw [hs.1, hs.2]
  exact ⟨rfl, ⟨_, _, CL1.out⟩, Keep.of_below HB2.out⟩

set_option maxHeartbeats 2000000 in
set_option maxRecDepth 100000 in
theorem literal_B2 {w0 W : World} {b : Nat} {V C : Int} {E L : List Int} {ve vl : Value} {bg : Bool} (h : Cl w0 W b V E L ve vl bg C) (X : List UInt8) (hX : X.length ≤ 1099511627776) (_hV : 0 ≤ V ∧ V ≤ 65536) (_hE : E.length ≤ 1048576) (_hL : L.length ≤ 1048576)
    (hC : ¬ (E.length : Int) = C) (hn : numB (bare X) 2147483647 = 0) (hm : X.head? = some 45) :
    Calls Tryd.prog 74 #[.pointer (some ⟨b, 0, none⟩), str X] W fun e W' => e = .returned (.int .i64 (litE V C E L X)) ∧ (∃ ve' vl', Cl w0 W' b V (litEs V C E L X) (litLs V C E L X) ve' vl' bg C) ∧ Keep b W W' := by
  have hf : litFine X = false := by rw [litFine_bare, hn, if_pos hm]; rfl
  have HE : Hid (litE V C E L X = 133) := by show _ = _; unfold litE; rw [if_neg hC, if_pos hf]
  have e1 := num_yes (v := 0) hn
  obtain ⟨⟨se, ce, rfl, hce⟩, sl, cl, rfl, hcl⟩ := h.forms
  have c0 := fun j => cell_row h.row j
  have HCL := hid h
  have hC2 : ((E.length : Int) == C) = false := by simpa using hC
  have HCP := fun W => hid (cutPrefix_list X W)
  have HNM := fun W => hid (number_list (bare X) W (by have := bare_le X; omega))
  simp only [e1.1, e1.2, hm, decide_true] at HCP HNM
  obtain ⟨Y, hY⟩ : ∃ Y, Y = bare X := ⟨_, rfl⟩
  simp only [← hY] at HCP HNM
  clear h hC hY hf hn e1 hm
  go_enter Tryd.func74, Tryd.ntmps74
  go_wp2_with fail
  go_quiet (fail)
  go_wp2_with (go_at_call 99; refine (HCP _).out.mono ?_; rintro e w' ⟨rfl, rfl⟩)
  refine (HNM _).out.mono ?_
  rintro e w1 ⟨rfl, b1⟩
  have b2 : Below W.heap.size W w1 := (Below.drewN' (Below.refl _ _) nq).trans b1
  have cl1 := HCL.out.on b2
  have CL1 := hid cl1
  have HB2 := hid b2
  have hbs := cl1.size
  clear c0
  have c0 := fun j => cell_row cl1.row j
  have f0 := fun j => unfrozen_row cl1.row j
  have hb1 : b < w1.heap.size := by omega
  clear b1 b2 cl1 HCL
  go_wp2_with fail
  go_ret
  rw [HE.out]
  have hs := lit_err HE.out (by decide)
  rw [hs.1, hs.2]
  exact ⟨rfl, ⟨_, _, CL1.out⟩, Keep.of_below HB2.out⟩

set_option maxHeartbeats 2000000 in
set_option maxRecDepth 100000 in
theorem literal_C {w0 W : World} {b : Nat} {V C : Int} {E L : List Int} {ve vl : Value} {bg : Bool} (h : Cl w0 W b V E L ve vl bg C) (X : List UInt8) (hX : X.length ≤ 1099511627776) (hV : 0 ≤ V ∧ V ≤ 65536) (_hE : E.length ≤ 1048576) (_hL : L.length ≤ 1048576)
    (hC : ¬ (E.length : Int) = C) (v : Nat) (hn : numB (bare X) 2147483647 = (v : Int)) (hf : litFine X = true) (hv : V < (v : Int)) (hq : litNum X = v ∨ litNum X = -(v : Int)) :
    Calls Tryd.prog 74 #[.pointer (some ⟨b, 0, none⟩), str X] W fun e W' => e = .returned (.int .i64 (litE V C E L X)) ∧ (∃ ve' vl', Cl w0 W' b V (litEs V C E L X) (litLs V C E L X) ve' vl' bg C) ∧ Keep b W W' := by
  have HE : Hid (litE V C E L X = 3) := by
    show _ = _
    unfold litE; rw [if_neg hC, if_neg (by rw [hf]; decide), if_pos (by omega)]
  have e1 := num_yes hn
  have hm : (decide (X.head? = some 45) && decide (v = 0)) = false := by
    rw [litFine_bare, hn] at hf
    by_cases h : X.head? = some 45
    · rw [if_pos h] at hf
      simp at hf
      simp; omega
    · simp [h]
  obtain ⟨mn, hmn⟩ : ∃ mn, mn = decide (X.head? = some 45) := ⟨_, rfl⟩
  rw [← hmn] at hm
  have hv1 : v ≤ 2147483647 := by have := (numB_range (bare X) 2147483647).2; omega
  have hz : ((v : Int) == 0) = false := by simp; omega
  obtain ⟨⟨se, ce, rfl, hce⟩, sl, cl, rfl, hcl⟩ := h.forms
  have c0 := fun j => cell_row h.row j
  have HCL := hid h
  have hC2 : ((E.length : Int) == C) = false := by simpa using hC
  have HCP := fun W => hid (cutPrefix_list X W)
  have HNM := fun W => hid (number_list (bare X) W (by have := bare_le X; omega))
  simp only [e1.1, e1.2, ← hmn] at HCP HNM
  obtain ⟨Y, hY⟩ : ∃ Y, Y = bare X := ⟨_, rfl⟩
  simp only [← hY] at HCP HNM
  clear h hC hY hf hn e1 hmn hq hm
  go_enter Tryd.func74, Tryd.ntmps74
  go_wp2_with fail
  go_quiet (fail)
  go_wp2_with (go_at_call 99; refine (HCP _).out.mono ?_; rintro e w' ⟨rfl, rfl⟩)
  refine (HNM _).out.mono ?_
  rintro e w1 ⟨rfl, b1⟩
  have b2 : Below W.heap.size W w1 := (Below.drewN' (Below.refl _ _) nq).trans b1
  have cl1 := HCL.out.on b2
  have CL1 := hid cl1
  have HB2 := hid b2
  have hbs := cl1.size
  clear c0
  have c0 := fun j => cell_row cl1.row j
  have f0 := fun j => unfrozen_row cl1.row j
  have hb1 : b < w1.heap.size := by omega
  clear b1 b2 cl1 HCL
  go_wp2_with fail
  all_goals
    go_ret
    rw [HE.out]
    have hs := lit_err HE.out (by decide)
    rw [hs.1, hs.2]
    exact ⟨rfl, ⟨_, _, CL1.out⟩, Keep.of_below HB2.out⟩

set_option maxHeartbeats 2000000 in
set_option maxRecDepth 100000 in
theorem literal_D {w0 W : World} {b : Nat} {V C : Int} {E L : List Int} {ve vl : Value} {bg : Bool} (h : Cl w0 W b V E L ve vl bg C) (X : List UInt8) (hX : X.length ≤ 1099511627776) (hV : 0 ≤ V ∧ V ≤ 65536) (hE : E.length ≤ 1048576) (_hL : L.length ≤ 1048576)
    (hC : ¬ (E.length : Int) = C) (hn : numB (bare X) 2147483647 = 0) (hm : ¬ X.head? = some 45) :
    Calls Tryd.prog 74 #[.pointer (some ⟨b, 0, none⟩), str X] W fun e W' => e = .returned (.int .i64 (litE V C E L X)) ∧ (∃ ve' vl', Cl w0 W' b V (litEs V C E L X) (litLs V C E L X) ve' vl' bg C) ∧ Keep b W W' := by
  have hf : litFine X = true := by rw [litFine_bare, hn, if_neg hm]; rfl
  have hq : litNum X = 0 := by rw [litNum_bare, hn, if_neg hm]; rfl
  have HE : Hid (litE V C E L X = 0) := by
    show _ = _
    unfold litE; rw [if_neg hC, if_neg (by rw [hf]; decide), if_neg (by omega), if_pos hq]
  have HQ := hid hq
  have e1 := num_yes (v := 0) hn
  have hm2 : decide (X.head? = some 45) = false := by simpa using hm
  obtain ⟨⟨se, ce, rfl, hce⟩, sl, cl, rfl, hcl⟩ := h.forms
  have c0 := fun j => cell_row h.row j
  have HCL := hid h
  have hC2 : ((E.length : Int) == C) = false := by simpa using hC
  have HCP := fun W => hid (cutPrefix_list X W)
  have HNM := fun W => hid (number_list (bare X) W (by have := bare_le X; omega))
  simp only [e1.1, e1.2, hm2] at HCP HNM
  obtain ⟨Y, hY⟩ : ∃ Y, Y = bare X := ⟨_, rfl⟩
  simp only [← hY] at HCP HNM
  clear h hC hY hf hn e1 hm hq hm2
  go_enter Tryd.func74, Tryd.ntmps74
  go_wp2_with fail
  go_quiet (fail)
  go_wp2_with (go_at_call 99; refine (HCP _).out.mono ?_; rintro e w' ⟨rfl, rfl⟩)
  refine (HNM _).out.mono ?_
  rintro e w1 ⟨rfl, b1⟩
  have b2 : Below W.heap.size W w1 := (Below.drewN' (Below.refl _ _) nq).trans b1
  have cl1 := HCL.out.on b2
  have CL1 := hid cl1
  have HB2 := hid b2
  have hbs := cl1.size
  clear c0
  have c0 := fun j => cell_row cl1.row j
  have f0 := fun j => unfrozen_row cl1.row j
  have hb1 : b < w1.heap.size := by omega
  clear b1 b2 cl1 HCL
  go_wp2_with fail
  have R := hid ((CL1.out.alloc (Obj.cells #[.int .i64 (L.length : Int)] 3)).drew)
  have NR : Hid ((w1.alloc (Obj.cells #[.int .i64 (L.length : Int)] 3)).drew.heap[w1.heap.size]? = some (Obj.cells #[.int .i64 (L.length : Int)] 3)) := heap_alloc_new w1 _
  have cR := fun j => cell_row R.out.row j
  have fR := fun j => unfrozen_row R.out.row j
  go_region_law (refine step_int rfl _ _ rfl (b + 1) (.slice se E.length ce) E (L.length : Int) ⟨w1.heap.size, 0, none⟩ rfl R.out.oe rfl (by rw [cell_row NR.out]; rfl) (by omega) R.out.size ?_; intro v2 w2 o2 g2 p2; obtain ⟨sx, cx, rfl⟩ := own_shape o2; have r2 := R.out.rowE g2; have m2 := R.out.ends o2 g2 p2; have k2 := Keep.grown (b := b) g2 g2.size R.out.oe; have c2 := fun j => cell_row r2 j; have f2 := fun j => unfrozen_row r2 j; have hb2 := (Array.getElem?_eq_some_iff.1 r2).1; have M2 := hid m2; have K2 := hid k2; clear o2 g2 r2 m2 k2 p2)
  all_goals
    go_wp2
    go_ret
    have hs := lit_end HE.out HQ.out
    rw [hs.1, hs.2, HE.out]
    have M3 := M2.out
    simp only [List.length_append, List.length_cons, List.length_nil, Nat.zero_add] at M3
    exact ⟨rfl, ⟨_, _, M3⟩, (Keep.of_below HB2.out).trans ((Keep.of_below (((Below.refl _ _).alloc (Nat.le_refl _) _).drew)).trans (K2.out.trans Keep.set))⟩

set_option maxHeartbeats 2000000 in
set_option maxRecDepth 100000 in
theorem literal_E {w0 W : World} {b : Nat} {V C : Int} {E L : List Int} {ve vl : Value} {bg : Bool} (h : Cl w0 W b V E L ve vl bg C) (X : List UInt8) (hX : X.length ≤ 1099511627776) (hV : 0 ≤ V ∧ V ≤ 65536) (_hE : E.length ≤ 1048576) (_hL : L.length ≤ 1048576)
    (hC : ¬ (E.length : Int) = C) (v : Nat) (hn : numB (bare X) 2147483647 = (v : Int)) (hf : litFine X = true) (hv0 : 0 < v) (hv : (v : Int) ≤ V) (hq : litNum X = v ∨ litNum X = -(v : Int)) (hLL : L.length = 1048576) :
    Calls Tryd.prog 74 #[.pointer (some ⟨b, 0, none⟩), str X] W fun e W' => e = .returned (.int .i64 (litE V C E L X)) ∧ (∃ ve' vl', Cl w0 W' b V (litEs V C E L X) (litLs V C E L X) ve' vl' bg C) ∧ Keep b W W' := by
  have HE : Hid (litE V C E L X = 8) := by
    show _ = _
    unfold litE; rw [if_neg hC, if_neg (by rw [hf]; decide), if_neg (by omega), if_neg (by omega), if_pos hLL]
  have e1 := num_yes hn
  obtain ⟨mn, hmn⟩ : ∃ mn, mn = decide (X.head? = some 45) := ⟨_, rfl⟩
  have hv1 : v ≤ 2147483647 := by omega
  have hv2 : decide (V < (v : Int)) = false := by simp; omega
  have hz : ((v : Int) == 0) = false := by simp; omega
  obtain ⟨⟨se, ce, rfl, hce⟩, sl, cl, rfl, hcl⟩ := h.forms
  have c0 := fun j => cell_row h.row j
  have HCL := hid h
  have hC2 : ((E.length : Int) == C) = false := by simpa using hC
  have HCP := fun W => hid (cutPrefix_list X W)
  have HNM := fun W => hid (number_list (bare X) W (by have := bare_le X; omega))
  simp only [e1.1, e1.2, ← hmn] at HCP HNM
  obtain ⟨Y, hY⟩ : ∃ Y, Y = bare X := ⟨_, rfl⟩
  simp only [← hY] at HCP HNM
  clear h hC hY hf hn e1 hmn hq
  go_enter Tryd.func74, Tryd.ntmps74
  go_wp2_with fail
  go_quiet (fail)
  go_wp2_with (go_at_call 99; refine (HCP _).out.mono ?_; rintro e w' ⟨rfl, rfl⟩)
  refine (HNM _).out.mono ?_
  rintro e w1 ⟨rfl, b1⟩
  have b2 : Below W.heap.size W w1 := (Below.drewN' (Below.refl _ _) nq).trans b1
  have cl1 := HCL.out.on b2
  have CL1 := hid cl1
  have HB2 := hid b2
  have hbs := cl1.size
  clear c0
  have c0 := fun j => cell_row cl1.row j
  have f0 := fun j => unfrozen_row cl1.row j
  have hb1 : b < w1.heap.size := by omega
  clear b1 b2 cl1 HCL
  go_wp2_with fail
  all_goals
    go_ret
    rw [HE.out]
    have hs := lit_err HE.out (by decide)
    rw [hs.1, hs.2]
    exact ⟨rfl, ⟨_, _, CL1.out⟩, Keep.of_below HB2.out⟩

set_option maxHeartbeats 2000000 in
set_option maxRecDepth 100000 in
theorem literal_F {w0 W : World} {b : Nat} {V C : Int} {E L : List Int} {ve vl : Value} {bg : Bool} (h : Cl w0 W b V E L ve vl bg C) (X : List UInt8) (hX : X.length ≤ 1099511627776) (hV : 0 ≤ V ∧ V ≤ 65536) (_hE : E.length ≤ 1048576) (hL : L.length ≤ 1048576)
    (hC : ¬ (E.length : Int) = C) (v : Nat) (hn : numB (bare X) 2147483647 = (v : Int)) (hf : litFine X = true) (hv0 : 0 < v) (hv : (v : Int) ≤ V) (hm2 : decide (X.head? = some 45) = true) (hq : litNum X = -(v : Int)) (hLL : L.length ≠ 1048576) :
    Calls Tryd.prog 74 #[.pointer (some ⟨b, 0, none⟩), str X] W fun e W' => e = .returned (.int .i64 (litE V C E L X)) ∧ (∃ ve' vl', Cl w0 W' b V (litEs V C E L X) (litLs V C E L X) ve' vl' bg C) ∧ Keep b W W' := by
  have HE : Hid (litE V C E L X = 0) := by
    show _ = _
    unfold litE; rw [if_neg hC, if_neg (by rw [hf]; decide), if_neg (by omega), if_neg (by omega), if_neg hLL]
  have HS := hid (lit_on HE.out (by omega))
  rw [hq] at HS
  have e1 := num_yes hn
  have hv1 : v ≤ 2147483647 := by omega
  have hv2 : decide (V < (v : Int)) = false := by simp; omega
  have hz : ((v : Int) == 0) = false := by simp; omega
  have hL2 : ((L.length : Int) == 1048576) = false := by simp; omega
  obtain ⟨⟨se, ce, rfl, hce⟩, sl, cl, rfl, hcl⟩ := h.forms
  have c0 := fun j => cell_row h.row j
  have HCL := hid h
  have hC2 : ((E.length : Int) == C) = false := by simpa using hC
  have HCP := fun W => hid (cutPrefix_list X W)
  have HNM := fun W => hid (number_list (bare X) W (by have := bare_le X; omega))
  simp only [e1.1, e1.2, hm2] at HCP HNM
  obtain ⟨Y, hY⟩ : ∃ Y, Y = bare X := ⟨_, rfl⟩
  simp only [← hY] at HCP HNM
  clear h hC hY hf hn e1 hm2 hq
  go_enter Tryd.func74, Tryd.ntmps74
  go_wp2_with fail
  go_quiet (fail)
  go_wp2_with (go_at_call 99; refine (HCP _).out.mono ?_; rintro e w' ⟨rfl, rfl⟩)
  refine (HNM _).out.mono ?_
  rintro e w1 ⟨rfl, b1⟩
  have b2 : Below W.heap.size W w1 := (Below.drewN' (Below.refl _ _) nq).trans b1
  have cl1 := HCL.out.on b2
  have CL1 := hid cl1
  have HB2 := hid b2
  have hbs := cl1.size
  clear c0
  have c0 := fun j => cell_row cl1.row j
  have f0 := fun j => unfrozen_row cl1.row j
  have hb1 : b < w1.heap.size := by omega
  clear b1 b2 cl1 HCL
  have R := hid (CL1.out.alloc (Obj.cells #[.int .i64 (-(v : Int))] 3))
  have NR : Hid ((w1.alloc (Obj.cells #[.int .i64 (-(v : Int))] 3)).heap[w1.heap.size]? = some (Obj.cells #[.int .i64 (-(v : Int))] 3)) := heap_alloc_new w1 _
  go_wp2_with (at_builtin; refine app_int rfl _ _ rfl (b + 1) (.slice sl L.length cl) L (-(v : Int)) ⟨w1.heap.size, 0, none⟩ rfl R.out.ol rfl (by rw [cell_row NR.out]; rfl) (by omega) R.out.size ?_; intro v2 w2 o2 g2 p2; obtain ⟨sx, cx, rfl⟩ := own_shape o2; have r2 := R.out.rowL g2; have m2 := R.out.lits o2 g2 p2; have k2 := Keep.grown (b := b) g2 g2.size R.out.ol; have c2 := fun j => cell_row r2 j; have f2 := fun j => unfrozen_row r2 j; have hb2 := (Array.getElem?_eq_some_iff.1 r2).1; have M2 := hid m2; have K2 := hid k2; clear o2 g2 r2 m2 k2 p2)
  all_goals
    go_wp2
    go_ret
    rw [HS.out.1, HS.out.2, HE.out]
    have M3 := M2.out
    simp only [List.length_append, List.length_cons, List.length_nil, Nat.zero_add] at M3
    exact ⟨rfl, ⟨_, _, M3⟩, (Keep.of_below HB2.out).trans ((Keep.of_below ((Below.refl _ _).alloc (Nat.le_refl _) _)).trans (K2.out.trans Keep.set))⟩

set_option maxHeartbeats 2000000 in
set_option maxRecDepth 100000 in
theorem literal_G {w0 W : World} {b : Nat} {V C : Int} {E L : List Int} {ve vl : Value} {bg : Bool} (h : Cl w0 W b V E L ve vl bg C) (X : List UInt8) (hX : X.length ≤ 1099511627776) (hV : 0 ≤ V ∧ V ≤ 65536) (_hE : E.length ≤ 1048576) (hL : L.length ≤ 1048576)
    (hC : ¬ (E.length : Int) = C) (v : Nat) (hn : numB (bare X) 2147483647 = (v : Int)) (hf : litFine X = true) (hv0 : 0 < v) (hv : (v : Int) ≤ V) (hm2 : decide (X.head? = some 45) = false) (hq : litNum X = (v : Int)) (hLL : L.length ≠ 1048576) :
    Calls Tryd.prog 74 #[.pointer (some ⟨b, 0, none⟩), str X] W fun e W' => e = .returned (.int .i64 (litE V C E L X)) ∧ (∃ ve' vl', Cl w0 W' b V (litEs V C E L X) (litLs V C E L X) ve' vl' bg C) ∧ Keep b W W' := by
  have HE : Hid (litE V C E L X = 0) := by
    show _ = _
    unfold litE; rw [if_neg hC, if_neg (by rw [hf]; decide), if_neg (by omega), if_neg (by omega), if_neg hLL]
  have HS := hid (lit_on HE.out (by omega))
  rw [hq] at HS
  have e1 := num_yes hn
  have hv1 : v ≤ 2147483647 := by omega
  have hv2 : decide (V < (v : Int)) = false := by simp; omega
  have hz : ((v : Int) == 0) = false := by simp; omega
  have hL2 : ((L.length : Int) == 1048576) = false := by simp; omega
  obtain ⟨⟨se, ce, rfl, hce⟩, sl, cl, rfl, hcl⟩ := h.forms
  have c0 := fun j => cell_row h.row j
  have HCL := hid h
  have hC2 : ((E.length : Int) == C) = false := by simpa using hC
  have HCP := fun W => hid (cutPrefix_list X W)
  have HNM := fun W => hid (number_list (bare X) W (by have := bare_le X; omega))
  simp only [e1.1, e1.2, hm2] at HCP HNM
  obtain ⟨Y, hY⟩ : ∃ Y, Y = bare X := ⟨_, rfl⟩
  simp only [← hY] at HCP HNM
  clear h hC hY hf hn e1 hm2 hq
  go_enter Tryd.func74, Tryd.ntmps74
  go_wp2_with fail
  go_quiet (fail)
  go_wp2_with (go_at_call 99; refine (HCP _).out.mono ?_; rintro e w' ⟨rfl, rfl⟩)
  refine (HNM _).out.mono ?_
  rintro e w1 ⟨rfl, b1⟩
  have b2 : Below W.heap.size W w1 := (Below.drewN' (Below.refl _ _) nq).trans b1
  have cl1 := HCL.out.on b2
  have CL1 := hid cl1
  have HB2 := hid b2
  have hbs := cl1.size
  clear c0
  have c0 := fun j => cell_row cl1.row j
  have f0 := fun j => unfrozen_row cl1.row j
  have hb1 : b < w1.heap.size := by omega
  clear b1 b2 cl1 HCL
  have R := hid (CL1.out.alloc (Obj.cells #[.int .i64 ((v : Int))] 3))
  have NR : Hid ((w1.alloc (Obj.cells #[.int .i64 ((v : Int))] 3)).heap[w1.heap.size]? = some (Obj.cells #[.int .i64 ((v : Int))] 3)) := heap_alloc_new w1 _
  go_wp2_with (at_builtin; refine app_int rfl _ _ rfl (b + 1) (.slice sl L.length cl) L ((v : Int)) ⟨w1.heap.size, 0, none⟩ rfl R.out.ol rfl (by rw [cell_row NR.out]; rfl) (by omega) R.out.size ?_; intro v2 w2 o2 g2 p2; obtain ⟨sx, cx, rfl⟩ := own_shape o2; have r2 := R.out.rowL g2; have m2 := R.out.lits o2 g2 p2; have k2 := Keep.grown (b := b) g2 g2.size R.out.ol; have c2 := fun j => cell_row r2 j; have f2 := fun j => unfrozen_row r2 j; have hb2 := (Array.getElem?_eq_some_iff.1 r2).1; have M2 := hid m2; have K2 := hid k2; clear o2 g2 r2 m2 k2 p2)
  all_goals
    go_wp2
    go_ret
    rw [HS.out.1, HS.out.2, HE.out]
    have M3 := M2.out
    simp only [List.length_append, List.length_cons, List.length_nil, Nat.zero_add] at M3
    exact ⟨rfl, ⟨_, _, M3⟩, (Keep.of_below HB2.out).trans ((Keep.of_below ((Below.refl _ _).alloc (Nat.le_refl _) _)).trans (K2.out.trans Keep.set))⟩
end Go.Proofs.YtdkboifpdodonaaDoor
