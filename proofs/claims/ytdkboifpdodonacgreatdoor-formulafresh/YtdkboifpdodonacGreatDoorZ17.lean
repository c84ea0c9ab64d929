import Derived.Test.YtdkboifpdodonacGreatDoorZ16
set_option linter.unusedSimpArgs false
/-
 The machine's own calls: makes, opens, top, settle.
-/
namespace Go.Proofs.YtdkboifpdodonacGreatDoor.Ref
open Go.RowKit Go.Deep PureCnf PureForm
set_option maxRecDepth 100000

/-- append of one, as a step of a region that draws its order. -/
theorem step_one {ops : Array Oper} {o : Oper} {a : Act} {w : World} {K : Act → World → Prop} {Q : Exit → Act → World → Prop} {X : Prop} (hgd : o.guard = none) (sl x : Operand) (t e : TypeId) (z : Value) (size bytes : Nat)
  (ho : o.op = .call { callee := .builtin .append, args := #[sl, x], argTypes := #[t, t] }) (hu : Tryz.prog.underlying t = some (.slice e)) (hinf : (Tryz.prog.info? e).map (fun i => (i.zero, i.size, i.bytes)) = some (some z, size, bytes))
  (hzs : z.cells.size = size) (hsz : 0 < size) (hby : bytes ≤ 24) (B n : Nat) (v : Value) (xs news : List Value) (ad : Addr) (hs : a.eval sl = v) (hown : w.ownsRow B e size v n xs) (hx : a.eval x = .slice (some ad) 1 1)
  (hl : news.length = size) (hnews : ∀ j u, news[j]? = some u → w.cell? (ad.add j) = some u) (h1 : ∀ u ∈ news, u.oneCell' = true) (hn : n ≤ 1099511627776) (hB : B ≤ w.heap.size)
  (h : ∀ v' w', w'.ownsRow B e size v' (n + 1) (xs ++ news) → w.grownBy w' v.ownBlock → K (a.put o.dst v') w') : if Region.wanted o (yielded ops a.tmps) = true then Oper.wp Tryz.prog o a w K Q else X := by
 have hw : Region.wanted o (yielded ops a.tmps) = true := by simp [Region.wanted, hgd]
 rw [if_pos hw]
 obtain ⟨i, hi, hz0, hz1, hz2⟩ := info_parts hinf
 obtain ⟨v', w', hr, h2, h3, _⟩ := run_append_own (P := Tryz.prog) w B t o.type e i z size bytes hu hi hz0 hz1 hz2 hzs hsz v n xs hown ad 1 1 news (by rw [hl, Nat.one_mul]) hnews h1 (by unfold maxLen; omega) (by
  have : (n + 1) * bytes ≤ (n + 1) * 24 := Nat.mul_le_mul_left _ hby
  omega) hB
 unfold Oper.wp execOp
 simp only [ho, resolve, invoke, builtin, Sem.run_bind, Sem.run_pure, Result.andThen_ok, List.map_toArray, List.map_cons, List.map_nil, hs, hx, hr]
 exact h v' w' h2 h3

/-- append of one, in a region of the text's order. -/
theorem app_one {ops : Array Oper} {rest : List Oper} {o : Oper} {a : Act} {Q : Exit → Act → World → Prop} {w : World} (hgd : o.guard = none) (sl x : Operand) (t e : TypeId) (z : Value) (size bytes : Nat)
  (ho : o.op = .call { callee := .builtin .append, args := #[sl, x], argTypes := #[t, t] }) (hu : Tryz.prog.underlying t = some (.slice e)) (hinf : (Tryz.prog.info? e).map (fun i => (i.zero, i.size, i.bytes)) = some (some z, size, bytes))
  (hzs : z.cells.size = size) (hsz : 0 < size) (hby : bytes ≤ 24) (B n : Nat) (v : Value) (xs news : List Value) (ad : Addr) (hs : a.eval sl = v) (hown : w.ownsRow B e size v n xs) (hx : a.eval x = .slice (some ad) 1 1)
  (hl : news.length = size) (hnews : ∀ j u, news[j]? = some u → w.cell? (ad.add j) = some u) (h1 : ∀ u ∈ news, u.oneCell' = true) (hn : n ≤ 1099511627776) (hB : B ≤ w.heap.size)
  (h : ∀ v' w', w'.ownsRow B e size v' (n + 1) (xs ++ news) → w.grownBy w' v.ownBlock → wpList Tryz.prog ops Q rest (a.put o.dst v') w') : wpList Tryz.prog ops Q (o :: rest) a w := by
 obtain ⟨i, hi, hz0, hz1, hz2⟩ := info_parts hinf
 refine wpList_append_own _ hgd sl x t ho B e i z size bytes hu hi hz0 hz1 hz2 hzs hsz v n xs hs hown ad 1 1 news hx (by rw [hl, Nat.one_mul]) hnews h1 (by unfold maxLen; omega) (by
  have : (n + 1) * bytes ≤ (n + 1) * 24 := Nat.mul_le_mul_left _ hby
  omega) hB ?_
 intro v' w' h2 h3 _
 exact h v' w' h2 h3

theorem own_shape {W : World} {B e size n : Nat} {v : Value} {xs : List Value} (h : W.ownsRow B e size v n xs) : ∃ sa c, v = .slice sa n c := by
 rcases h.2 with ⟨hv, h0⟩ | ⟨g, cap, cur, hv, _⟩
 ·exact ⟨none, 0, by rw [hv, h0]⟩
 ·exact ⟨_, _, hv⟩

section
variable {w0 : Ref} {W : World} {B b : Nat} {st : List Wt} {out : List Nd} {k : Int} {made : Nat} {sv ov : Value}

set_option maxHeartbeats 1000000 in
set_option maxRecDepth 100000 in
theorem makes_any (h : MacR w0 W B b st out k made sv ov) (hm : made < 65536) :
  Calls Tryz.prog 18 #[.pointer (some ⟨b, 0, none⟩)] W fun e W' => e = .returned (.int .i64 0) ∧ MacR w0 W' B b st out k ((made + 1 : Nat) : Int) sv ov := by
 have c0 := fun j => cell_row h.row j
 have f0 := fun j => unfrozen_row h.row j
 have hb := h.size
 have H := hid (h.setMade ((made : Int) + 1))
 have hge : ¬ 65536 ≤ (made : Int) := by omega
 clear h
 go_enter Tryz.func18, Tryz.ntmps18
 go_wp2
 go_ret
 exact ⟨rfl, H.out⟩

set_option maxHeartbeats 1000000 in
set_option maxRecDepth 100000 in
theorem makes_no (h : MacR w0 W B b st out k made sv ov) (hm : 65536 ≤ made) :
  Calls Tryz.prog 18 #[.pointer (some ⟨b, 0, none⟩)] W fun e W' => e = .returned (.int .i64 8) ∧ MacE w0 W' B b := by
 have c0 := fun j => cell_row h.row j
 have hb := h.size
 have hge : 65536 ≤ (made : Int) := by omega
 have H := hid h.asE
 clear h
 go_enter Tryz.func18, Tryz.ntmps18
 go_wp2
 go_ret
 exact ⟨rfl, H.out⟩

set_option maxHeartbeats 1000000 in
set_option maxRecDepth 100000 in
theorem opens_no (h : MacR w0 W B b st out k made sv ov) (x : Wt) (hk : 64 ≤ k) :
  Calls Tryz.prog 20 #[.pointer (some ⟨b, 0, none⟩), .agg #[.int .i64 x.kind, .int .i64 x.op, .int .i64 x.n]] W fun e W' => e = .returned (.int .i64 132) ∧ MacE w0 W' B b := by
 have c0 := fun j => cell_row h.row j
 have hb := h.size
 have H := hid h
 clear h
 go_enter Tryz.func20, Tryz.ntmps20
 go_wp2
 go_ret
 exact ⟨rfl, (H.out.alloc _).asE⟩

set_option maxHeartbeats 1000000 in
set_option maxRecDepth 100000 in
theorem opens_any (h : MacR w0 W B b st out k made sv ov) (x : Wt) (hl : st.length ≤ 1048576) (hk0 : 0 ≤ k) (hk : ¬ 64 ≤ k) :
  Calls Tryz.prog 20 #[.pointer (some ⟨b, 0, none⟩), .agg #[.int .i64 x.kind, .int .i64 x.op, .int .i64 x.n]] W fun e W' => e = .returned (.int .i64 0) ∧ ∃ sv', MacR w0 W' B b (x :: st) out (k + 1) made sv' ov := by
 have c0 := fun j => cell_row h.row j
 have f0 := fun j => unfrozen_row h.row j
 have hb := h.size
 have hW1 := (h.setK (k + 1)).alloc (Obj.cells #[.int .i64 x.kind, .int .i64 x.op, .int .i64 x.n] 63)
 have hbx : ((W.setCell ⟨b, 2, none⟩ (.int .i64 (k + 1))).alloc (Obj.cells #[.int .i64 x.kind, .int .i64 x.op, .int .i64 x.n] 63)).heap[W.heap.size]? = some (Obj.cells #[.int .i64 x.kind, .int .i64 x.op, .int .i64 x.n] 63) := by
  have := heap_alloc_new (W.setCell ⟨b, 2, none⟩ (.int .i64 (k + 1))) (Obj.cells #[.int .i64 x.kind, .int .i64 x.op, .int .i64 x.n] 63)
  simpa [World.setCell] using this
 have H1 := hid hW1
 have HX := hid hbx
 clear h hW1 hbx
 go_enter Tryz.func20, Tryz.ntmps20
 go_wp2
 clear c0 f0
 generalize (W.setCell ⟨b, 2, none⟩ (.int .i64 (k + 1))).alloc (Obj.cells #[.int .i64 x.kind, .int .i64 x.op, .int .i64 x.n] 63) = W1 at *
 have c0 := fun j => cell_row H1.out.row j
 have f0 := fun j => unfrozen_row H1.out.row j
 have c1 := fun j => cell_row HX.out j
 have hb1 := H1.out.size
 have R := hid ((H1.out.alloc (Obj.cells #[.int .i64 x.kind, .int .i64 x.op, .int .i64 x.n] 63)).drew)
 have N : Hid ((W1.alloc (Obj.cells #[.int .i64 x.kind, .int .i64 x.op, .int .i64 x.n] 63)).drew.heap[W1.heap.size]? = some (Obj.cells #[.int .i64 x.kind, .int .i64 x.op, .int .i64 x.n] 63)) := heap_alloc_new W1 _
 go_region_law (refine step_one rfl _ _ 53 63 _ 3 24 rfl Tryz.underlying53 info68 rfl (by decide) (by decide) B st.length sv (wts st.reverse) (wt x) ⟨W1.heap.size, 0, none⟩ rfl R.out.ost rfl rfl (fun j u hu => by rw [add_zero_addr, cell_row N.out]; simpa [wt] using hu) (fun u hu => by simp [wt] at hu; rcases hu with rfl | rfl | rfl <;> rfl) (by omega) (by have := R.out.hB; have := R.out.size; omega) ?_; intro v2 w2 o2 g2; obtain ⟨sx, cx, rfl⟩ := own_shape o2; obtain ⟨r2, m2⟩ := R.out.push o2 g2; have c2 := fun j => cell_row r2 j; have f2 := fun j => unfrozen_row r2 j; have hb2 := (Array.getElem?_eq_some_iff.1 r2).1; have M2 := hid m2; clear o2 g2 r2 m2)
 all_goals
  go_wp2
  go_ret
  exact ⟨rfl, _, M2.out⟩

set_option maxHeartbeats 1000000 in
set_option maxRecDepth 100000 in
theorem top_nil (h : MacR w0 W B b [] out k made sv ov) :
  Calls Tryz.prog 25 #[.pointer (some ⟨b, 0, none⟩)] W fun e W' => e = .returned (.int .i64 0) ∧ ∃ n, W' = W.drewN n := by
 obtain ⟨sa, c, rfl⟩ := own_shape h.ost
 have c0 := fun j => cell_row h.row j
 have hb := h.size
 clear h
 go_enter Tryz.func25, Tryz.ntmps25
 go_wp2
 go_ret
 exact ⟨rfl, 0, rfl⟩

set_option maxHeartbeats 1000000 in
set_option maxRecDepth 100000 in
theorem top_cons {x : Wt} (h : MacR w0 W B b (x :: st) out k made sv ov) (hl : st.length ≤ 1048576) :
  Calls Tryz.prog 25 #[.pointer (some ⟨b, 0, none⟩)] W fun e W' => e = .returned (.int .i64 x.kind) ∧ ∃ n, W' = W.drewN n := by
 obtain ⟨g, cap, rfl, hc, hg, t0, t1, t2, _, _, _⟩ := h.top
 have c0 := fun j => cell_row h.row j
 have hb := h.size
 have hne : ((st.length : Int) + 1 == 0) = false := by rw [beq_eq_false_iff_ne]; omega
 clear h
 go_enter Tryz.func25, Tryz.ntmps25
 go_wp2
 go_quiet (fail)
 go_wp2
 go_ret
 exact ⟨rfl, _, rfl⟩

set_option maxHeartbeats 1000000 in
set_option maxRecDepth 100000 in
theorem settle_any {x : Wt} (h : MacR w0 W B b (x :: st) out k made sv ov) (hl : st.length ≤ 1048576) (ho : out.length ≤ 1048576) (hk0 : 0 ≤ k) (hk1 : k ≤ 100) (hx : x.kind = 1 ∨ x.kind = 2 ∨ x.kind = 4 ∨ x.kind = 5) :
  Calls Tryz.prog 46 #[.pointer (some ⟨b, 0, none⟩)] W fun e W' => e = .returned (.tuple #[]) ∧ ∃ sv' ov', MacR w0 W' B b st (out ++ [nodeOf x]) (if x.kind = 5 then k else k - 1) made sv' ov' := by
 obtain ⟨g, cap, rfl, hc, hg, t0, t1, t2, _, _, _⟩ := h.top
 have c0 := fun j => cell_row h.row j
 have f0 := fun j => unfrozen_row h.row j
 have hb := h.size
 have HW1 := hid (h.alloc (Obj.cells #[.int .i64 x.kind, .int .i64 x.op, .int .i64 x.n] 63)).drew
 have HX1 : Hid ((W.alloc (Obj.cells #[.int .i64 x.kind, .int .i64 x.op, .int .i64 x.n] 63)).drew.heap[W.heap.size]? = some (Obj.cells #[.int .i64 x.kind, .int .i64 x.op, .int .i64 x.n] 63)) := heap_alloc_new W _
 clear h
 go_enter Tryz.func46, Tryz.ntmps46
 go_wp2
 go_region
 clear c0 f0 t0 t1 t2
 generalize (W.alloc (Obj.cells #[.int .i64 x.kind, .int .i64 x.op, .int .i64 x.n] 63)).drew = W1 at *
 obtain ⟨g', cap', e, hc', hg', _, _, _, _, hpop, _⟩ := HW1.out.top
 simp only [Value.slice.injEq, Option.some.injEq, Addr.mk.injEq, and_true, true_and] at e
 obtain ⟨rfl, rfl⟩ := e
 have c0 := fun j => cell_row HW1.out.row j
 have f0 := fun j => unfrozen_row HW1.out.row j
 have hb1 := HW1.out.size
 have HP := hid hpop
 clear hpop
 go_wp2
 go_region
 have HX2 : Hid ((W1.setCell ⟨b, 0, none⟩ (.slice (some ⟨g, 0, none⟩) st.length cap)).drew.heap[W.heap.size]? = some (Obj.cells #[.int .i64 x.kind, .int .i64 x.op, .int .i64 x.n] 63)) := (Below.heap_setCell W1 _ _ _ (by simp; omega)).trans HX1.out
 have R2 := hid HP.out.drew
 clear c0 f0 hb1 HP HX1 HW1
 generalize (W1.setCell ⟨b, 0, none⟩ (.slice (some ⟨g, 0, none⟩) st.length cap)).drew = W2 at *
 have c0 := fun j => cell_row R2.out.row j
 have f0 := fun j => unfrozen_row R2.out.row j
 have hb2 := R2.out.size
 have hbx := (Array.getElem?_eq_some_iff.1 HX2.out).1
 obtain ⟨xk, xo, xn⟩ := x
 simp only at hx HX2 ⊢
 rcases hx with rfl | rfl | rfl | rfl
 ·have c1 := fun j => cell_row HX2.out j
  have R := hid (R2.out.alloc (Obj.cells #[.int .i64 3, .int .i64 0] 44))
  have N : Hid ((W2.alloc (Obj.cells #[.int .i64 3, .int .i64 0] 44)).heap[W2.heap.size]? = some (Obj.cells #[.int .i64 3, .int .i64 0] 44)) := heap_alloc_new W2 _
  go_wp2_with (at_builtin; refine app_one rfl _ _ 23 44 _ 2 16 rfl Tryz.underlying23 info51 rfl (by decide) (by decide) B out.length ov (nds out) (nd (3, 0)) ⟨W2.heap.size, 0, none⟩ rfl R.out.oout rfl rfl (fun j u hu => by rw [add_zero_addr, cell_row N.out]; simpa [nd] using hu) (fun u hu => by simp [nd] at hu; rcases hu with rfl | rfl <;> rfl) (by omega) (by have := R.out.hB; have := R.out.size; omega) ?_; intro v3 w3 o3 g3; obtain ⟨sx, cx, rfl⟩ := own_shape o3; obtain ⟨r3, m3⟩ := R.out.node o3 g3; have c3 := fun j => cell_row r3 j; have f3 := fun j => unfrozen_row r3 j; have hb3 := (Array.getElem?_eq_some_iff.1 r3).1; have M3 := hid m3; clear o3 g3 r3 m3)
  go_end0
  exact ⟨rfl, _, _, M3.out.setK (k - 1)⟩
 ·have c1 := fun j => cell_row HX2.out j
  have R := hid (R2.out.alloc (Obj.cells #[.int .i64 (xo : Int), .int .i64 (xn : Int)] 44)).drew
  have N : Hid ((W2.alloc (Obj.cells #[.int .i64 (xo : Int), .int .i64 (xn : Int)] 44)).drew.heap[W2.heap.size]? = some (Obj.cells #[.int .i64 (xo : Int), .int .i64 (xn : Int)] 44)) := heap_alloc_new W2 _
  go_wp2
  go_region_law (refine step_one rfl _ _ 23 44 _ 2 16 rfl Tryz.underlying23 info51 rfl (by decide) (by decide) B out.length ov (nds out) (nd ((xo : Int), (xn : Int))) ⟨W2.heap.size, 0, none⟩ rfl R.out.oout rfl rfl (fun j u hu => by rw [add_zero_addr, cell_row N.out]; simpa [nd] using hu) (fun u hu => by simp [nd] at hu; rcases hu with rfl | rfl <;> rfl) (by omega) (by have := R.out.hB; have := R.out.size; omega) ?_; intro v3 w3 o3 g3; obtain ⟨sx, cx, rfl⟩ := own_shape o3; obtain ⟨r3, m3⟩ := R.out.node o3 g3; have c3 := fun j => cell_row r3 j; have f3 := fun j => unfrozen_row r3 j; have hb3 := (Array.getElem?_eq_some_iff.1 r3).1; have M3 := hid m3; clear o3 g3 r3 m3)
  all_goals
   go_wp2
   go_end0
   exact ⟨rfl, _, _, M3.out.setK (k - 1)⟩
 ·have c1 := fun j => cell_row HX2.out j
  have R := hid (R2.out.alloc (Obj.cells #[.int .i64 11, .int .i64 0] 44))
  have N : Hid ((W2.alloc (Obj.cells #[.int .i64 11, .int .i64 0] 44)).heap[W2.heap.size]? = some (Obj.cells #[.int .i64 11, .int .i64 0] 44)) := heap_alloc_new W2 _
  go_wp2_with (at_builtin; refine app_one rfl _ _ 23 44 _ 2 16 rfl Tryz.underlying23 info51 rfl (by decide) (by decide) B out.length ov (nds out) (nd (11, 0)) ⟨W2.heap.size, 0, none⟩ rfl R.out.oout rfl rfl (fun j u hu => by rw [add_zero_addr, cell_row N.out]; simpa [nd] using hu) (fun u hu => by simp [nd] at hu; rcases hu with rfl | rfl <;> rfl) (by omega) (by have := R.out.hB; have := R.out.size; omega) ?_; intro v3 w3 o3 g3; obtain ⟨sx, cx, rfl⟩ := own_shape o3; obtain ⟨r3, m3⟩ := R.out.node o3 g3; have c3 := fun j => cell_row r3 j; have f3 := fun j => unfrozen_row r3 j; have hb3 := (Array.getElem?_eq_some_iff.1 r3).1; have M3 := hid m3; clear o3 g3 r3 m3)
  go_end0
  exact ⟨rfl, _, _, M3.out.setK (k - 1)⟩
 ·have c1 := fun j => cell_row HX2.out j
  have R := hid (R2.out.alloc (Obj.cells #[.int .i64 (xo : Int), .int .i64 0] 44)).drew
  have N : Hid ((W2.alloc (Obj.cells #[.int .i64 (xo : Int), .int .i64 0] 44)).drew.heap[W2.heap.size]? = some (Obj.cells #[.int .i64 (xo : Int), .int .i64 0] 44)) := heap_alloc_new W2 _
  go_wp2
  go_region_law (refine step_one rfl _ _ 23 44 _ 2 16 rfl Tryz.underlying23 info51 rfl (by decide) (by decide) B out.length ov (nds out) (nd ((xo : Int), 0)) ⟨W2.heap.size, 0, none⟩ rfl R.out.oout rfl rfl (fun j u hu => by rw [add_zero_addr, cell_row N.out]; simpa [nd] using hu) (fun u hu => by simp [nd] at hu; rcases hu with rfl | rfl <;> rfl) (by omega) (by have := R.out.hB; have := R.out.size; omega) ?_; intro v3 w3 o3 g3; obtain ⟨sx, cx, rfl⟩ := own_shape o3; obtain ⟨r3, m3⟩ := R.out.node o3 g3; have c3 := fun j => cell_row r3 j; have f3 := fun j => unfrozen_row r3 j; have hb3 := (Array.getElem?_eq_some_iff.1 r3).1; have M3 := hid m3; clear o3 g3 r3 m3)
  all_goals
   go_wp2
   go_end0
   exact ⟨rfl, _, _, M3.out⟩
end
end Go.Proofs.YtdkboifpdodonacGreatDoor.Ref
/-
 The machine's own calls: inner, binds, operator, closes, comma, prefix.
-/
namespace Go.Proofs.YtdkboifpdodonacGreatDoor.Ref
open Go.RowKit Go.Deep PureCnf PureForm
set_option maxRecDepth 100000

section
variable {w0 : Ref} {W : World} {B b : Nat} {st : List Wt} {out : List Nd} {k : Int} {made : Nat} {sv ov : Value}

def kindOf (st : List Wt) : Int := match st with
 | [] => 0
 | x :: _ => x.kind
theorem top_any (h : MacR w0 W B b st out k made sv ov) (hl : st.length ≤ 1048576) :
  Calls Tryz.prog 25 #[.pointer (some ⟨b, 0, none⟩)] W fun e W' => e = .returned (.int .i64 (kindOf st)) ∧ MacR w0 W' B b st out k made sv ov := by
 cases st with
 | nil =>
  refine (top_nil h).mono ?_
  rintro e W' ⟨rfl, n, rfl⟩
  exact ⟨rfl, h.drewN n⟩
 | cons x t =>
  refine (top_cons h (by simp at hl; omega)).mono ?_
  rintro e W' ⟨rfl, n, rfl⟩
  exact ⟨rfl, h.drewN n⟩

/-- how many wait, by the machine's row. -/
def waitsAt (b : Nat) (W : World) : Nat := match W.cell? ⟨b, 0, none⟩ with
 | some (.slice _ n _) => n
 | _ => 0
theorem MacR.waits (h : MacR w0 W B b st out k made sv ov) : waitsAt b W = st.length := by
 obtain ⟨sa, c, rfl⟩ := own_shape h.ost
 unfold waitsAt
 rw [cell_row h.row]
 rfl

def okSt (st : List Wt) : Prop := ∀ w ∈ st, 1 ≤ w.kind ∧ w.kind ≤ 5

/-- settle, where the machine counts what is open. -/
theorem settle_mac {x : Wt} (h : MacR w0 W B b (x :: st) out (opnOf (x :: st) : Int) made sv ov) (hl : st.length ≤ 1048576) (ho : out.length ≤ 1048576) (hk : opnOf (x :: st) ≤ 64) (hx : x.kind = 1 ∨ x.kind = 2 ∨ x.kind = 4 ∨ x.kind = 5) :
  Calls Tryz.prog 46 #[.pointer (some ⟨b, 0, none⟩)] W fun e W' => e = .returned (.tuple #[]) ∧ ∃ sv' ov', MacR w0 W' B b st (out ++ [nodeOf x]) (opnOf st : Int) made sv' ov' := by
 refine (settle_any h hl ho (by omega) (by omega) hx).mono ?_
 rintro e W' ⟨rfl, sv', ov', m⟩
 refine ⟨rfl, sv', ov', ?_⟩
 have : (if x.kind = 5 then (opnOf (x :: st) : Int) else (opnOf (x :: st) : Int) - 1) = (opnOf st : Int) := by
  split
  ·next h5 => simp [opnOf, h5]
  ·next h5 => simp [opnOf, h5]
 rwa [this] at m

set_option maxHeartbeats 1000000 in
set_option maxRecDepth 100000 in
theorem inner_any (h : MacR w0 W B b st out (opnOf st : Int) made sv ov) (hs : okSt st) (hl : st.length + out.length ≤ 1048576) (hk : opnOf st ≤ 64) :
  Calls Tryz.prog 24 #[.pointer (some ⟨b, 0, none⟩)] W fun e W' => e = .returned (.tuple #[]) ∧ ∃ sv' ov', MacR w0 W' B b (settleIn st out).1 (settleIn st out).2 (opnOf (settleIn st out).1 : Int) made sv' ov' := by
 have H := hid h
 have HS := hid hs
 clear h hs
 go_enter Tryz.func24, Tryz.ntmps24
 go_wp2
 go_loopw [] (fun W' => ∃ (s : List Wt) (o : List Nd) (sv' ov' : Value), s.length + o.length ≤ 1048576 ∧ opnOf s ≤ 64 ∧ Hid (MacR w0 W' B b s o (opnOf s : Int) made sv' ov' ∧ okSt s ∧ settleIn s o = settleIn st out)) (fun W' => waitsAt b W')
 case atStart => exact ⟨st, out, sv, ov, hl, hk, H.out, HS.out, rfl⟩
 case round =>
  obtain ⟨s, o, sv', ov', h1, h2, HR⟩ := hrel
  obtain ⟨m0, s0, e0⟩ := HR.out
  have HTOP := hid (fun (W : World) (hM : MacR w0 W B b s o (opnOf s : Int) made sv' ov') => top_any hM (by omega))
  have M0 := hid m0
  clear HR m0
  cases s with
  | nil =>
   have HE : Hid (settleIn st out = ([], o)) := by show _ = _; rw [← e0]; rfl
   clear e0 s0
   simp only [kindOf] at HTOP
   go_wp2_with (go_at_call 25; refine (HTOP.out _ M0.out).mono ?_; rintro e w1 ⟨rfl, m1⟩; have M1 := hid m1; clear m1)
   go_end0
   rw [HE.out]
   exact ⟨rfl, _, _, M1.out⟩
  | cons x t =>
   obtain ⟨xk, xo, xn⟩ := x
   have hx : 1 ≤ xk ∧ xk ≤ 5 := s0 _ (List.mem_cons_self ..)
   have st0 : okSt t := fun w hw => s0 w (List.mem_cons_of_mem _ hw)
   have HST := hid st0
   simp only [List.length_cons] at h1
   by_cases h34 : xk = 3 ∨ xk = 4
   ·have HE : Hid (settleIn st out = (⟨xk, xo, xn⟩ :: t, o)) := by show _ = _; rw [← e0, settleIn, if_pos h34]
    clear e0 s0 st0 hx
    rcases h34 with rfl | rfl
    all_goals
     simp only [kindOf] at HTOP
     go_wp2_with (first
      |(have q := M2; clear q; go_at_call 25; refine (HTOP.out _ M2.out).mono ?_; rintro e w3 ⟨rfl, m3⟩; have M3 := hid m3; clear m3)
      |(have q := M1; clear q; go_at_call 25; refine (HTOP.out _ M1.out).mono ?_; rintro e w2 ⟨rfl, m2⟩; have M2 := hid m2; clear m2)
      |(go_at_call 25; refine (HTOP.out _ M0.out).mono ?_; rintro e w1 ⟨rfl, m1⟩; have M1 := hid m1; clear m1))
     go_end0
     rw [HE.out]
     first | exact ⟨rfl, _, _, M3.out⟩ | exact ⟨rfl, _, _, M2.out⟩
   ·have HE : Hid (settleIn t (o ++ [nodeOf ⟨xk, xo, xn⟩]) = settleIn st out) := by show _ = _; rw [← e0, settleIn, if_neg h34]
    have h125 : xk = 1 ∨ xk = 2 ∨ xk = 5 := by omega
    have HSET := hid (fun (W : World) (hM : MacR w0 W B b (⟨xk, xo, xn⟩ :: t) o (opnOf (⟨xk, xo, xn⟩ :: t) : Int) made sv' ov') => settle_mac hM (by omega) (by omega) h2 (by show xk = 1 ∨ xk = 2 ∨ xk = 4 ∨ xk = 5; omega))
    have hop : opnOf t ≤ 64 := by
     have : opnOf t ≤ opnOf (⟨xk, xo, xn⟩ :: t) := by simp only [opnOf, List.countP_cons]; omega
     omega
    have hw0 := M0.out.waits
    have HW0 := hid hw0
    clear e0 s0 st0 hx h34 hw0
    rcases h125 with rfl | rfl | rfl
    all_goals
     simp only [kindOf] at HTOP
     go_wp2_with (first
      |(have q := M3; clear q; go_at_call 46; refine (HSET.out _ M3.out).mono ?_; rintro e w4 ⟨rfl, sv4, ov4, m4⟩; have M4 := hid m4; clear m4)
      |(have q := M2; clear q; go_at_call 25; refine (HTOP.out _ M2.out).mono ?_; rintro e w3 ⟨rfl, m3⟩; have M3 := hid m3; clear m3)
      |(have q := M1; clear q; go_at_call 25; refine (HTOP.out _ M1.out).mono ?_; rintro e w2 ⟨rfl, m2⟩; have M2 := hid m2; clear m2)
      |(go_at_call 25; refine (HTOP.out _ M0.out).mono ?_; rintro e w1 ⟨rfl, m1⟩; have M1 := hid m1; clear m1))
     refine ⟨⟨t, _, sv4, ov4, ?_, hop, M4.out, HST.out, HE.out⟩, ?_⟩
     ·simp; omega
     ·rw [M4.out.waits, HW0.out]; simp
end
end Go.Proofs.YtdkboifpdodonacGreatDoor.Ref
/-
 The machine's own calls: binds, operator.
-/
namespace Go.Proofs.YtdkboifpdodonacGreatDoor.Ref
open Go.RowKit Go.Deep PureCnf PureForm
set_option maxRecDepth 100000

set_option maxHeartbeats 1000000 in
theorem binds_any (op : Nat) (hop : op ≤ 100) (W : World) : Calls Tryz.prog 45 #[.int .i64 (op : Int)] W fun e w' => e = .returned (.int .i64 (bindsN op : Int)) ∧ w' = W := by
 by_cases h6 : op = 6
 ·subst h6
  go_enter Tryz.func45, Tryz.ntmps45
  go_wp2
  go_ret
  exact ⟨rfl, rfl⟩
 ·by_cases h8 : op = 8
  ·subst h8
   go_enter Tryz.func45, Tryz.ntmps45
   go_wp2
   go_ret
   exact ⟨rfl, rfl⟩
  ·by_cases h7 : op = 7
   ·subst h7
    go_enter Tryz.func45, Tryz.ntmps45
    go_wp2
    go_ret
    exact ⟨rfl, rfl⟩
   ·by_cases h9 : op = 9
    ·subst h9
     go_enter Tryz.func45, Tryz.ntmps45
     go_wp2
     go_ret
     exact ⟨rfl, rfl⟩
    ·have HB : Hid (bindsN op = 1) := by show _ = _; simp [bindsN, h6, h7, h8, h9]
     have b6 : ((op : Int) == 6) = false := by rw [beq_eq_false_iff_ne]; omega
     have b7 : ((op : Int) == 7) = false := by rw [beq_eq_false_iff_ne]; omega
     have b8 : ((op : Int) == 8) = false := by rw [beq_eq_false_iff_ne]; omega
     have b9 : ((op : Int) == 9) = false := by rw [beq_eq_false_iff_ne]; omega
     clear h6 h7 h8 h9
     go_enter Tryz.func45, Tryz.ntmps45
     go_wp2
     go_ret
     rw [HB.out]
     exact ⟨rfl, rfl⟩

/-- one waits more: the append in a region of the text's order. -/
theorem app_push {ops : Array Oper} {rest : List Oper} {o : Oper} {a : Act} {Q : Exit → Act → World → Prop} {w0 : Ref} {w : World} {B b : Nat} {st : List Wt} {out : List Nd} {k made : Int} {sv ov : Value} {cs : Array Value} (hgd : o.guard = none) (sl x : Operand)
  (ho : o.op = .call { callee := .builtin .append, args := #[sl, x], argTypes := #[53, 53] }) (y : Wt) (hcs : cs = (wt y).toArray) (M : MacR w0 w B b st out k made sv ov) (hs : a.eval sl = sv) (hx : a.eval x = .slice (some ⟨w.heap.size, 0, none⟩) 1 1) (hl : st.length ≤ 1048576)
  (h : ∀ sx cx w', w'.heap[b]? = some (.cells #[sv, ov, .int .i64 k, .int .i64 made] 55 (0, 0)) → MacR w0 (w'.setCell ⟨b, 0, none⟩ (.slice sx (st.length + 1) cx)) B b (y :: st) out k made (.slice sx (st.length + 1) cx) ov → wpList Tryz.prog ops Q rest (a.put o.dst (.slice sx (st.length + 1) cx)) w') : wpList Tryz.prog ops Q (o :: rest) a (w.alloc (.cells cs 63)) := by
 subst hcs
 have R := M.alloc (.cells (wt y).toArray 63)
 refine app_one hgd sl x 53 63 _ 3 24 ho Tryz.underlying53 info68 rfl (by decide) (by decide) B st.length sv (wts st.reverse) (wt y) ⟨w.heap.size, 0, none⟩ hs R.ost hx rfl (fun j u hu => by rw [add_zero_addr, cell_row (heap_alloc_new w _)]; simpa [wt] using hu) (fun u hu => by simp [wt] at hu; rcases hu with rfl | rfl | rfl <;> rfl) (by omega) (by have := R.hB; have := R.size; omega) ?_
 intro v2 w2 o2 g2
 obtain ⟨sx, cx, rfl⟩ := own_shape o2
 obtain ⟨r2, m2⟩ := R.push o2 g2
 exact h sx cx w2 r2 m2

section
variable {w0 : Ref} {W : World} {B b : Nat} {st : List Wt} {out : List Nd} {k : Int} {made : Nat} {sv ov : Value}

theorem operator_no (h : MacR w0 W B b st out k made sv ov) (op : Nat) (hm : 65536 ≤ made) :
  Calls Tryz.prog 21 #[.pointer (some ⟨b, 0, none⟩), .int .i64 (op : Int)] W fun e W' => e = .returned (.int .i64 8) ∧ MacE w0 W' B b := by
 have HM := hid (makes_no h hm)
 clear h
 go_enter Tryz.func21, Tryz.ntmps21
 go_wp2_with (go_at_call 18; refine HM.out.mono ?_; rintro e w1 ⟨rfl, m1⟩; have M1 := hid m1; clear m1)
 go_ret
 exact ⟨rfl, M1.out⟩


set_option maxHeartbeats 1000000 in
set_option maxRecDepth 100000 in
theorem operator_any (h : MacR w0 W B b st out (opnOf st : Int) made sv ov) (op : Nat) (hop : op ≤ 100) (hs : okSt st) (ho : ∀ w ∈ st, w.op ≤ 100) (hl : st.length + out.length ≤ 1048576) (hk : opnOf st ≤ 64) (hm : made < 65536) :
  Calls Tryz.prog 21 #[.pointer (some ⟨b, 0, none⟩), .int .i64 (op : Int)] W fun e W' => e = .returned (.int .i64 0) ∧ ∃ sv' ov', MacR w0 W' B b (⟨5, op, 0⟩ :: (settleOps op st out).1) (settleOps op st out).2 (opnOf (settleOps op st out).1 : Int) ((made + 1 : Nat) : Int) sv' ov' := by
 have HM := hid (makes_any h hm)
 have HS := hid hs
 have HO := hid ho
 have HBO := hid (fun W => binds_any op hop W)
 clear h hs ho
 go_enter Tryz.func21, Tryz.ntmps21
 go_wp2_with (go_at_call 18; refine HM.out.mono ?_; rintro e w1 ⟨rfl, m1⟩; have M1 := hid m1; clear m1)
 clear HM
 go_loopw [] (fun W' => ∃ (s : List Wt) (o : List Nd) (sv' ov' : Value), s.length + o.length ≤ 1048576 ∧ opnOf s ≤ 64 ∧ Hid (MacR w0 W' B b s o (opnOf s : Int) ((made + 1 : Nat) : Int) sv' ov' ∧ okSt s ∧ (∀ w ∈ s, w.op ≤ 100) ∧ settleOps op s o = settleOps op st out)) (fun W' => waitsAt b W')
 case atStart => exact ⟨st, out, sv, ov, hl, hk, M1.out, HS.out, HO.out, rfl⟩
 case round =>
  clear M1
  obtain ⟨s, o, sv', ov', h1, h2, HR⟩ := hrel
  obtain ⟨m0, s0, p0, e0⟩ := HR.out
  have HTOP := hid (fun (W : World) (hM : MacR w0 W B b s o (opnOf s : Int) ((made + 1 : Nat) : Int) sv' ov') => top_any hM (by omega))
  have M0 := hid m0
  clear HR m0
  cases s with
  | nil =>
   have HE : Hid (settleOps op st out = ([], o)) := by show _ = _; rw [← e0]; rfl
   clear e0 s0 p0
   simp only [kindOf] at HTOP
   go_wp2_with (first
    |(have q := M2; clear q; at_builtin; refine app_push rfl _ _ rfl ⟨5, op, 0⟩ rfl M2.out rfl rfl (by simp <;> omega) ?_; intro sx cx w9 r9 m9; have c9 := fun j => cell_row r9 j; have f9 := fun j => unfrozen_row r9 j; have hb9 := (Array.getElem?_eq_some_iff.1 r9).1; have M9 := hid m9; clear r9 m9)
    |(have q := M1; clear q; go_at_call 25; refine (HTOP.out _ M1.out).mono ?_; rintro e w2 ⟨rfl, m2⟩; have M2 := hid m2; have c2 := fun j => cell_row m2.row j; have f2 := fun j => unfrozen_row m2.row j; have hb2 := m2.size; clear m2)
    |(have q := M0; clear q; go_at_call 25; refine (HTOP.out _ M0.out).mono ?_; rintro e w1 ⟨rfl, m1⟩; have M1 := hid m1; have c1 := fun j => cell_row m1.row j; have f1 := fun j => unfrozen_row m1.row j; have hb1 := m1.size; clear m1))
   go_ret
   rw [HE.out]
   exact ⟨rfl, _, _, M9.out⟩
  | cons x t =>
   obtain ⟨xk, xo, xn⟩ := x
   have hx : 1 ≤ xk ∧ xk ≤ 5 := s0 _ (List.mem_cons_self ..)
   have hxo : xo ≤ 100 := p0 _ (List.mem_cons_self ..)
   have st0 : okSt t := fun w hw => s0 w (List.mem_cons_of_mem _ hw)
   have pt0 : ∀ w ∈ t, w.op ≤ 100 := fun w hw => p0 w (List.mem_cons_of_mem _ hw)
   have HST := hid st0
   have HPT := hid pt0
   simp only [List.length_cons] at h1
   have hop' : opnOf t ≤ 64 := by
    have : opnOf t ≤ opnOf (⟨xk, xo, xn⟩ :: t) := by simp only [opnOf, List.countP_cons]; omega
    omega
   have HW0 := hid M0.out.waits
   clear s0 p0 st0 pt0
   cases hgv : gives op ⟨xk, xo, xn⟩ with
   | false =>
    have HE : Hid (settleOps op st out = (⟨xk, xo, xn⟩ :: t, o)) := by show _ = _; rw [← e0, settleOps, hgv]; simp
    clear e0
    by_cases h5 : xk = 5
    ·subst h5
     have hgb : bindsN xo < bindsN op ∨ (bindsN xo = bindsN op ∧ op = 9) := by
      rcases Nat.lt_or_ge (bindsN xo) (bindsN op) with h | h
      ·exact .inl h
      ·exact .inr ((by simpa [gives] using hgv : bindsN op ≤ bindsN xo → bindsN xo = bindsN op ∧ op = 9) h)
     have HBX := hid (fun W => binds_any xo hxo W)
     clear hgv
     simp only [kindOf] at HTOP
     go_wp2_with (first
      |(have q := M2; clear q; go_at_call 25; refine (HTOP.out _ M2.out).mono ?_; rintro e w3 ⟨rfl, m3⟩; have M3 := hid m3; have c3 := fun j => cell_row m3.row j; have f3 := fun j => unfrozen_row m3.row j; have hb3 := m3.size; clear m3)
      |(have q := M1; clear q; go_at_call 25; refine (HTOP.out _ M1.out).mono ?_; rintro e w2 ⟨rfl, m2⟩; have M2 := hid m2; have c2 := fun j => cell_row m2.row j; have f2 := fun j => unfrozen_row m2.row j; have hb2 := m2.size; clear m2)
      |(have q := M0; clear q; go_at_call 25; refine (HTOP.out _ M0.out).mono ?_; rintro e w1 ⟨rfl, m1⟩; have M1 := hid m1; have c1 := fun j => cell_row m1.row j; have f1 := fun j => unfrozen_row m1.row j; have hb1 := m1.size; clear m1))
     obtain ⟨g, cap, rfl, hc, hg, t0, t1, t2, _, _, _⟩ := M3.out.top
     go_quiet (first | (go_at_call 45; exact Calls.quiet_of_same (HBX.out _)))
     have M4 := hid (M3.out.drewN nq)
     clear c1 c2 f1 f2 hb1 hb2 t0 t1 t2 c3 f3
     generalize w3.drewN nq = w4 at *
     have c4 := fun j => cell_row M4.out.row j
     have f4 := fun j => unfrozen_row M4.out.row j
     have hb4 := M4.out.size
     have d1 : (0 : Int) ≤ (bindsN xo : Int) := by omega
     rcases hgb with hgb | ⟨hgb, hop9⟩
     ·have d2 : (bindsN xo : Int) < (bindsN op : Int) := by omega
      clear hgb
      go_wp2_with (first
       |(have q := M4; clear q; at_builtin; refine app_push rfl _ _ rfl ⟨5, op, 0⟩ rfl M4.out rfl rfl (by simp <;> omega) ?_; intro sx cx w9 r9 m9; have c9 := fun j => cell_row r9 j; have f9 := fun j => unfrozen_row r9 j; have hb9 := (Array.getElem?_eq_some_iff.1 r9).1; have M9 := hid m9; clear r9 m9)
       |(go_at_call 45; refine (HBO.out _).mono ?_; rintro e w' ⟨rfl, rfl⟩))
      go_ret
      rw [HE.out]
      exact ⟨rfl, _, _, M9.out⟩
     ·have d2 : ¬ (bindsN xo : Int) < (bindsN op : Int) := by omega
      have d3 : (bindsN xo : Int) = (bindsN op : Int) := by omega
      have d4 : ((bindsN xo : Int) == (bindsN op : Int)) = true := by rw [beq_iff_eq]; exact d3
      have d5 : ((op : Int) == 9) = true := by rw [beq_iff_eq]; omega
      clear hgb d3 hop9
      go_wp2_with (first
       |(have q := M4; clear q; at_builtin; refine app_push rfl _ _ rfl ⟨5, op, 0⟩ rfl M4.out rfl rfl (by simp <;> omega) ?_; intro sx cx w9 r9 m9; have c9 := fun j => cell_row r9 j; have f9 := fun j => unfrozen_row r9 j; have hb9 := (Array.getElem?_eq_some_iff.1 r9).1; have M9 := hid m9; clear r9 m9)
       |(go_at_call 45; refine (HBO.out _).mono ?_; rintro e w' ⟨rfl, rfl⟩))
      go_ret
      rw [HE.out]
      exact ⟨rfl, _, _, M9.out⟩
    ·have hk1 : xk ≠ 1 := fun e => by subst e; simp [gives] at hgv
     clear hgv
     have h234 : xk = 2 ∨ xk = 3 ∨ xk = 4 := by omega
     rcases h234 with rfl | rfl | rfl
     all_goals
      simp only [kindOf] at HTOP
      go_wp2_with (first
       |(have q := M2; clear q; at_builtin; refine app_push rfl _ _ rfl ⟨5, op, 0⟩ rfl M2.out rfl rfl (by simp <;> omega) ?_; intro sx cx w9 r9 m9; have c9 := fun j => cell_row r9 j; have f9 := fun j => unfrozen_row r9 j; have hb9 := (Array.getElem?_eq_some_iff.1 r9).1; have M9 := hid m9; clear r9 m9)
       |(have q := M1; clear q; go_at_call 25; refine (HTOP.out _ M1.out).mono ?_; rintro e w2 ⟨rfl, m2⟩; have M2 := hid m2; have c2 := fun j => cell_row m2.row j; have f2 := fun j => unfrozen_row m2.row j; have hb2 := m2.size; clear m2)
       |(have q := M0; clear q; go_at_call 25; refine (HTOP.out _ M0.out).mono ?_; rintro e w1 ⟨rfl, m1⟩; have M1 := hid m1; have c1 := fun j => cell_row m1.row j; have f1 := fun j => unfrozen_row m1.row j; have hb1 := m1.size; clear m1))
      go_ret
      rw [HE.out]
      exact ⟨rfl, _, _, M9.out⟩
   | true =>
    have HE : Hid (settleOps op t (o ++ [nodeOf ⟨xk, xo, xn⟩]) = settleOps op st out) := by show _ = _; rw [← e0, settleOps, if_pos hgv]
    clear e0
    have hk15 : xk = 1 ∨ xk = 5 := by
     by_cases h1 : xk = 1
     ·exact .inl h1
     ·simp [gives, h1] at hgv; exact .inr hgv.1
    have HSET := hid (fun (W : World) (hM : MacR w0 W B b (⟨xk, xo, xn⟩ :: t) o (opnOf (⟨xk, xo, xn⟩ :: t) : Int) ((made + 1 : Nat) : Int) sv' ov') => settle_mac hM (by omega) (by omega) h2 (by show xk = 1 ∨ xk = 2 ∨ xk = 4 ∨ xk = 5; omega))
    rcases hk15 with rfl | rfl
    ·clear hgv hx
     simp only [kindOf] at HTOP
     go_wp2_with (first
      |(have q := M2; clear q; go_at_call 46; refine (HSET.out _ M2.out).mono ?_; rintro e w8 ⟨rfl, sv8, ov8, m8⟩; have M8 := hid m8; clear m8)
      |(have q := M1; clear q; go_at_call 25; refine (HTOP.out _ M1.out).mono ?_; rintro e w2 ⟨rfl, m2⟩; have M2 := hid m2; have c2 := fun j => cell_row m2.row j; have f2 := fun j => unfrozen_row m2.row j; have hb2 := m2.size; clear m2)
      |(have q := M0; clear q; go_at_call 25; refine (HTOP.out _ M0.out).mono ?_; rintro e w1 ⟨rfl, m1⟩; have M1 := hid m1; have c1 := fun j => cell_row m1.row j; have f1 := fun j => unfrozen_row m1.row j; have hb1 := m1.size; clear m1))
     refine ⟨⟨t, _, sv8, ov8, ?_, hop', M8.out, HST.out, HPT.out, HE.out⟩, ?_⟩
     ·simp; omega
     ·rw [M8.out.waits, HW0.out]; simp
    ·have hgb : ¬ bindsN xo < bindsN op ∧ ¬ (bindsN xo = bindsN op ∧ op = 9) := by
      have := (by simpa [gives] using hgv : bindsN op ≤ bindsN xo ∧ (¬ bindsN xo = bindsN op ∨ ¬ op = 9))
      exact ⟨by omega, fun h => this.2.elim (· h.1) (· h.2)⟩
     have HBX := hid (fun W => binds_any xo hxo W)
     clear hgv hx
     simp only [kindOf] at HTOP
     go_wp2_with (first
      |(have q := M2; clear q; go_at_call 25; refine (HTOP.out _ M2.out).mono ?_; rintro e w3 ⟨rfl, m3⟩; have M3 := hid m3; have c3 := fun j => cell_row m3.row j; have f3 := fun j => unfrozen_row m3.row j; have hb3 := m3.size; clear m3)
      |(have q := M1; clear q; go_at_call 25; refine (HTOP.out _ M1.out).mono ?_; rintro e w2 ⟨rfl, m2⟩; have M2 := hid m2; have c2 := fun j => cell_row m2.row j; have f2 := fun j => unfrozen_row m2.row j; have hb2 := m2.size; clear m2)
      |(have q := M0; clear q; go_at_call 25; refine (HTOP.out _ M0.out).mono ?_; rintro e w1 ⟨rfl, m1⟩; have M1 := hid m1; have c1 := fun j => cell_row m1.row j; have f1 := fun j => unfrozen_row m1.row j; have hb1 := m1.size; clear m1))
     obtain ⟨g, cap, rfl, hc, hg, t0, t1, t2, _, _, _⟩ := M3.out.top
     go_quiet (first | (go_at_call 45; exact Calls.quiet_of_same (HBX.out _)))
     have M4 := hid (M3.out.drewN nq)
     clear c1 c2 f1 f2 hb1 hb2 t0 t1 t2 c3 f3
     generalize w3.drewN nq = w4 at *
     have c4 := fun j => cell_row M4.out.row j
     have f4 := fun j => unfrozen_row M4.out.row j
     have hb4 := M4.out.size
     obtain ⟨g1, g2⟩ := hgb
     have d2 : ¬ (bindsN xo : Int) < (bindsN op : Int) := by omega
     by_cases hpe : bindsN xo = bindsN op
     ·have d4 : ((bindsN xo : Int) == (bindsN op : Int)) = true := by rw [beq_iff_eq]; omega
      have h9 : op ≠ 9 := fun h => g2 ⟨hpe, h⟩
      have d5 : ((op : Int) == 9) = false := by rw [beq_eq_false_iff_ne]; omega
      clear hpe h9 g1 g2
      go_wp2_with (first
       |(have q := M4; clear q; go_at_call 46; refine (HSET.out _ M4.out).mono ?_; rintro e w8 ⟨rfl, sv8, ov8, m8⟩; have M8 := hid m8; clear m8)
       |(go_at_call 45; refine (HBO.out _).mono ?_; rintro e w' ⟨rfl, rfl⟩))
      refine ⟨⟨t, _, sv8, ov8, ?_, hop', M8.out, HST.out, HPT.out, HE.out⟩, ?_⟩
      ·simp; omega
      ·rw [M8.out.waits, HW0.out]; simp
     ·have d4 : ((bindsN xo : Int) == (bindsN op : Int)) = false := by rw [beq_eq_false_iff_ne]; omega
      clear hpe g1 g2
      go_wp2_with (first
       |(have q := M4; clear q; go_at_call 46; refine (HSET.out _ M4.out).mono ?_; rintro e w8 ⟨rfl, sv8, ov8, m8⟩; have M8 := hid m8; clear m8)
       |(go_at_call 45; refine (HBO.out _).mono ?_; rintro e w' ⟨rfl, rfl⟩))
      refine ⟨⟨t, _, sv8, ov8, ?_, hop', M8.out, HST.out, HPT.out, HE.out⟩, ?_⟩
      ·simp; omega
      ·rw [M8.out.waits, HW0.out]; simp
end
end Go.Proofs.YtdkboifpdodonacGreatDoor.Ref
/-
 The machine's own calls: closes, comma, prefix.
-/
namespace Go.Proofs.YtdkboifpdodonacGreatDoor.Ref
open Go.RowKit Go.Deep PureCnf PureForm
set_option maxRecDepth 100000

section
variable {w0 : Ref} {W : World} {B b : Nat} {st : List Wt} {out : List Nd} {k : Int} {made : Nat} {sv ov : Value}

theorem settleIn_len (st : List Wt) : ∀ out, (settleIn st out).1.length + (settleIn st out).2.length = st.length + out.length := by
 induction st with
 | nil => intro out; simp [settleIn]
 | cons w t ih =>
  intro out
  rw [settleIn]
  split
  ·rfl
  ·rw [ih]; simp; omega
theorem settleIn_opn (st : List Wt) : ∀ out, opnOf (settleIn st out).1 ≤ opnOf st := by
 induction st with
 | nil => intro out; simp [settleIn]
 | cons w t ih =>
  intro out
  rw [settleIn]
  split
  ·exact Nat.le_refl _
  ·have := ih (out ++ [nodeOf w])
   have h2 : opnOf t ≤ opnOf (w :: t) := by simp only [opnOf, List.countP_cons]; omega
   omega
theorem settleIn_sub (st : List Wt) : ∀ out, ∀ w ∈ (settleIn st out).1, w ∈ st := by
 induction st with
 | nil => intro out w hw; simp [settleIn] at hw
 | cons x t ih =>
  intro out w hw
  rw [settleIn] at hw
  split at hw
  ·exact hw
  ·exact List.mem_cons_of_mem _ (ih _ w hw)
theorem settleIn_top {st : List Wt} : ∀ {out : List Nd} {x : Wt} {t : List Wt} {o : List Nd}, settleIn st out = (x :: t, o) → x.kind = 3 ∨ x.kind = 4 := by
 induction st with
 | nil => intro out x t o h; simp [settleIn] at h
 | cons w s ih =>
  intro out x t o h
  rw [settleIn] at h
  split at h
  ·next hk => simp at h; rw [← h.1.1]; exact hk
  ·exact ih h

theorem opn_pos {k : Nat} (o n : Nat) (t : List Wt) (h : k ≠ 5) : opnOf (⟨k, o, n⟩ :: t) = opnOf t + 1 := by simp [opnOf, h]
/-- what closes answers. -/
def Closed (w0 : Ref) (B b : Nat) (p : List Wt × List Nd) (made : Nat) (e : Ending) (W' : World) : Prop :=
 match p with
 |(x :: t, o) => if x.kind = 3 then e = .returned (.int .i64 0) ∧ ∃ sv' ov', MacR w0 W' B b t o (opnOf t : Int) made sv' ov'
  else if x.n = 2 then e = .returned (.int .i64 0) ∧ ∃ sv' ov', MacR w0 W' B b t (o ++ [nodeOf x]) (opnOf t : Int) made sv' ov' else e = .returned (.int .i64 131) ∧ MacE w0 W' B b
 |([], _) => e = .returned (.int .i64 131) ∧ MacE w0 W' B b

set_option maxHeartbeats 1000000 in
set_option maxRecDepth 100000 in
theorem closes_any (h : MacR w0 W B b st out (opnOf st : Int) made sv ov) (hs : okSt st) (hl : st.length + out.length ≤ 1048576) (hk : opnOf st ≤ 64) :
  Calls Tryz.prog 22 #[.pointer (some ⟨b, 0, none⟩)] W fun e W' => Closed w0 B b (settleIn st out) made e W' := by
 have HI := hid (inner_any h hs hl hk)
 have h1 := settleIn_len st out
 have h2 := settleIn_opn st out
 have h3 := fun x t o (e : settleIn st out = (x :: t, o)) => settleIn_top e
 clear h
 generalize settleIn st out = p at *
 obtain ⟨s, o⟩ := p
 dsimp only at h1 h2 HI
 have h4 : s.length + o.length ≤ 1048576 := by omega
 have h5 : opnOf s ≤ 64 := by omega
 clear h1 h2
 cases s with
 | nil =>
  go_enter Tryz.func22, Tryz.ntmps22
  go_wp2_with (first
   |(have q := M1; clear q; go_at_call 25; refine (top_any M1.out (by simp)).mono ?_; rintro e w2 ⟨rfl, m2⟩; simp only [kindOf]; have M2 := hid m2; have c2 := fun j => cell_row m2.row j; have hb2 := m2.size; clear m2)
   |(go_at_call 24; refine HI.out.mono ?_; rintro e w1 ⟨rfl, sv1, ov1, m1⟩; have M1 := hid m1; clear m1))
  go_quiet (first | (go_at_call 25; exact Calls.quiet_of (top_nil (M2.out.drewN _))))
  go_wp2
  go_ret
  exact ⟨rfl, (M2.out.drewN _).asE⟩
 | cons x t =>
  obtain ⟨xk, xo, xn⟩ := x
  have hx : xk = 3 ∨ xk = 4 := h3 _ _ _ rfl
  have hop : (opnOf (⟨xk, xo, xn⟩ :: t) : Int) - 1 = (opnOf t : Int) := by
   have := opn_pos xo xn t (show xk ≠ 5 by omega)
   omega
  have HOP := hid hop
  simp only [List.length_cons] at h4
  clear h3 hop
  have hp0 : (0 : Int) ≤ (opnOf (⟨xk, xo, xn⟩ :: t) : Int) := by omega
  have hp1 : (opnOf (⟨xk, xo, xn⟩ :: t) : Int) ≤ 64 := by omega
  rcases hx with rfl | rfl
  ·go_enter Tryz.func22, Tryz.ntmps22
   go_wp2_with (first
    |(have q := M1; clear q; go_at_call 25; refine (top_any M1.out (by simp; omega)).mono ?_; rintro e w2 ⟨rfl, m2⟩; simp only [kindOf]; have M2 := hid m2; obtain ⟨g, cap, rfl, hc, hg, t0, t1, t2, _, mp, _⟩ := m2.top; have c2 := fun j => cell_row m2.row j; have f2 := fun j => unfrozen_row m2.row j; have hb2 := m2.size; have MP := hid mp; clear m2 mp)
    |(go_at_call 24; refine HI.out.mono ?_; rintro e w1 ⟨rfl, sv1, ov1, m1⟩; have M1 := hid m1; clear m1))
   go_region
   have M3 := hid MP.out.drew
   clear c2 f2 hb2 t0 t1 t2 MP M1
   generalize (w2.setCell ⟨b, 0, none⟩ (.slice (some ⟨g, 0, none⟩) t.length cap)).drew = w3 at *
   have c3 := fun j => cell_row M3.out.row j
   have f3 := fun j => unfrozen_row M3.out.row j
   have hb3 := M3.out.size
   go_wp2
   go_ret
   have m4 := M3.out.setK ((opnOf (⟨3, xo, xn⟩ :: t) : Int) - 1)
   rw [HOP.out] at m4 ⊢
   exact ⟨rfl, _, _, m4⟩
  ·by_cases hn : xn = 2
   ·subst hn
    go_enter Tryz.func22, Tryz.ntmps22
    go_wp2_with (first
     |(have q := M1; clear q; go_at_call 25; refine (top_any M1.out (by simp; omega)).mono ?_; rintro e w2 ⟨rfl, m2⟩; simp only [kindOf]; have M2 := hid m2; obtain ⟨g, cap, rfl, hc, hg, t0, t1, t2, _, _, _⟩ := m2.top; have c2 := fun j => cell_row m2.row j; have hb2 := m2.size; clear m2)
     |(go_at_call 24; refine HI.out.mono ?_; rintro e w1 ⟨rfl, sv1, ov1, m1⟩; have M1 := hid m1; clear m1))
    go_quiet (first | (go_at_call 25; exact Calls.quiet_of (top_cons (M2.out.drewN _) (by omega))))
    have M3 := hid (M2.out.drewN nq)
    clear c2 hb2 t0 t1 t2 M2 M1
    generalize w2.drewN nq = w3 at *
    have HSET := hid (settle_mac M3.out (by omega) (by omega) h5 (.inr (.inr (.inl rfl))))
    go_wp2_with (go_at_call 46; refine HSET.out.mono ?_; rintro e w4 ⟨rfl, sv4, ov4, m4⟩; have M4 := hid m4; clear m4)
    go_ret
    exact ⟨rfl, _, _, M4.out⟩
   ·have hnb : ((xn : Int) == 2) = false := by rw [beq_eq_false_iff_ne]; omega
    have HN := hid hn
    clear hn
    go_enter Tryz.func22, Tryz.ntmps22
    go_wp2_with (first
     |(have q := M1; clear q; go_at_call 25; refine (top_any M1.out (by simp; omega)).mono ?_; rintro e w2 ⟨rfl, m2⟩; simp only [kindOf]; have M2 := hid m2; obtain ⟨g, cap, rfl, hc, hg, t0, t1, t2, _, _, _⟩ := m2.top; have c2 := fun j => cell_row m2.row j; have hb2 := m2.size; clear m2)
     |(go_at_call 24; refine HI.out.mono ?_; rintro e w1 ⟨rfl, sv1, ov1, m1⟩; have M1 := hid m1; clear m1))
    go_quiet (first | (go_at_call 25; exact Calls.quiet_of (top_cons (M2.out.drewN _) (by omega))))
    go_wp2
    go_ret
    show Closed _ _ _ _ _ _ _
    unfold Closed
    simp only [HN.out, if_false, show ¬ (4 : Nat) = 3 by decide]
    exact ⟨rfl, (M2.out.drewN _).asE⟩

/-- what comma answers. -/
def Commaed (w0 : Ref) (B b : Nat) (p : List Wt × List Nd) (made : Nat) (e : Ending) (W' : World) : Prop :=
 match p with
 |(x :: t, o) => if x.kind = 4 ∧ x.n < 2 then e = .returned (.int .i64 0) ∧ ∃ sv' ov', MacR w0 W' B b (⟨x.kind, x.op, x.n + 1⟩ :: t) o (opnOf (x :: t) : Int) made sv' ov' else e = .returned (.int .i64 131) ∧ MacE w0 W' B b
 |([], _) => e = .returned (.int .i64 131) ∧ MacE w0 W' B b

set_option maxHeartbeats 1000000 in
set_option maxRecDepth 100000 in
theorem comma_any (h : MacR w0 W B b st out (opnOf st : Int) made sv ov) (hs : okSt st) (hl : st.length + out.length ≤ 1048576) (hk : opnOf st ≤ 64) :
  Calls Tryz.prog 23 #[.pointer (some ⟨b, 0, none⟩)] W fun e W' => Commaed w0 B b (settleIn st out) made e W' := by
 have HI := hid (inner_any h hs hl hk)
 have h1 := settleIn_len st out
 have h2 := settleIn_opn st out
 have h3 := fun x t o (e : settleIn st out = (x :: t, o)) => settleIn_top e
 clear h
 generalize settleIn st out = p at *
 obtain ⟨s, o⟩ := p
 dsimp only at h1 h2 HI
 have h4 : s.length + o.length ≤ 1048576 := by omega
 have h5 : opnOf s ≤ 64 := by omega
 clear h1 h2
 cases s with
 | nil =>
  go_enter Tryz.func23, Tryz.ntmps23
  go_wp2_with (first
   |(go_at_call 24; refine HI.out.mono ?_; rintro e w1 ⟨rfl, sv1, ov1, m1⟩; have M2 := hid m1; have c2 := fun j => cell_row m1.row j; have hb2 := m1.size; clear m1))
  go_quiet (first | (go_at_call 25; exact Calls.quiet_of (top_nil (M2.out.drewN _))))
  go_wp2
  go_ret
  exact ⟨rfl, (M2.out.drewN _).asE⟩
 | cons x t =>
  obtain ⟨xk, xo, xn⟩ := x
  have hx : xk = 3 ∨ xk = 4 := h3 _ _ _ rfl
  simp only [List.length_cons] at h4
  clear h3
  rcases hx with rfl | rfl
  ·go_enter Tryz.func23, Tryz.ntmps23
   go_wp2_with (first
    |(go_at_call 24; refine HI.out.mono ?_; rintro e w1 ⟨rfl, sv1, ov1, m1⟩; have M2 := hid m1; have c2 := fun j => cell_row m1.row j; have hb2 := m1.size; clear m1))
   go_quiet (first | (go_at_call 25; exact Calls.quiet_of (top_cons (M2.out.drewN _) (by omega))))
   go_wp2
   go_ret
   exact ⟨rfl, (M2.out.drewN _).asE⟩
  ·by_cases hn : (xn : Int) < 2
   ·have hn2 : ¬ 2 ≤ (xn : Int) := by omega
    go_enter Tryz.func23, Tryz.ntmps23
    go_wp2_with (first
     |(go_at_call 24; refine HI.out.mono ?_; rintro e w1 ⟨rfl, sv1, ov1, m1⟩; have M2 := hid m1; obtain ⟨g, cap, rfl, hc, hg, t0, t1, t2, _, _, _⟩ := m1.top; have c2 := fun j => cell_row m1.row j; have hb2 := m1.size; clear m1))
    go_quiet (first | (go_at_call 25; exact Calls.quiet_of (top_cons (M2.out.drewN _) (by omega))))
    have M3 := hid (M2.out.drewN nq)
    clear c2 hb2 t0 t1 t2 M2
    generalize w1.drewN nq = w3 at *
    obtain ⟨g', cap', e, hc', hg', t0, t1, t2, tf, _, mb⟩ := M3.out.top
    simp only [Value.slice.injEq, Option.some.injEq, Addr.mk.injEq, and_true, true_and] at e
    obtain ⟨rfl, rfl⟩ := e
    have MB := hid (mb (xn + 1))
    have c3 := fun j => cell_row M3.out.row j
    have hb3 := M3.out.size
    clear mb
    go_wp2
    go_region
    go_wp2
    go_ret
    have HN := hid (show xn < 2 by omega)
    show Commaed _ _ _ _ _ _ _
    unfold Commaed
    simp only [HN.out, and_self, if_true]
    exact ⟨rfl, _, _, MB.out.drew⟩
   ·have hn2 : 2 ≤ (xn : Int) := by omega
    have HN := hid (show ¬ xn < 2 by omega)
    go_enter Tryz.func23, Tryz.ntmps23
    go_wp2_with (first
     |(go_at_call 24; refine HI.out.mono ?_; rintro e w1 ⟨rfl, sv1, ov1, m1⟩; have M2 := hid m1; obtain ⟨g, cap, rfl, hc, hg, t0, t1, t2, _, _, _⟩ := m1.top; have c2 := fun j => cell_row m1.row j; have hb2 := m1.size; clear m1))
    go_quiet (first | (go_at_call 25; exact Calls.quiet_of (top_cons (M2.out.drewN _) (by omega))))
    go_wp2
    go_ret
    show Commaed _ _ _ _ _ _ _
    unfold Commaed
    simp only [HN.out, and_false, if_false]
    exact ⟨rfl, (M2.out.drewN _).asE⟩


set_option maxHeartbeats 1000000 in
set_option maxRecDepth 100000 in
theorem prefix_bad (h : MacR w0 W B b st out k made sv ov) (tk : PureForm.Tok) (hk : ¬ (tk.kind = 8 ∨ tk.kind = 6 ∨ tk.kind = 4)) :
  Calls Tryz.prog 19 #[.pointer (some ⟨b, 0, none⟩), tokV tk] W fun e W' => e = .returned (.int .i64 131) ∧ MacE w0 W' B b := by
 have H := hid h
 clear h
 have b1 : ((tk.kind : Int) == 8) = false := by rw [beq_eq_false_iff_ne]; omega
 have b2 : ((tk.kind : Int) == 6) = false := by rw [beq_eq_false_iff_ne]; omega
 have b3 : ((tk.kind : Int) == 4) = false := by rw [beq_eq_false_iff_ne]; omega
 clear hk
 go_enter Tryz.func19, Tryz.ntmps19
 go_wp2
 go_ret
 exact ⟨rfl, ((H.out.alloc _).alloc _).asE⟩

set_option maxHeartbeats 1000000 in
set_option maxRecDepth 100000 in
theorem prefix_deep (h : MacR w0 W B b st out k made sv ov) (tk : PureForm.Tok) (hk : tk.kind = 8 ∨ tk.kind = 6 ∨ tk.kind = 4) (hd : 64 ≤ k) :
  Calls Tryz.prog 19 #[.pointer (some ⟨b, 0, none⟩), tokV tk] W fun e W' => e = .returned (.int .i64 132) ∧ MacE w0 W' B b := by
 have HO := hid (fun (W' : World) (hb : Below W.heap.size W W') (x : Wt) => opens_no (h.on hb) x hd)
 clear h hd
 obtain ⟨tkk, tkn, tka, tke⟩ := tk
 simp only at hk
 rcases hk with rfl | rfl | rfl
 ·go_enter Tryz.func19, Tryz.ntmps19
  go_wp2_with (fail)
  refine (HO.out _ (two_allocs _ _ _) ⟨3, 0, 0⟩).mono ?_
  rintro e w1 ⟨rfl, m1⟩
  have M1 := hid m1
  clear m1
  go_wp2
  go_ret
  exact ⟨rfl, M1.out⟩
 ·go_enter Tryz.func19, Tryz.ntmps19
  go_wp2_with (fail)
  refine (HO.out _ (two_allocs _ _ _) ⟨4, 0, 0⟩).mono ?_
  rintro e w1 ⟨rfl, m1⟩
  have M1 := hid m1
  clear m1
  go_wp2
  go_ret
  exact ⟨rfl, M1.out⟩
 ·go_enter Tryz.func19, Tryz.ntmps19
  go_wp2_with (fail)
  refine (HO.out _ (two_allocs _ _ _) ⟨1, 0, 0⟩).mono ?_
  rintro e w1 ⟨rfl, m1⟩
  have M1 := hid m1
  clear m1
  go_wp2
  go_ret
  exact ⟨rfl, M1.out⟩

set_option maxHeartbeats 1000000 in
set_option maxRecDepth 100000 in
theorem prefix_many (h : MacR w0 W B b st out k made sv ov) (tk : PureForm.Tok) (hk : tk.kind = 6 ∨ tk.kind = 4) (hl : st.length ≤ 1048576) (hk0 : 0 ≤ k) (hd : ¬ 64 ≤ k) (hm : 65536 ≤ made) :
  Calls Tryz.prog 19 #[.pointer (some ⟨b, 0, none⟩), tokV tk] W fun e W' => e = .returned (.int .i64 8) ∧ MacE w0 W' B b := by
 have HO := hid (fun (W' : World) (hb : Below W.heap.size W W') (x : Wt) => opens_any (h.on hb) x hl hk0 hd)
 clear h hd hk0
 obtain ⟨tkk, tkn, tka, tke⟩ := tk
 simp only at hk
 rcases hk with rfl | rfl
 ·go_enter Tryz.func19, Tryz.ntmps19
  go_wp2_with (fail)
  refine (HO.out _ (two_allocs _ _ _) ⟨4, 0, 0⟩).mono ?_
  rintro e w1 ⟨rfl, sv1, m1⟩
  have HM := hid (makes_no m1 hm)
  clear m1
  go_wp2_with (go_at_call 18; refine HM.out.mono ?_; rintro e w2 ⟨rfl, m2⟩; have M2 := hid m2; clear m2)
  go_ret
  exact ⟨rfl, M2.out⟩
 ·go_enter Tryz.func19, Tryz.ntmps19
  go_wp2_with (fail)
  refine (HO.out _ (two_allocs _ _ _) ⟨1, 0, 0⟩).mono ?_
  rintro e w1 ⟨rfl, sv1, m1⟩
  have HM := hid (makes_no m1 hm)
  clear m1
  go_wp2_with (go_at_call 18; refine HM.out.mono ?_; rintro e w2 ⟨rfl, m2⟩; have M2 := hid m2; clear m2)
  go_ret
  exact ⟨rfl, M2.out⟩

set_option maxHeartbeats 1000000 in
set_option maxRecDepth 100000 in
theorem prefix_open (h : MacR w0 W B b st out k made sv ov) (tk : PureForm.Tok) (hk : tk.kind = 8) (hl : st.length ≤ 1048576) (hk0 : 0 ≤ k) (hd : ¬ 64 ≤ k) :
  Calls Tryz.prog 19 #[.pointer (some ⟨b, 0, none⟩), tokV tk] W fun e W' => e = .returned (.int .i64 0) ∧ ∃ sv', MacR w0 W' B b (⟨3, 0, 0⟩ :: st) out (k + 1) made sv' ov := by
 have HO := hid (fun (W' : World) (hb : Below W.heap.size W W') (x : Wt) => opens_any (h.on hb) x hl hk0 hd)
 clear h hd hk0
 obtain ⟨tkk, tkn, tka, tke⟩ := tk
 simp only at hk
 subst hk
 go_enter Tryz.func19, Tryz.ntmps19
 go_wp2_with (fail)
 refine (HO.out _ (two_allocs _ _ _) ⟨3, 0, 0⟩).mono ?_
 rintro e w1 ⟨rfl, sv1, m1⟩
 have M1 := hid m1
 clear m1
 go_wp2
 go_ret
 exact ⟨rfl, _, M1.out⟩

set_option maxHeartbeats 1000000 in
set_option maxRecDepth 100000 in
theorem prefix_make (h : MacR w0 W B b st out k made sv ov) (tk : PureForm.Tok) (hk : tk.kind = 6 ∨ tk.kind = 4) (hl : st.length ≤ 1048576) (hk0 : 0 ≤ k) (hd : ¬ 64 ≤ k) (hm : made < 65536) :
  Calls Tryz.prog 19 #[.pointer (some ⟨b, 0, none⟩), tokV tk] W fun e W' => e = .returned (.int .i64 0) ∧ ∃ sv', MacR w0 W' B b (⟨if tk.kind = 6 then 4 else 1, 0, 0⟩ :: st) out (k + 1) ((made + 1 : Nat) : Int) sv' ov := by
 have HO := hid (fun (W' : World) (hb : Below W.heap.size W W') (x : Wt) => opens_any (h.on hb) x hl hk0 hd)
 clear h hd hk0
 obtain ⟨tkk, tkn, tka, tke⟩ := tk
 simp only at hk
 rcases hk with rfl | rfl
 ·go_enter Tryz.func19, Tryz.ntmps19
  go_wp2_with (fail)
  refine (HO.out _ (two_allocs _ _ _) ⟨4, 0, 0⟩).mono ?_
  rintro e w1 ⟨rfl, sv1, m1⟩
  have HM := hid (makes_any m1 hm)
  clear m1
  go_wp2_with (go_at_call 18; refine HM.out.mono ?_; rintro e w2 ⟨rfl, m2⟩; have M2 := hid m2; clear m2)
  go_ret
  exact ⟨rfl, _, M2.out⟩
 ·go_enter Tryz.func19, Tryz.ntmps19
  go_wp2_with (fail)
  refine (HO.out _ (two_allocs _ _ _) ⟨1, 0, 0⟩).mono ?_
  rintro e w1 ⟨rfl, sv1, m1⟩
  have HM := hid (makes_any m1 hm)
  clear m1
  go_wp2_with (go_at_call 18; refine HM.out.mono ?_; rintro e w2 ⟨rfl, m2⟩; have M2 := hid m2; clear m2)
  go_ret
  exact ⟨rfl, _, M2.out⟩
end
end Go.Proofs.YtdkboifpdodonacGreatDoor.Ref
