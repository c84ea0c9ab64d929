import Derived.Test.YtdkboifpdodonabGreatDoorU15
set_option linter.unusedSimpArgs false
/-
  The document's machine: what waits, and the nodes so far.
-/
namespace Go.Proofs.YtdkboifpdodonabGreatDoor.Ref
open Go.RowKit Go.Deep PureCnf PureForm
set_option maxRecDepth 100000

theorem info68 : (Tryz.prog.info? 82).map (fun i => (i.zero, i.size, i.bytes)) = some (some (.agg #[.int .i64 0, .int .i64 0, .int .i64 0]), 3, 24) := by kernel_rfl
theorem info51 : (Tryz.prog.info? 49).map (fun i => (i.zero, i.size, i.bytes)) = some (some (.agg #[.int .i64 0, .int .i64 0]), 2, 16) := by kernel_rfl

def wt (w : Wt) : List Value := [.int .i64 w.kind, .int .i64 w.op, .int .i64 w.n]
def wts (l : List Wt) : List Value := l.flatMap wt
def nd (x : Nd) : List Value := [.int .i64 x.1, .int .i64 x.2]
def nds (l : List Nd) : List Value := l.flatMap nd
theorem wts_length (l : List Wt) : (wts l).length = l.length * 3 := by
  induction l with
  | nil => rfl
  | cons p t ih => simp only [wts, List.flatMap_cons, List.length_append, List.length_cons] at ih ⊢; simp only [wt, List.length_cons, List.length_nil]; omega

/-- what is kept beside the machine: the world at its making, a token's box. -/
structure Ref where
  w : World
  tk : Option (Nat × Array Value)

/-- the machine at b: its row, what waits (the last on top), the nodes so far; since w0 nothing below B has turned. -/
structure MacR (w0 : Ref) (W : World) (B b : Nat) (st : List Wt) (out : List Nd) (k made : Int) (sv ov : Value) : Prop where
  row : W.heap[b]? = some (.cells #[sv, ov, .int .i64 k, .int .i64 made] 74 (0, 0))
  ost : W.ownsRow B 82 3 sv st.length (wts st.reverse)
  oout : W.ownsRow B 49 2 ov out.length (nds out)
  hB : B ≤ b
  below : Below B w0.w W
  tok : ∀ tb cs, w0.tk = some (tb, cs) → W.heap[tb]? = some (.cells cs 76 (0, 0))

section
variable {w0 : Ref} {W W' : World} {B b : Nat} {st : List Wt} {out : List Nd} {k made : Int} {sv ov : Value}
/-- some machine. -/
def MacE (w0 : Ref) (W : World) (B b : Nat) : Prop := ∃ st out k made sv ov, MacR w0 W B b st out k made sv ov
theorem MacR.asE (h : MacR w0 W B b st out k made sv ov) : MacE w0 W B b := ⟨_, _, _, _, _, _, h⟩
theorem MacR.size (h : MacR w0 W B b st out k made sv ov) : b < W.heap.size := (Array.getElem?_eq_some_iff.1 h.row).1
theorem ownsRow_below {w W : World} {base e size n : Nat} {v : Value} {xs : List Value} (h : w.ownsRow base e size v n xs) (hb : Below w.heap.size w W) : W.ownsRow base e size v n xs := by
  refine ⟨h.1, ?_⟩
  rcases h.2 with hn | ⟨g, cap, cur, hv, hB, hg, rest⟩
  · exact .inl hn
  · exact .inr ⟨g, cap, cur, hv, hB, (hb.block g (Array.getElem?_eq_some_iff.1 hg).1).trans hg, rest⟩
theorem MacR.on (h : MacR w0 W B b st out k made sv ov) (hb : Below W.heap.size W W') : MacR w0 W' B b st out k made sv ov :=
  ⟨(hb.block _ h.size).trans h.row, ownsRow_below h.ost hb, ownsRow_below h.oout hb, h.hB, h.below.trans (hb.mono (by have := h.size; have := h.hB; omega)), fun tb cs e => (hb.block _ (Array.getElem?_eq_some_iff.1 (h.tok tb cs e)).1).trans (h.tok tb cs e)⟩
/-- another token's box. -/
theorem MacR.retok (h : MacR w0 W B b st out k made sv ov) {tb : Nat} {cs : Array Value} (ht : W.heap[tb]? = some (.cells cs 76 (0, 0))) : MacR ⟨w0.w, some (tb, cs)⟩ W B b st out k made sv ov :=
  ⟨h.row, h.ost, h.oout, h.hB, h.below, fun tb' cs' e => by simp only [Option.some.injEq, Prod.mk.injEq] at e; rw [← e.1, ← e.2]; exact ht⟩
theorem MacR.alloc (h : MacR w0 W B b st out k made sv ov) (o : Obj) : MacR w0 (W.alloc o) B b st out k made sv ov := h.on ((Below.refl _ _).alloc (Nat.le_refl _) o)
theorem MacR.drewN (h : MacR w0 W B b st out k made sv ov) (n : Nat) : MacR w0 (W.drewN n) B b st out k made sv ov := h.on (below_drewN (Below.refl _ _) n)
theorem MacR.drew (h : MacR w0 W B b st out k made sv ov) : MacR w0 W.drew B b st out k made sv ov := h.on (Below.refl _ _).drew

/-- an owned row of another type than b's row lies elsewhere. -/
theorem own_ne {e size n t : Nat} {v : Value} {xs : List Value} {cs : Array Value} {fz : Nat × Nat} (h : W.ownsRow B e size v n xs) (hr : W.heap[b]? = some (.cells cs t fz)) (hte : t ≠ e) : v.ownBlock ≠ some b := by
  intro hv
  obtain ⟨c, f, hk⟩ := Lib.ownsRow_kind h b hv
  rw [hr] at hk
  simp only [Option.some.injEq, Obj.cells.injEq] at hk
  exact hte hk.2.1
theorem ownsRow_store {e size n t i : Nat} {v u : Value} {xs : List Value} {cs : Array Value} {fz : Nat × Nat} (h : W.ownsRow B e size v n xs) (hr : W.heap[b]? = some (.cells cs t fz)) (hte : t ≠ e) : (W.setCell ⟨b, i, none⟩ u).ownsRow B e size v n xs := by
  have hne := own_ne h hr hte
  refine ⟨h.1, ?_⟩
  rcases h.2 with hn | ⟨g, cap, cur, hv, hB, hg, rest⟩
  · exact .inl hn
  · refine .inr ⟨g, cap, cur, hv, hB, (Below.heap_setCell W _ _ _ ?_).trans hg, rest⟩
    intro e
    exact hne (by rw [hv]; simp [Value.ownBlock]; exact e)
theorem row_set {cs : Array Value} {t i : Nat} {u : Value} (hr : W.heap[b]? = some (.cells cs t (0, 0))) : (W.setCell ⟨b, i, none⟩ u).heap[b]? = some (.cells (cs.setIfInBounds i u) t (0, 0)) := by
  have hb := (Array.getElem?_eq_some_iff.1 hr).1
  simp [World.setCell, Array.getElem?_modify, hr]

theorem tok_store {tb t i : Nat} {u : Value} {cs ds : Array Value} {fz : Nat × Nat} (ht : W.heap[tb]? = some (.cells cs 76 (0, 0))) (hr : W.heap[b]? = some (.cells ds t fz)) (hte : t ≠ 76) : (W.setCell ⟨b, i, none⟩ u).heap[tb]? = some (.cells cs 76 (0, 0)) := by
  refine (Below.heap_setCell W _ _ _ ?_).trans ht
  intro e
  have e2 : tb = b := e
  rw [e2, hr] at ht
  simp only [Option.some.injEq, Obj.cells.injEq] at ht
  exact hte ht.2.1
theorem tok_grown {tb e size n : Nat} {v : Value} {xs : List Value} {cs : Array Value} (ht : W.heap[tb]? = some (.cells cs 76 (0, 0))) (ho : W.ownsRow B e size v n xs) (hte : (76 : Nat) ≠ e) (hg : W.grownBy W' v.ownBlock) : W'.heap[tb]? = some (.cells cs 76 (0, 0)) :=
  (hg.block tb (Array.getElem?_eq_some_iff.1 ht).1 (Ne.symm (own_ne ho ht hte))).trans ht
theorem MacR.setK (h : MacR w0 W B b st out k made sv ov) (k' : Int) : MacR w0 (W.setCell ⟨b, 2, none⟩ (.int .i64 k')) B b st out k' made sv ov :=
  ⟨by have := row_set (i := 2) (u := .int .i64 k') h.row; simpa using this, ownsRow_store h.ost h.row (by decide), ownsRow_store h.oout h.row (by decide), h.hB, h.below.setCell h.hB _, fun tb cs e => tok_store (h.tok tb cs e) h.row (by decide)⟩
theorem MacR.setMade (h : MacR w0 W B b st out k made sv ov) (m' : Int) : MacR w0 (W.setCell ⟨b, 3, none⟩ (.int .i64 m')) B b st out k m' sv ov :=
  ⟨by have := row_set (i := 3) (u := .int .i64 m') h.row; simpa using this, ownsRow_store h.ost h.row (by decide), ownsRow_store h.oout h.row (by decide), h.hB, h.below.setCell h.hB _, fun tb cs e => tok_store (h.tok tb cs e) h.row (by decide)⟩

theorem wts_snoc (l : List Wt) (x : Wt) : wts (l ++ [x]) = wts l ++ wt x := by simp [wts]
theorem nds_snoc (l : List Nd) (x : Nd) : nds (l ++ [x]) = nds l ++ nd x := by simp [nds]

/-- one waits more. -/
theorem MacR.push (h : MacR w0 W B b st out k made sv ov) {x : Wt} {sv' : Value} (ho : W'.ownsRow B 82 3 sv' (st.length + 1) (wts st.reverse ++ wt x)) (hg : W.grownBy W' sv.ownBlock) :
    W'.heap[b]? = some (.cells #[sv, ov, .int .i64 k, .int .i64 made] 74 (0, 0)) ∧ MacR w0 (W'.setCell ⟨b, 0, none⟩ sv') B b (x :: st) out k made sv' ov := by
  have hne := own_ne h.ost h.row (by decide)
  have hrow : W'.heap[b]? = some (.cells #[sv, ov, .int .i64 k, .int .i64 made] 74 (0, 0)) := (hg.block b h.size (Ne.symm hne)).trans h.row
  have hout : W'.ownsRow B 49 2 ov out.length (nds out) := h.oout.kept hg (by
    cases hv : ov.ownBlock with
    | none => exact .inl rfl
    | some g =>
      right
      intro e
      obtain ⟨c1, f1, k1⟩ := Lib.ownsRow_kind h.oout g hv
      exact own_ne h.ost k1 (by decide) e.symm)
  refine ⟨hrow, ⟨by have := row_set (i := 0) (u := sv') hrow; simpa using this, ?_, ownsRow_store hout hrow (by decide), h.hB, ?_, fun tb cs e => tok_store (tok_grown (h.tok tb cs e) h.ost (by decide) hg) hrow (by decide)⟩⟩
  · have := ownsRow_store (i := 0) (u := sv') ho hrow (by decide)
    rw [List.reverse_cons, wts_snoc]
    exact this
  · exact (h.below.grown hg (by have := h.size; have := h.hB; omega) (fun j hj => (h.ost.lt j hj).1)).setCell h.hB _
/-- one node more. -/
theorem MacR.node (h : MacR w0 W B b st out k made sv ov) {x : Nd} {ov' : Value} (ho : W'.ownsRow B 49 2 ov' (out.length + 1) (nds out ++ nd x)) (hg : W.grownBy W' ov.ownBlock) :
    W'.heap[b]? = some (.cells #[sv, ov, .int .i64 k, .int .i64 made] 74 (0, 0)) ∧ MacR w0 (W'.setCell ⟨b, 1, none⟩ ov') B b st (out ++ [x]) k made sv ov' := by
  have hne := own_ne h.oout h.row (by decide)
  have hrow : W'.heap[b]? = some (.cells #[sv, ov, .int .i64 k, .int .i64 made] 74 (0, 0)) := (hg.block b h.size (Ne.symm hne)).trans h.row
  have hst : W'.ownsRow B 82 3 sv st.length (wts st.reverse) := h.ost.kept hg (by
    cases hv : sv.ownBlock with
    | none => exact .inl rfl
    | some g =>
      right
      intro e
      obtain ⟨c1, f1, k1⟩ := Lib.ownsRow_kind h.ost g hv
      exact own_ne h.oout k1 (by decide) e.symm)
  refine ⟨hrow, ⟨by have := row_set (i := 1) (u := ov') hrow; simpa using this, ownsRow_store hst hrow (by decide), ?_, h.hB, ?_, fun tb cs e => tok_store (tok_grown (h.tok tb cs e) h.oout (by decide) hg) hrow (by decide)⟩⟩
  · have := ownsRow_store (i := 1) (u := ov') ho hrow (by decide)
    rw [nds_snoc, List.length_append]
    exact this
  · exact (h.below.grown hg (by have := h.size; have := h.hB; omega) (fun j hj => (h.oout.lt j hj).1)).setCell h.hB _

theorem wts_at (l : List Wt) (x : Wt) (j : Nat) (hj : j < 3) : (wts (l ++ [x]))[l.length * 3 + j]? = (wt x)[j]? := by
  rw [wts_snoc, List.getElem?_append_right (by rw [wts_length]; omega), wts_length]
  congr 1
  omega
/-- what waits on top, and what is left without it. -/
theorem MacR.top {x : Wt} (h : MacR w0 W B b (x :: st) out k made sv ov) : ∃ g cap, sv = .slice (some ⟨g, 0, none⟩) (st.length + 1) cap ∧ st.length + 1 ≤ cap ∧ g < W.heap.size ∧
    W.cell? ⟨g, st.length * 3, none⟩ = some (.int .i64 x.kind) ∧ W.cell? ⟨g, st.length * 3 + 1, none⟩ = some (.int .i64 x.op) ∧ W.cell? ⟨g, st.length * 3 + 2, none⟩ = some (.int .i64 x.n) ∧
    (∀ o, W.frozen? ⟨g, o, none⟩ = false) ∧
    MacR w0 (W.setCell ⟨b, 0, none⟩ (.slice (some ⟨g, 0, none⟩) st.length cap)) B b st out k made (.slice (some ⟨g, 0, none⟩) st.length cap) ov ∧
    ∀ m : Nat, MacR w0 (W.setCell ⟨g, st.length * 3 + 2, none⟩ (.int .i64 (m : Int))) B b (⟨x.kind, x.op, m⟩ :: st) out k made sv ov := by
  rcases h.ost.2 with ⟨_, h0⟩ | ⟨g, cap, cur, hv, hb, hg, hn, hm, hsz, ht⟩
  · simp at h0
  · have one : ∀ j, j < 3 → cur[st.length * 3 + j]? = (wt x)[j]? := fun j hj => by
      have e := wts_at st.reverse x j hj
      rw [List.length_reverse, ← List.reverse_cons, ← ht, List.getElem?_take_of_lt (by simp; omega)] at e
      simpa using e
    have hlen : (x :: st).length = st.length + 1 := rfl
    rw [hlen] at hv hn ht
    refine ⟨g, cap, hv, hn, (Array.getElem?_eq_some_iff.1 hg).1, ?_, ?_, ?_, fun o => unfrozen_row hg o, ⟨?_, ?_, ownsRow_store h.oout h.row (by decide), h.hB, h.below.setCell h.hB _, fun tb cs e => tok_store (h.tok tb cs e) h.row (by decide)⟩, fun m => ?_⟩
    · rw [cell_row hg]; exact one 0 (by omega)
    · rw [cell_row hg]; exact one 1 (by omega)
    · rw [cell_row hg]; exact one 2 (by omega)
    · have := row_set (i := 0) (u := .slice (some ⟨g, 0, none⟩) st.length cap) h.row; simpa using this
    · refine ⟨by rw [wts_length, List.length_reverse], .inr ⟨g, cap, cur, rfl, hb, ?_, by omega, hm, hsz, ?_⟩⟩
      · refine (Below.heap_setCell W _ _ _ ?_).trans hg
        intro e
        have e2 : g = b := e
        have r := h.row
        rw [← e2, hg] at r
        simp at r
      · have e := congrArg (List.take (st.length * 3)) ht
        have e3 : (wts (st.reverse ++ [x])).take (st.length * 3) = wts st.reverse := by
          rw [wts_snoc, List.take_append_of_le_length (by rw [wts_length, List.length_reverse]; exact Nat.le_refl _), List.take_of_length_le (by rw [wts_length, List.length_reverse]; exact Nat.le_refl _)]
        rw [List.take_take, Nat.min_eq_left (by omega), List.reverse_cons, e3] at e
        exact e
    · have hgb : g ≠ b := fun e2 => by
        have r := h.row
        rw [← e2, hg] at r
        simp at r
      refine ⟨(Below.heap_setCell W _ _ _ (Ne.symm hgb)).trans h.row, ⟨by rw [wts_length, List.length_reverse], .inr ⟨g, cap, cur.setIfInBounds (st.length * 3 + 2) (.int .i64 (m : Int)), hv, hb, row_set hg, hn, hm, by simpa using hsz, ?_⟩⟩, ownsRow_store h.oout hg (by decide), h.hB, h.below.setCell hb _, fun tb cs e => tok_store (h.tok tb cs e) hg (by decide)⟩
      have e : (cur.setIfInBounds (st.length * 3 + 2) (.int .i64 (m : Int))).toList = cur.toList.set (st.length * 3 + 2) (.int .i64 (m : Int)) := by simp
      rw [e, List.take_set, show (⟨x.kind, x.op, m⟩ :: st : List Wt).length = st.length + 1 from rfl, ht, List.reverse_cons, List.reverse_cons, wts_snoc, wts_snoc, List.set_append_right _ _ (by rw [wts_length, List.length_reverse]; omega), wts_length, List.length_reverse, Nat.add_sub_cancel_left]
      rfl
end
end Go.Proofs.YtdkboifpdodonabGreatDoor.Ref
/-
  The machine's own calls: makes, opens, top, settle.
-/
namespace Go.Proofs.YtdkboifpdodonabGreatDoor.Ref
open Go.RowKit Go.Deep PureCnf PureForm
set_option maxRecDepth 100000

/-- append of one, as a step of a region that draws its order. -/
theorem step_one {ops : Array Oper} {o : Oper} {a : Act} {w : World} {K : Act → World → Prop} {Q : Exit → Act → World → Prop} {X : Prop} (hgd : o.guard = none) (sl x : Operand) (t e : TypeId) (z : Value) (size bytes : Nat)
    (ho : o.op = .call { callee := .builtin .append, args := #[sl, x], argTypes := #[t, t] }) (hu : Tryz.prog.underlying t = some (.slice e)) (hinf : (Tryz.prog.info? e).map (fun i => (i.zero, i.size, i.bytes)) = some (some z, size, bytes))
    (hzs : z.cells.size = size) (hsz : 0 < size) (hby : bytes ≤ 24) (B n : Nat) (v : Value) (xs news : List Value) (ad : Addr) (hs : a.eval sl = v) (hown : w.ownsRow B e size v n xs) (hx : a.eval x = .slice (some ad) 1 1)
    (hl : news.length = size) (hnews : ∀ j u, news[j]? = some u → w.cell? (ad.add j) = some u) (h1 : ∀ u ∈ news, u.oneCell' = true) (hn : n ≤ 1099511627776) (hB : B ≤ w.heap.size)
    (h : ∀ v' w', w'.ownsRow B e size v' (n + 1) (xs ++ news) → w.grownBy w' v.ownBlock → K (a.put o.dst v') w') : if Region.wanted o (yielded ops a.tmps) = true then Oper.wp Tryz.prog o a w K Q else X := by
  have hw : Region.wanted o (yielded ops a.tmps) = true := by simp [Region.wanted, hgd]
  rw [if_pos hw]
  obtain ⟨i, hi, hz0, hz1, hz2⟩ := info_parts hinf
  obtain ⟨v', w', hr, h2, h3, _⟩ := run_append_own (P := Tryz.prog) w B t o.type e i z size bytes hu hi hz0 hz1 hz2 hzs hsz v n xs hown ad 1 1 news (by rw [hl, Nat.one_mul]) hnews h1 (by unfold maxLen; omega) (by
    have : (n + 1) * bytes ≤ (n + 1) * 24 := Nat.mul_le_mul_left _ hby
    omega) hB
  unfold Oper.wp execOp
  simp only [ho, resolve, invoke, builtin, Sem.run_bind, Sem.run_pure, Result.andThen_ok, List.map_toArray, List.map_cons, List.map_nil, hs, hx, hr]
  exact h v' w' h2 h3

/-- append of one, in a region of the text's order. -/
theorem app_one {ops : Array Oper} {rest : List Oper} {o : Oper} {a : Act} {Q : Exit → Act → World → Prop} {w : World} (hgd : o.guard = none) (sl x : Operand) (t e : TypeId) (z : Value) (size bytes : Nat)
    (ho : o.op = .call { callee := .builtin .append, args := #[sl, x], argTypes := #[t, t] }) (hu : Tryz.prog.underlying t = some (.slice e)) (hinf : (Tryz.prog.info? e).map (fun i => (i.zero, i.size, i.bytes)) = some (some z, size, bytes))
    (hzs : z.cells.size = size) (hsz : 0 < size) (hby : bytes ≤ 24) (B n : Nat) (v : Value) (xs news : List Value) (ad : Addr) (hs : a.eval sl = v) (hown : w.ownsRow B e size v n xs) (hx : a.eval x = .slice (some ad) 1 1)
    (hl : news.length = size) (hnews : ∀ j u, news[j]? = some u → w.cell? (ad.add j) = some u) (h1 : ∀ u ∈ news, u.oneCell' = true) (hn : n ≤ 1099511627776) (hB : B ≤ w.heap.size)
    (h : ∀ v' w', w'.ownsRow B e size v' (n + 1) (xs ++ news) → w.grownBy w' v.ownBlock → wpList Tryz.prog ops Q rest (a.put o.dst v') w') : wpList Tryz.prog ops Q (o :: rest) a w := by
  obtain ⟨i, hi, hz0, hz1, hz2⟩ := info_parts hinf
  refine wpList_append_own _ hgd sl x t ho B e i z size bytes hu hi hz0 hz1 hz2 hzs hsz v n xs hs hown ad 1 1 news hx (by rw [hl, Nat.one_mul]) hnews h1 (by unfold maxLen; omega) (by
    have : (n + 1) * bytes ≤ (n + 1) * 24 := Nat.mul_le_mul_left _ hby
    omega) hB ?_
  intro v' w' h2 h3 _
  exact h v' w' h2 h3

theorem own_shape {W : World} {B e size n : Nat} {v : Value} {xs : List Value} (h : W.ownsRow B e size v n xs) : ∃ sa c, v = .slice sa n c := by
  rcases h.2 with ⟨hv, h0⟩ | ⟨g, cap, cur, hv, _⟩
  · exact ⟨none, 0, by rw [hv, h0]⟩
  · exact ⟨_, _, hv⟩

section
variable {w0 : Ref} {W : World} {B b : Nat} {st : List Wt} {out : List Nd} {k : Int} {made : Nat} {sv ov : Value}

set_option maxHeartbeats 1000000 in
set_option maxRecDepth 100000 in
theorem makes_any (h : MacR w0 W B b st out k made sv ov) (hm : made < 65536) :
    Calls Tryz.prog 33 #[.pointer (some ⟨b, 0, none⟩)] W fun e W' => e = .returned (.int .i64 0) ∧ MacR w0 W' B b st out k ((made + 1 : Nat) : Int) sv ov := by
  have c0 := fun j => cell_row h.row j
  have f0 := fun j => unfrozen_row h.row j
  have hb := h.size
  have H := hid (h.setMade ((made : Int) + 1))
  have hge : ¬ 65536 ≤ (made : Int) := by omega
  clear h
  go_enter Tryz.func33, Tryz.ntmps33
  go_wp2
  go_ret
  exact ⟨rfl, H.out⟩

set_option maxHeartbeats 1000000 in
set_option maxRecDepth 100000 in
theorem makes_no (h : MacR w0 W B b st out k made sv ov) (hm : 65536 ≤ made) :
    Calls Tryz.prog 33 #[.pointer (some ⟨b, 0, none⟩)] W fun e W' => e = .returned (.int .i64 8) ∧ MacE w0 W' B b := by
  have c0 := fun j => cell_row h.row j
  have hb := h.size
  have hge : 65536 ≤ (made : Int) := by omega
  have H := hid h.asE
  clear h
  go_enter Tryz.func33, Tryz.ntmps33
  go_wp2
  go_ret
  exact ⟨rfl, H.out⟩

set_option maxHeartbeats 1000000 in
set_option maxRecDepth 100000 in
theorem opens_no (h : MacR w0 W B b st out k made sv ov) (x : Wt) (hk : 64 ≤ k) :
    Calls Tryz.prog 35 #[.pointer (some ⟨b, 0, none⟩), .agg #[.int .i64 x.kind, .int .i64 x.op, .int .i64 x.n]] W fun e W' => e = .returned (.int .i64 132) ∧ MacE w0 W' B b := by
  have c0 := fun j => cell_row h.row j
  have hb := h.size
  have H := hid h
  clear h
  go_enter Tryz.func35, Tryz.ntmps35
  go_wp2
  go_ret
  exact ⟨rfl, (H.out.alloc _).asE⟩

set_option maxHeartbeats 1000000 in
set_option maxRecDepth 100000 in
theorem opens_any (h : MacR w0 W B b st out k made sv ov) (x : Wt) (hl : st.length ≤ 1048576) (hk0 : 0 ≤ k) (hk : ¬ 64 ≤ k) :
    Calls Tryz.prog 35 #[.pointer (some ⟨b, 0, none⟩), .agg #[.int .i64 x.kind, .int .i64 x.op, .int .i64 x.n]] W fun e W' => e = .returned (.int .i64 0) ∧ ∃ sv', MacR w0 W' B b (x :: st) out (k + 1) made sv' ov := by
  have c0 := fun j => cell_row h.row j
  have f0 := fun j => unfrozen_row h.row j
  have hb := h.size
  have hW1 := (h.setK (k + 1)).alloc (Obj.cells #[.int .i64 x.kind, .int .i64 x.op, .int .i64 x.n] 82)
  have hbx : ((W.setCell ⟨b, 2, none⟩ (.int .i64 (k + 1))).alloc (Obj.cells #[.int .i64 x.kind, .int .i64 x.op, .int .i64 x.n] 82)).heap[W.heap.size]? = some (Obj.cells #[.int .i64 x.kind, .int .i64 x.op, .int .i64 x.n] 82) := by
    have := heap_alloc_new (W.setCell ⟨b, 2, none⟩ (.int .i64 (k + 1))) (Obj.cells #[.int .i64 x.kind, .int .i64 x.op, .int .i64 x.n] 82)
    simpa [World.setCell] using this
  have H1 := hid hW1
  have HX := hid hbx
  clear h hW1 hbx
  go_enter Tryz.func35, Tryz.ntmps35
  go_wp2
  clear c0 f0
  generalize (W.setCell ⟨b, 2, none⟩ (.int .i64 (k + 1))).alloc (Obj.cells #[.int .i64 x.kind, .int .i64 x.op, .int .i64 x.n] 82) = W1 at *
  have c0 := fun j => cell_row H1.out.row j
  have f0 := fun j => unfrozen_row H1.out.row j
  have c1 := fun j => cell_row HX.out j
  have hb1 := H1.out.size
  have R := hid ((H1.out.alloc (Obj.cells #[.int .i64 x.kind, .int .i64 x.op, .int .i64 x.n] 82)).drew)
  have N : Hid ((W1.alloc (Obj.cells #[.int .i64 x.kind, .int .i64 x.op, .int .i64 x.n] 82)).drew.heap[W1.heap.size]? = some (Obj.cells #[.int .i64 x.kind, .int .i64 x.op, .int .i64 x.n] 82)) := heap_alloc_new W1 _
  go_region_law (refine step_one rfl _ _ 72 82 _ 3 24 rfl Tryz.underlying72 info68 rfl (by decide) (by decide) B st.length sv (wts st.reverse) (wt x) ⟨W1.heap.size, 0, none⟩ rfl R.out.ost rfl rfl (fun j u hu => by rw [add_zero_addr, cell_row N.out]; simpa [wt] using hu) (fun u hu => by simp [wt] at hu; rcases hu with rfl | rfl | rfl <;> rfl) (by omega) (by have := R.out.hB; have := R.out.size; omega) ?_; intro v2 w2 o2 g2; obtain ⟨sx, cx, rfl⟩ := own_shape o2; obtain ⟨r2, m2⟩ := R.out.push o2 g2; have c2 := fun j => cell_row r2 j; have f2 := fun j => unfrozen_row r2 j; have hb2 := (Array.getElem?_eq_some_iff.1 r2).1; have M2 := hid m2; clear o2 g2 r2 m2)
  all_goals
    go_wp2
    go_ret
    exact ⟨rfl, _, M2.out⟩

set_option maxHeartbeats 1000000 in
set_option maxRecDepth 100000 in
theorem top_nil (h : MacR w0 W B b [] out k made sv ov) :
    Calls Tryz.prog 40 #[.pointer (some ⟨b, 0, none⟩)] W fun e W' => e = .returned (.int .i64 0) ∧ ∃ n, W' = W.drewN n := by
  obtain ⟨sa, c, rfl⟩ := own_shape h.ost
  have c0 := fun j => cell_row h.row j
  have hb := h.size
  clear h
  go_enter Tryz.func40, Tryz.ntmps40
  go_wp2
  go_ret
  exact ⟨rfl, 0, rfl⟩

set_option maxHeartbeats 1000000 in
set_option maxRecDepth 100000 in
theorem top_cons {x : Wt} (h : MacR w0 W B b (x :: st) out k made sv ov) (hl : st.length ≤ 1048576) :
    Calls Tryz.prog 40 #[.pointer (some ⟨b, 0, none⟩)] W fun e W' => e = .returned (.int .i64 x.kind) ∧ ∃ n, W' = W.drewN n := by
  obtain ⟨g, cap, rfl, hc, hg, t0, t1, t2, _, _, _⟩ := h.top
  have c0 := fun j => cell_row h.row j
  have hb := h.size
  have hne : ((st.length : Int) + 1 == 0) = false := by rw [beq_eq_false_iff_ne]; omega
  clear h
  go_enter Tryz.func40, Tryz.ntmps40
  go_wp2
  go_quiet (fail)
  go_wp2
  go_ret
  exact ⟨rfl, _, rfl⟩

set_option maxHeartbeats 1000000 in
set_option maxRecDepth 100000 in
theorem settle_any {x : Wt} (h : MacR w0 W B b (x :: st) out k made sv ov) (hl : st.length ≤ 1048576) (ho : out.length ≤ 1048576) (hk0 : 0 ≤ k) (hk1 : k ≤ 100) (hx : x.kind = 1 ∨ x.kind = 2 ∨ x.kind = 4 ∨ x.kind = 5) :
    Calls Tryz.prog 61 #[.pointer (some ⟨b, 0, none⟩)] W fun e W' => e = .returned (.tuple #[]) ∧ ∃ sv' ov', MacR w0 W' B b st (out ++ [nodeOf x]) (if x.kind = 5 then k else k - 1) made sv' ov' := by
  obtain ⟨g, cap, rfl, hc, hg, t0, t1, t2, _, _, _⟩ := h.top
  have c0 := fun j => cell_row h.row j
  have f0 := fun j => unfrozen_row h.row j
  have hb := h.size
  have HW1 := hid (h.alloc (Obj.cells #[.int .i64 x.kind, .int .i64 x.op, .int .i64 x.n] 82)).drew
  have HX1 : Hid ((W.alloc (Obj.cells #[.int .i64 x.kind, .int .i64 x.op, .int .i64 x.n] 82)).drew.heap[W.heap.size]? = some (Obj.cells #[.int .i64 x.kind, .int .i64 x.op, .int .i64 x.n] 82)) := heap_alloc_new W _
  clear h
  go_enter Tryz.func61, Tryz.ntmps61
  go_wp2
  go_region
  clear c0 f0 t0 t1 t2
  generalize (W.alloc (Obj.cells #[.int .i64 x.kind, .int .i64 x.op, .int .i64 x.n] 82)).drew = W1 at *
  obtain ⟨g', cap', e, hc', hg', _, _, _, _, hpop, _⟩ := HW1.out.top
  simp only [Value.slice.injEq, Option.some.injEq, Addr.mk.injEq, and_true, true_and] at e
  obtain ⟨rfl, rfl⟩ := e
  have c0 := fun j => cell_row HW1.out.row j
  have f0 := fun j => unfrozen_row HW1.out.row j
  have hb1 := HW1.out.size
  have HP := hid hpop
  clear hpop
  go_wp2
  go_region
  have HX2 : Hid ((W1.setCell ⟨b, 0, none⟩ (.slice (some ⟨g, 0, none⟩) st.length cap)).drew.heap[W.heap.size]? = some (Obj.cells #[.int .i64 x.kind, .int .i64 x.op, .int .i64 x.n] 82)) := (Below.heap_setCell W1 _ _ _ (by simp; omega)).trans HX1.out
  have R2 := hid HP.out.drew
  clear c0 f0 hb1 HP HX1 HW1
  generalize (W1.setCell ⟨b, 0, none⟩ (.slice (some ⟨g, 0, none⟩) st.length cap)).drew = W2 at *
  have c0 := fun j => cell_row R2.out.row j
  have f0 := fun j => unfrozen_row R2.out.row j
  have hb2 := R2.out.size
  have hbx := (Array.getElem?_eq_some_iff.1 HX2.out).1
  obtain ⟨xk, xo, xn⟩ := x
  simp only at hx HX2 ⊢
  rcases hx with rfl | rfl | rfl | rfl
  · have c1 := fun j => cell_row HX2.out j
    have R := hid (R2.out.alloc (Obj.cells #[.int .i64 3, .int .i64 0] 49))
    have N : Hid ((W2.alloc (Obj.cells #[.int .i64 3, .int .i64 0] 49)).heap[W2.heap.size]? = some (Obj.cells #[.int .i64 3, .int .i64 0] 49)) := heap_alloc_new W2 _
    go_wp2_with (at_builtin; refine app_one rfl _ _ 22 49 _ 2 16 rfl Tryz.underlying22 info51 rfl (by decide) (by decide) B out.length ov (nds out) (nd (3, 0)) ⟨W2.heap.size, 0, none⟩ rfl R.out.oout rfl rfl (fun j u hu => by rw [add_zero_addr, cell_row N.out]; simpa [nd] using hu) (fun u hu => by simp [nd] at hu; rcases hu with rfl | rfl <;> rfl) (by omega) (by have := R.out.hB; have := R.out.size; omega) ?_; intro v3 w3 o3 g3; obtain ⟨sx, cx, rfl⟩ := own_shape o3; obtain ⟨r3, m3⟩ := R.out.node o3 g3; have c3 := fun j => cell_row r3 j; have f3 := fun j => unfrozen_row r3 j; have hb3 := (Array.getElem?_eq_some_iff.1 r3).1; have M3 := hid m3; clear o3 g3 r3 m3)
    go_end0
    exact ⟨rfl, _, _, M3.out.setK (k - 1)⟩
  · have c1 := fun j => cell_row HX2.out j
    have R := hid (R2.out.alloc (Obj.cells #[.int .i64 (xo : Int), .int .i64 (xn : Int)] 49)).drew
    have N : Hid ((W2.alloc (Obj.cells #[.int .i64 (xo : Int), .int .i64 (xn : Int)] 49)).drew.heap[W2.heap.size]? = some (Obj.cells #[.int .i64 (xo : Int), .int .i64 (xn : Int)] 49)) := heap_alloc_new W2 _
    go_wp2
    go_region_law (refine step_one rfl _ _ 22 49 _ 2 16 rfl Tryz.underlying22 info51 rfl (by decide) (by decide) B out.length ov (nds out) (nd ((xo : Int), (xn : Int))) ⟨W2.heap.size, 0, none⟩ rfl R.out.oout rfl rfl (fun j u hu => by rw [add_zero_addr, cell_row N.out]; simpa [nd] using hu) (fun u hu => by simp [nd] at hu; rcases hu with rfl | rfl <;> rfl) (by omega) (by have := R.out.hB; have := R.out.size; omega) ?_; intro v3 w3 o3 g3; obtain ⟨sx, cx, rfl⟩ := own_shape o3; obtain ⟨r3, m3⟩ := R.out.node o3 g3; have c3 := fun j => cell_row r3 j; have f3 := fun j => unfrozen_row r3 j; have hb3 := (Array.getElem?_eq_some_iff.1 r3).1; have M3 := hid m3; clear o3 g3 r3 m3)
    all_goals
      go_wp2
      go_end0
      exact ⟨rfl, _, _, M3.out.setK (k - 1)⟩
  · have c1 := fun j => cell_row HX2.out j
    have R := hid (R2.out.alloc (Obj.cells #[.int .i64 11, .int .i64 0] 49))
    have N : Hid ((W2.alloc (Obj.cells #[.int .i64 11, .int .i64 0] 49)).heap[W2.heap.size]? = some (Obj.cells #[.int .i64 11, .int .i64 0] 49)) := heap_alloc_new W2 _
    go_wp2_with (at_builtin; refine app_one rfl _ _ 22 49 _ 2 16 rfl Tryz.underlying22 info51 rfl (by decide) (by decide) B out.length ov (nds out) (nd (11, 0)) ⟨W2.heap.size, 0, none⟩ rfl R.out.oout rfl rfl (fun j u hu => by rw [add_zero_addr, cell_row N.out]; simpa [nd] using hu) (fun u hu => by simp [nd] at hu; rcases hu with rfl | rfl <;> rfl) (by omega) (by have := R.out.hB; have := R.out.size; omega) ?_; intro v3 w3 o3 g3; obtain ⟨sx, cx, rfl⟩ := own_shape o3; obtain ⟨r3, m3⟩ := R.out.node o3 g3; have c3 := fun j => cell_row r3 j; have f3 := fun j => unfrozen_row r3 j; have hb3 := (Array.getElem?_eq_some_iff.1 r3).1; have M3 := hid m3; clear o3 g3 r3 m3)
    go_end0
    exact ⟨rfl, _, _, M3.out.setK (k - 1)⟩
  · have c1 := fun j => cell_row HX2.out j
    have R := hid (R2.out.alloc (Obj.cells #[.int .i64 (xo : Int), .int .i64 0] 49)).drew
    have N : Hid ((W2.alloc (Obj.cells #[.int .i64 (xo : Int), .int .i64 0] 49)).drew.heap[W2.heap.size]? = some (Obj.cells #[.int .i64 (xo : Int), .int .i64 0] 49)) := heap_alloc_new W2 _
    go_wp2
    go_region_law (refine step_one rfl _ _ 22 49 _ 2 16 rfl Tryz.underlying22 info51 rfl (by decide) (by decide) B out.length ov (nds out) (nd ((xo : Int), 0)) ⟨W2.heap.size, 0, none⟩ rfl R.out.oout rfl rfl (fun j u hu => by rw [add_zero_addr, cell_row N.out]; simpa [nd] using hu) (fun u hu => by simp [nd] at hu; rcases hu with rfl | rfl <;> rfl) (by omega) (by have := R.out.hB; have := R.out.size; omega) ?_; intro v3 w3 o3 g3; obtain ⟨sx, cx, rfl⟩ := own_shape o3; obtain ⟨r3, m3⟩ := R.out.node o3 g3; have c3 := fun j => cell_row r3 j; have f3 := fun j => unfrozen_row r3 j; have hb3 := (Array.getElem?_eq_some_iff.1 r3).1; have M3 := hid m3; clear o3 g3 r3 m3)
    all_goals
      go_wp2
      go_end0
      exact ⟨rfl, _, _, M3.out⟩
end
end Go.Proofs.YtdkboifpdodonabGreatDoor.Ref
/-
  The machine's own calls: inner, binds, operator, closes, comma, prefix.
-/
namespace Go.Proofs.YtdkboifpdodonabGreatDoor.Ref
open Go.RowKit Go.Deep PureCnf PureForm
set_option maxRecDepth 100000

section
variable {w0 : Ref} {W : World} {B b : Nat} {st : List Wt} {out : List Nd} {k : Int} {made : Nat} {sv ov : Value}

def kindOf (st : List Wt) : Int := match st with
  | [] => 0
  | x :: _ => x.kind
theorem top_any (h : MacR w0 W B b st out k made sv ov) (hl : st.length ≤ 1048576) :
    Calls Tryz.prog 40 #[.pointer (some ⟨b, 0, none⟩)] W fun e W' => e = .returned (.int .i64 (kindOf st)) ∧ MacR w0 W' B b st out k made sv ov := by
  cases st with
  | nil =>
    refine (top_nil h).mono ?_
    rintro e W' ⟨rfl, n, rfl⟩
    exact ⟨rfl, h.drewN n⟩
  | cons x t =>
    refine (top_cons h (by simp at hl; omega)).mono ?_
    rintro e W' ⟨rfl, n, rfl⟩
    exact ⟨rfl, h.drewN n⟩

/-- how many wait, by the machine's row. -/
def waitsAt (b : Nat) (W : World) : Nat := match W.cell? ⟨b, 0, none⟩ with
  | some (.slice _ n _) => n
  | _ => 0
theorem MacR.waits (h : MacR w0 W B b st out k made sv ov) : waitsAt b W = st.length := by
  obtain ⟨sa, c, rfl⟩ := own_shape h.ost
  unfold waitsAt
  rw [cell_row h.row]
  rfl

def okSt (st : List Wt) : Prop := ∀ w ∈ st, 1 ≤ w.kind ∧ w.kind ≤ 5

/-- settle, where the machine counts what is open. -/
theorem settle_mac {x : Wt} (h : MacR w0 W B b (x :: st) out (opnOf (x :: st) : Int) made sv ov) (hl : st.length ≤ 1048576) (ho : out.length ≤ 1048576) (hk : opnOf (x :: st) ≤ 64) (hx : x.kind = 1 ∨ x.kind = 2 ∨ x.kind = 4 ∨ x.kind = 5) :
    Calls Tryz.prog 61 #[.pointer (some ⟨b, 0, none⟩)] W fun e W' => e = .returned (.tuple #[]) ∧ ∃ sv' ov', MacR w0 W' B b st (out ++ [nodeOf x]) (opnOf st : Int) made sv' ov' := by
  refine (settle_any h hl ho (by omega) (by omega) hx).mono ?_
  rintro e W' ⟨rfl, sv', ov', m⟩
  refine ⟨rfl, sv', ov', ?_⟩
  have : (if x.kind = 5 then (opnOf (x :: st) : Int) else (opnOf (x :: st) : Int) - 1) = (opnOf st : Int) := by
    split
    · next h5 => simp [opnOf, h5]
    · next h5 => simp [opnOf, h5]
  rwa [this] at m

set_option maxHeartbeats 1000000 in
set_option maxRecDepth 100000 in
theorem inner_any (h : MacR w0 W B b st out (opnOf st : Int) made sv ov) (hs : okSt st) (hl : st.length + out.length ≤ 1048576) (hk : opnOf st ≤ 64) :
    Calls Tryz.prog 39 #[.pointer (some ⟨b, 0, none⟩)] W fun e W' => e = .returned (.tuple #[]) ∧ ∃ sv' ov', MacR w0 W' B b (settleIn st out).1 (settleIn st out).2 (opnOf (settleIn st out).1 : Int) made sv' ov' := by
  have H := hid h
  have HS := hid hs
  clear h hs
  go_enter Tryz.func39, Tryz.ntmps39
  go_wp2
  go_loopw [] (fun W' => ∃ (s : List Wt) (o : List Nd) (sv' ov' : Value), s.length + o.length ≤ 1048576 ∧ opnOf s ≤ 64 ∧ Hid (MacR w0 W' B b s o (opnOf s : Int) made sv' ov' ∧ okSt s ∧ settleIn s o = settleIn st out)) (fun W' => waitsAt b W')
  case atStart => exact ⟨st, out, sv, ov, hl, hk, H.out, HS.out, rfl⟩
  case round =>
    obtain ⟨s, o, sv', ov', h1, h2, HR⟩ := hrel
    obtain ⟨m0, s0, e0⟩ := HR.out
    have HTOP := hid (fun (W : World) (hM : MacR w0 W B b s o (opnOf s : Int) made sv' ov') => top_any hM (by omega))
    have M0 := hid m0
    clear HR m0
    cases s with
    | nil =>
      have HE : Hid (settleIn st out = ([], o)) := by show _ = _; rw [← e0]; rfl
      clear e0 s0
      simp only [kindOf] at HTOP
      go_wp2_with (go_at_call 40; refine (HTOP.out _ M0.out).mono ?_; rintro e w1 ⟨rfl, m1⟩; have M1 := hid m1; clear m1)
      go_end0
      rw [HE.out]
      exact ⟨rfl, _, _, M1.out⟩
    | cons x t =>
      obtain ⟨xk, xo, xn⟩ := x
      have hx : 1 ≤ xk ∧ xk ≤ 5 := s0 _ (List.mem_cons_self ..)
      have st0 : okSt t := fun w hw => s0 w (List.mem_cons_of_mem _ hw)
      have HST := hid st0
      simp only [List.length_cons] at h1
      by_cases h34 : xk = 3 ∨ xk = 4
      · have HE : Hid (settleIn st out = (⟨xk, xo, xn⟩ :: t, o)) := by show _ = _; rw [← e0, settleIn, if_pos h34]
        clear e0 s0 st0 hx
        rcases h34 with rfl | rfl
        all_goals
          simp only [kindOf] at HTOP
          go_wp2_with (first
            | (have q := M2; clear q; go_at_call 40; refine (HTOP.out _ M2.out).mono ?_; rintro e w3 ⟨rfl, m3⟩; have M3 := hid m3; clear m3)
            | (have q := M1; clear q; go_at_call 40; refine (HTOP.out _ M1.out).mono ?_; rintro e w2 ⟨rfl, m2⟩; have M2 := hid m2; clear m2)
            | (go_at_call 40; refine (HTOP.out _ M0.out).mono ?_; rintro e w1 ⟨rfl, m1⟩; have M1 := hid m1; clear m1))
          go_end0
          rw [HE.out]
          first | exact ⟨rfl, _, _, M3.out⟩ | exact ⟨rfl, _, _, M2.out⟩
      · have HE : Hid (settleIn t (o ++ [nodeOf ⟨xk, xo, xn⟩]) = settleIn st out) := by show _ = _; rw [← e0, settleIn, if_neg h34]
        have h125 : xk = 1 ∨ xk = 2 ∨ xk = 5 := by omega
        have HSET := hid (fun (W : World) (hM : MacR w0 W B b (⟨xk, xo, xn⟩ :: t) o (opnOf (⟨xk, xo, xn⟩ :: t) : Int) made sv' ov') => settle_mac hM (by omega) (by omega) h2 (by show xk = 1 ∨ xk = 2 ∨ xk = 4 ∨ xk = 5; omega))
        have hop : opnOf t ≤ 64 := by
          have : opnOf t ≤ opnOf (⟨xk, xo, xn⟩ :: t) := by simp only [opnOf, List.countP_cons]; omega
          omega
        have hw0 := M0.out.waits
        have HW0 := hid hw0
        clear e0 s0 st0 hx h34 hw0
        rcases h125 with rfl | rfl | rfl
        all_goals
          simp only [kindOf] at HTOP
          go_wp2_with (first
            | (have q := M3; clear q; go_at_call 61; refine (HSET.out _ M3.out).mono ?_; rintro e w4 ⟨rfl, sv4, ov4, m4⟩; have M4 := hid m4; clear m4)
            | (have q := M2; clear q; go_at_call 40; refine (HTOP.out _ M2.out).mono ?_; rintro e w3 ⟨rfl, m3⟩; have M3 := hid m3; clear m3)
            | (have q := M1; clear q; go_at_call 40; refine (HTOP.out _ M1.out).mono ?_; rintro e w2 ⟨rfl, m2⟩; have M2 := hid m2; clear m2)
            | (go_at_call 40; refine (HTOP.out _ M0.out).mono ?_; rintro e w1 ⟨rfl, m1⟩; have M1 := hid m1; clear m1))
          refine ⟨⟨t, _, sv4, ov4, ?_, hop, M4.out, HST.out, HE.out⟩, ?_⟩
          · simp; omega
          · rw [M4.out.waits, HW0.out]; simp
end
end Go.Proofs.YtdkboifpdodonabGreatDoor.Ref
/-
  The machine's own calls: binds, operator.
-/
namespace Go.Proofs.YtdkboifpdodonabGreatDoor.Ref
open Go.RowKit Go.Deep PureCnf PureForm
set_option maxRecDepth 100000

set_option maxHeartbeats 1000000 in
theorem binds_any (op : Nat) (hop : op ≤ 100) (W : World) : Calls Tryz.prog 60 #[.int .i64 (op : Int)] W fun e w' => e = .returned (.int .i64 (bindsN op : Int)) ∧ w' = W := by
  by_cases h6 : op = 6
  · subst h6
    go_enter Tryz.func60, Tryz.ntmps60
    go_wp2
    go_ret
    exact ⟨rfl, rfl⟩
  · by_cases h8 : op = 8
    · subst h8
      go_enter Tryz.func60, Tryz.ntmps60
      go_wp2
      go_ret
      exact ⟨rfl, rfl⟩
    · by_cases h7 : op = 7
      · subst h7
        go_enter Tryz.func60, Tryz.ntmps60
        go_wp2
        go_ret
        exact ⟨rfl, rfl⟩
      · by_cases h9 : op = 9
        · subst h9
          go_enter Tryz.func60, Tryz.ntmps60
          go_wp2
          go_ret
          exact ⟨rfl, rfl⟩
        · have HB : Hid (bindsN op = 1) := by show _ = _; simp [bindsN, h6, h7, h8, h9]
          have b6 : ((op : Int) == 6) = false := by rw [beq_eq_false_iff_ne]; omega
          have b7 : ((op : Int) == 7) = false := by rw [beq_eq_false_iff_ne]; omega
          have b8 : ((op : Int) == 8) = false := by rw [beq_eq_false_iff_ne]; omega
          have b9 : ((op : Int) == 9) = false := by rw [beq_eq_false_iff_ne]; omega
          clear h6 h7 h8 h9
          go_enter Tryz.func60, Tryz.ntmps60
          go_wp2
          go_ret
          rw [HB.out]
          exact ⟨rfl, rfl⟩

/-- one waits more: the append in a region of the text's order. -/
theorem app_push {ops : Array Oper} {rest : List Oper} {o : Oper} {a : Act} {Q : Exit → Act → World → Prop} {w0 : Ref} {w : World} {B b : Nat} {st : List Wt} {out : List Nd} {k made : Int} {sv ov : Value} {cs : Array Value} (hgd : o.guard = none) (sl x : Operand)
    (ho : o.op = .call { callee := .builtin .append, args := #[sl, x], argTypes := #[72, 72] }) (y : Wt) (hcs : cs = (wt y).toArray) (M : MacR w0 w B b st out k made sv ov) (hs : a.eval sl = sv) (hx : a.eval x = .slice (some ⟨w.heap.size, 0, none⟩) 1 1) (hl : st.length ≤ 1048576)
    (h : ∀ sx cx w', w'.heap[b]? = some (.cells #[sv, ov, .int .i64 k, .int .i64 made] 74 (0, 0)) → MacR w0 (w'.setCell ⟨b, 0, none⟩ (.slice sx (st.length + 1) cx)) B b (y :: st) out k made (.slice sx (st.length + 1) cx) ov → wpList Tryz.prog ops Q rest (a.put o.dst (.slice sx (st.length + 1) cx)) w') : wpList Tryz.prog ops Q (o :: rest) a (w.alloc (.cells cs 82)) := by
  subst hcs
  have R := M.alloc (.cells (wt y).toArray 82)
  refine app_one hgd sl x 72 82 _ 3 24 ho Tryz.underlying72 info68 rfl (by decide) (by decide) B st.length sv (wts st.reverse) (wt y) ⟨w.heap.size, 0, none⟩ hs R.ost hx rfl (fun j u hu => by rw [add_zero_addr, cell_row (heap_alloc_new w _)]; simpa [wt] using hu) (fun u hu => by simp [wt] at hu; rcases hu with rfl | rfl | rfl <;> rfl) (by omega) (by have := R.hB; have := R.size; omega) ?_
  intro v2 w2 o2 g2
  obtain ⟨sx, cx, rfl⟩ := own_shape o2
  obtain ⟨r2, m2⟩ := R.push o2 g2
  exact h sx cx w2 r2 m2

section
variable {w0 : Ref} {W : World} {B b : Nat} {st : List Wt} {out : List Nd} {k : Int} {made : Nat} {sv ov : Value}

theorem operator_no (h : MacR w0 W B b st out k made sv ov) (op : Nat) (hm : 65536 ≤ made) :
    Calls Tryz.prog 36 #[.pointer (some ⟨b, 0, none⟩), .int .i64 (op : Int)] W fun e W' => e = .returned (.int .i64 8) ∧ MacE w0 W' B b := by
  have HM := hid (makes_no h hm)
  clear h
  go_enter Tryz.func36, Tryz.ntmps36
  go_wp2_with (go_at_call 33; refine HM.out.mono ?_; rintro e w1 ⟨rfl, m1⟩; have M1 := hid m1; clear m1)
  go_ret
  exact ⟨rfl, M1.out⟩


set_option maxHeartbeats 1000000 in
set_option maxRecDepth 100000 in
theorem operator_any (h : MacR w0 W B b st out (opnOf st : Int) made sv ov) (op : Nat) (hop : op ≤ 100) (hs : okSt st) (ho : ∀ w ∈ st, w.op ≤ 100) (hl : st.length + out.length ≤ 1048576) (hk : opnOf st ≤ 64) (hm : made < 65536) :
    Calls Tryz.prog 36 #[.pointer (some ⟨b, 0, none⟩), .int .i64 (op : Int)] W fun e W' => e = .returned (.int .i64 0) ∧ ∃ sv' ov', MacR w0 W' B b (⟨5, op, 0⟩ :: (settleOps op st out).1) (settleOps op st out).2 (opnOf (settleOps op st out).1 : Int) ((made + 1 : Nat) : Int) sv' ov' := by
  have HM := hid (makes_any h hm)
  have HS := hid hs
  have HO := hid ho
  have HBO := hid (fun W => binds_any op hop W)
  clear h hs ho
  go_enter Tryz.func36, Tryz.ntmps36
  go_wp2_with (go_at_call 33; refine HM.out.mono ?_; rintro e w1 ⟨rfl, m1⟩; have M1 := hid m1; clear m1)
  clear HM
  go_loopw [] (fun W' => ∃ (s : List Wt) (o : List Nd) (sv' ov' : Value), s.length + o.length ≤ 1048576 ∧ opnOf s ≤ 64 ∧ Hid (MacR w0 W' B b s o (opnOf s : Int) ((made + 1 : Nat) : Int) sv' ov' ∧ okSt s ∧ (∀ w ∈ s, w.op ≤ 100) ∧ settleOps op s o = settleOps op st out)) (fun W' => waitsAt b W')
  case atStart => exact ⟨st, out, sv, ov, hl, hk, M1.out, HS.out, HO.out, rfl⟩
  case round =>
    clear M1
    obtain ⟨s, o, sv', ov', h1, h2, HR⟩ := hrel
    obtain ⟨m0, s0, p0, e0⟩ := HR.out
    have HTOP := hid (fun (W : World) (hM : MacR w0 W B b s o (opnOf s : Int) ((made + 1 : Nat) : Int) sv' ov') => top_any hM (by omega))
    have M0 := hid m0
    clear HR m0
    cases s with
    | nil =>
      have HE : Hid (settleOps op st out = ([], o)) := by show _ = _; rw [← e0]; rfl
      clear e0 s0 p0
      simp only [kindOf] at HTOP
      go_wp2_with (first
        | (have q := M2; clear q; at_builtin; refine app_push rfl _ _ rfl ⟨5, op, 0⟩ rfl M2.out rfl rfl (by simp <;> omega) ?_; intro sx cx w9 r9 m9; have c9 := fun j => cell_row r9 j; have f9 := fun j => unfrozen_row r9 j; have hb9 := (Array.getElem?_eq_some_iff.1 r9).1; have M9 := hid m9; clear r9 m9)
        | (have q := M1; clear q; go_at_call 40; refine (HTOP.out _ M1.out).mono ?_; rintro e w2 ⟨rfl, m2⟩; have M2 := hid m2; have c2 := fun j => cell_row m2.row j; have f2 := fun j => unfrozen_row m2.row j; have hb2 := m2.size; clear m2)
        | (have q := M0; clear q; go_at_call 40; refine (HTOP.out _ M0.out).mono ?_; rintro e w1 ⟨rfl, m1⟩; have M1 := hid m1; have c1 := fun j => cell_row m1.row j; have f1 := fun j => unfrozen_row m1.row j; have hb1 := m1.size; clear m1))
      go_ret
      rw [HE.out]
      exact ⟨rfl, _, _, M9.out⟩
    | cons x t =>
      obtain ⟨xk, xo, xn⟩ := x
      have hx : 1 ≤ xk ∧ xk ≤ 5 := s0 _ (List.mem_cons_self ..)
      have hxo : xo ≤ 100 := p0 _ (List.mem_cons_self ..)
      have st0 : okSt t := fun w hw => s0 w (List.mem_cons_of_mem _ hw)
      have pt0 : ∀ w ∈ t, w.op ≤ 100 := fun w hw => p0 w (List.mem_cons_of_mem _ hw)
      have HST := hid st0
      have HPT := hid pt0
      simp only [List.length_cons] at h1
      have hop' : opnOf t ≤ 64 := by
        have : opnOf t ≤ opnOf (⟨xk, xo, xn⟩ :: t) := by simp only [opnOf, List.countP_cons]; omega
        omega
      have HW0 := hid M0.out.waits
      clear s0 p0 st0 pt0
      cases hgv : gives op ⟨xk, xo, xn⟩ with
      | false =>
        have HE : Hid (settleOps op st out = (⟨xk, xo, xn⟩ :: t, o)) := by show _ = _; rw [← e0, settleOps, hgv]; simp
        clear e0
        by_cases h5 : xk = 5
        · subst h5
          have hgb : bindsN xo < bindsN op ∨ (bindsN xo = bindsN op ∧ op = 9) := by
            rcases Nat.lt_or_ge (bindsN xo) (bindsN op) with h | h
            · exact .inl h
            · exact .inr ((by simpa [gives] using hgv : bindsN op ≤ bindsN xo → bindsN xo = bindsN op ∧ op = 9) h)
          have HBX := hid (fun W => binds_any xo hxo W)
          clear hgv
          simp only [kindOf] at HTOP
          go_wp2_with (first
            | (have q := M2; clear q; go_at_call 40; refine (HTOP.out _ M2.out).mono ?_; rintro e w3 ⟨rfl, m3⟩; have M3 := hid m3; have c3 := fun j => cell_row m3.row j; have f3 := fun j => unfrozen_row m3.row j; have hb3 := m3.size; clear m3)
            | (have q := M1; clear q; go_at_call 40; refine (HTOP.out _ M1.out).mono ?_; rintro e w2 ⟨rfl, m2⟩; have M2 := hid m2; have c2 := fun j => cell_row m2.row j; have f2 := fun j => unfrozen_row m2.row j; have hb2 := m2.size; clear m2)
            | (have q := M0; clear q; go_at_call 40; refine (HTOP.out _ M0.out).mono ?_; rintro e w1 ⟨rfl, m1⟩; have M1 := hid m1; have c1 := fun j => cell_row m1.row j; have f1 := fun j => unfrozen_row m1.row j; have hb1 := m1.size; clear m1))
          obtain ⟨g, cap, rfl, hc, hg, t0, t1, t2, _, _, _⟩ := M3.out.top
          go_quiet (first | (go_at_call 60; exact Calls.quiet_of_same (HBX.out _)))
          have M4 := hid (M3.out.drewN nq)
          clear c1 c2 f1 f2 hb1 hb2 t0 t1 t2 c3 f3
          generalize w3.drewN nq = w4 at *
          have c4 := fun j => cell_row M4.out.row j
          have f4 := fun j => unfrozen_row M4.out.row j
          have hb4 := M4.out.size
          have d1 : (0 : Int) ≤ (bindsN xo : Int) := by omega
          rcases hgb with hgb | ⟨hgb, hop9⟩
          · have d2 : (bindsN xo : Int) < (bindsN op : Int) := by omega
            clear hgb
            go_wp2_with (first
              | (have q := M4; clear q; at_builtin; refine app_push rfl _ _ rfl ⟨5, op, 0⟩ rfl M4.out rfl rfl (by simp <;> omega) ?_; intro sx cx w9 r9 m9; have c9 := fun j => cell_row r9 j; have f9 := fun j => unfrozen_row r9 j; have hb9 := (Array.getElem?_eq_some_iff.1 r9).1; have M9 := hid m9; clear r9 m9)
              | (go_at_call 60; refine (HBO.out _).mono ?_; rintro e w' ⟨rfl, rfl⟩))
            go_ret
            rw [HE.out]
            exact ⟨rfl, _, _, M9.out⟩
          · have d2 : ¬ (bindsN xo : Int) < (bindsN op : Int) := by omega
            have d3 : (bindsN xo : Int) = (bindsN op : Int) := by omega
            have d4 : ((bindsN xo : Int) == (bindsN op : Int)) = true := by rw [beq_iff_eq]; exact d3
            have d5 : ((op : Int) == 9) = true := by rw [beq_iff_eq]; omega
            clear hgb d3 hop9
            go_wp2_with (first
              | (have q := M4; clear q; at_builtin; refine app_push rfl _ _ rfl ⟨5, op, 0⟩ rfl M4.out rfl rfl (by simp <;> omega) ?_; intro sx cx w9 r9 m9; have c9 := fun j => cell_row r9 j; have f9 := fun j => unfrozen_row r9 j; have hb9 := (Array.getElem?_eq_some_iff.1 r9).1; have M9 := hid m9; clear r9 m9)
              | (go_at_call 60; refine (HBO.out _).mono ?_; rintro e w' ⟨rfl, rfl⟩))
            go_ret
            rw [HE.out]
            exact ⟨rfl, _, _, M9.out⟩
        · have hk1 : xk ≠ 1 := fun e => by subst e; simp [gives] at hgv
          clear hgv
          have h234 : xk = 2 ∨ xk = 3 ∨ xk = 4 := by omega
          rcases h234 with rfl | rfl | rfl
          all_goals
            simp only [kindOf] at HTOP
            go_wp2_with (first
              | (have q := M2; clear q; at_builtin; refine app_push rfl _ _ rfl ⟨5, op, 0⟩ rfl M2.out rfl rfl (by simp <;> omega) ?_; intro sx cx w9 r9 m9; have c9 := fun j => cell_row r9 j; have f9 := fun j => unfrozen_row r9 j; have hb9 := (Array.getElem?_eq_some_iff.1 r9).1; have M9 := hid m9; clear r9 m9)
              | (have q := M1; clear q; go_at_call 40; refine (HTOP.out _ M1.out).mono ?_; rintro e w2 ⟨rfl, m2⟩; have M2 := hid m2; have c2 := fun j => cell_row m2.row j; have f2 := fun j => unfrozen_row m2.row j; have hb2 := m2.size; clear m2)
              | (have q := M0; clear q; go_at_call 40; refine (HTOP.out _ M0.out).mono ?_; rintro e w1 ⟨rfl, m1⟩; have M1 := hid m1; have c1 := fun j => cell_row m1.row j; have f1 := fun j => unfrozen_row m1.row j; have hb1 := m1.size; clear m1))
            go_ret
            rw [HE.out]
            exact ⟨rfl, _, _, M9.out⟩
      | true =>
        have HE : Hid (settleOps op t (o ++ [nodeOf ⟨xk, xo, xn⟩]) = settleOps op st out) := by show _ = _; rw [← e0, settleOps, if_pos hgv]
        clear e0
        have hk15 : xk = 1 ∨ xk = 5 := by
          by_cases h1 : xk = 1
          · exact .inl h1
          · simp [gives, h1] at hgv; exact .inr hgv.1
        have HSET := hid (fun (W : World) (hM : MacR w0 W B b (⟨xk, xo, xn⟩ :: t) o (opnOf (⟨xk, xo, xn⟩ :: t) : Int) ((made + 1 : Nat) : Int) sv' ov') => settle_mac hM (by omega) (by omega) h2 (by show xk = 1 ∨ xk = 2 ∨ xk = 4 ∨ xk = 5; omega))
        rcases hk15 with rfl | rfl
        · clear hgv hx
          simp only [kindOf] at HTOP
          go_wp2_with (first
            | (have q := M2; clear q; go_at_call 61; refine (HSET.out _ M2.out).mono ?_; rintro e w8 ⟨rfl, sv8, ov8, m8⟩; have M8 := hid m8; clear m8)
            | (have q := M1; clear q; go_at_call 40; refine (HTOP.out _ M1.out).mono ?_; rintro e w2 ⟨rfl, m2⟩; have M2 := hid m2; have c2 := fun j => cell_row m2.row j; have f2 := fun j => unfrozen_row m2.row j; have hb2 := m2.size; clear m2)
            | (have q := M0; clear q; go_at_call 40; refine (HTOP.out _ M0.out).mono ?_; rintro e w1 ⟨rfl, m1⟩; have M1 := hid m1; have c1 := fun j => cell_row m1.row j; have f1 := fun j => unfrozen_row m1.row j; have hb1 := m1.size; clear m1))
          refine ⟨⟨t, _, sv8, ov8, ?_, hop', M8.out, HST.out, HPT.out, HE.out⟩, ?_⟩
          · simp; omega
          · rw [M8.out.waits, HW0.out]; simp
        · have hgb : ¬ bindsN xo < bindsN op ∧ ¬ (bindsN xo = bindsN op ∧ op = 9) := by
            have := (by simpa [gives] using hgv : bindsN op ≤ bindsN xo ∧ (¬ bindsN xo = bindsN op ∨ ¬ op = 9))
            exact ⟨by omega, fun h => this.2.elim (· h.1) (· h.2)⟩
          have HBX := hid (fun W => binds_any xo hxo W)
          clear hgv hx
          simp only [kindOf] at HTOP
          go_wp2_with (first
            | (have q := M2; clear q; go_at_call 40; refine (HTOP.out _ M2.out).mono ?_; rintro e w3 ⟨rfl, m3⟩; have M3 := hid m3; have c3 := fun j => cell_row m3.row j; have f3 := fun j => unfrozen_row m3.row j; have hb3 := m3.size; clear m3)
            | (have q := M1; clear q; go_at_call 40; refine (HTOP.out _ M1.out).mono ?_; rintro e w2 ⟨rfl, m2⟩; have M2 := hid m2; have c2 := fun j => cell_row m2.row j; have f2 := fun j => unfrozen_row m2.row j; have hb2 := m2.size; clear m2)
            | (have q := M0; clear q; go_at_call 40; refine (HTOP.out _ M0.out).mono ?_; rintro e w1 ⟨rfl, m1⟩; have M1 := hid m1; have c1 := fun j => cell_row m1.row j; have f1 := fun j => unfrozen_row m1.row j; have hb1 := m1.size; clear m1))
          obtain ⟨g, cap, rfl, hc, hg, t0, t1, t2, _, _, _⟩ := M3.out.top
          go_quiet (first | (go_at_call 60; exact Calls.quiet_of_same (HBX.out _)))
          have M4 := hid (M3.out.drewN nq)
          clear c1 c2 f1 f2 hb1 hb2 t0 t1 t2 c3 f3
          generalize w3.drewN nq = w4 at *
          have c4 := fun j => cell_row M4.out.row j
          have f4 := fun j => unfrozen_row M4.out.row j
          have hb4 := M4.out.size
          obtain ⟨g1, g2⟩ := hgb
          have d2 : ¬ (bindsN xo : Int) < (bindsN op : Int) := by omega
          by_cases hpe : bindsN xo = bindsN op
          · have d4 : ((bindsN xo : Int) == (bindsN op : Int)) = true := by rw [beq_iff_eq]; omega
            have h9 : op ≠ 9 := fun h => g2 ⟨hpe, h⟩
            have d5 : ((op : Int) == 9) = false := by rw [beq_eq_false_iff_ne]; omega
            clear hpe h9 g1 g2
            go_wp2_with (first
              | (have q := M4; clear q; go_at_call 61; refine (HSET.out _ M4.out).mono ?_; rintro e w8 ⟨rfl, sv8, ov8, m8⟩; have M8 := hid m8; clear m8)
              | (go_at_call 60; refine (HBO.out _).mono ?_; rintro e w' ⟨rfl, rfl⟩))
            refine ⟨⟨t, _, sv8, ov8, ?_, hop', M8.out, HST.out, HPT.out, HE.out⟩, ?_⟩
            · simp; omega
            · rw [M8.out.waits, HW0.out]; simp
          · have d4 : ((bindsN xo : Int) == (bindsN op : Int)) = false := by rw [beq_eq_false_iff_ne]; omega
            clear hpe g1 g2
            go_wp2_with (first
              | (have q := M4; clear q; go_at_call 61; refine (HSET.out _ M4.out).mono ?_; rintro e w8 ⟨rfl, sv8, ov8, m8⟩; have M8 := hid m8; clear m8)
              | (go_at_call 60; refine (HBO.out _).mono ?_; rintro e w' ⟨rfl, rfl⟩))
            refine ⟨⟨t, _, sv8, ov8, ?_, hop', M8.out, HST.out, HPT.out, HE.out⟩, ?_⟩
            · simp; omega
            · rw [M8.out.waits, HW0.out]; simp
end
end Go.Proofs.YtdkboifpdodonabGreatDoor.Ref
