import Derived.Test.YtdkboifpdodonabGreatDoorZ05
set_option linter.unusedSimpArgs false
/-
  The document's page: a text in the making, what is open now and at most.
-/
namespace Go.Proofs.YtdkboifpdodonabGreatDoor.Doc
open Go.RowKit Go.Deep PureCnf PureForm
set_option maxRecDepth 100000

theorem info5 : (Tryz.prog.info? 5).map (fun i => (i.zero, i.size, i.bytes)) = some (some (.int .u8 0), 1, 1) := by kernel_rfl
/-- bytes as cells. -/
def cb (l : List UInt8) : List Value := l.map fun b => Value.int .u8 b.toNat
theorem cb_append (l m : List UInt8) : cb (l ++ m) = cb l ++ cb m := by simp [cb]


/-- what is no text and not the page stays. -/
def Kept (b : Nat) (wk W : World) : Prop := ∀ (k : Nat) (cs : Array Value) (t : Nat) (fz : Nat × Nat), wk.heap[k]? = some (.cells cs t fz) → t ≠ 5 → k ≠ b → W.heap[k]? = some (.cells cs t fz)
theorem Kept.refl (b : Nat) (w : World) : Kept b w w := fun _ _ _ _ h _ _ => h
theorem Kept.trans {b : Nat} {w1 w2 w3 : World} (h1 : Kept b w1 w2) (h2 : Kept b w2 w3) : Kept b w1 w3 := fun k cs t fz h ht hk => h2 k cs t fz (h1 k cs t fz h ht hk) ht hk
theorem Kept.set {b i : Nat} {wk W : World} (h : Kept b wk W) (u : Value) : Kept b wk (W.setCell ⟨b, i, none⟩ u) := fun k cs t fz e ht hk => (Below.heap_setCell W _ _ _ (by simpa using hk)).trans (h k cs t fz e ht hk)

structure Pg (wk w0 W : World) (B b : Nat) (fv gv bv : Value) (T : List UInt8) (deep most : Nat) : Prop where
  row : W.heap[b]? = some (.cells #[fv, gv, bv, .int .i64 (deep : Int), .int .i64 (most : Int)] 58 (0, 0))
  own : W.ownsRowF B 5 1 bv T.length (cb T)
  hB : B ≤ b
  below : Below B w0 W
  kept : Kept b wk W

section
variable {wk w0 W W' : World} {B b : Nat} {fv gv bv : Value} {T : List UInt8} {deep most : Nat}
theorem Pg.size (h : Pg wk w0 W B b fv gv bv T deep most) : b < W.heap.size := (Array.getElem?_eq_some_iff.1 h.row).1
theorem ownsRowF_store {i t : Nat} {u : Value} {n : Nat} {xs : List Value} {cs : Array Value} {fz : Nat × Nat} (h : W.ownsRowF B 5 1 bv n xs) (hr : W.heap[b]? = some (.cells cs t fz)) (hte : t ≠ 5) : (W.setCell ⟨b, i, none⟩ u).ownsRowF B 5 1 bv n xs := by
  have hne := Lib.ownBlock_neF h hr hte
  refine ⟨h.1, ?_⟩
  rcases h.2 with hn | ⟨g, cap, cur, fz, hv, hB, hg, rest⟩
  · exact .inl hn
  · refine .inr ⟨g, cap, cur, fz, hv, hB, (Below.heap_setCell W _ _ _ ?_).trans hg, rest⟩
    intro e
    exact hne (by rw [hv]; simp [Value.ownBlock]; exact e)
theorem Pg.setDeep (h : Pg wk w0 W B b fv gv bv T deep most) (d : Nat) : Pg wk w0 (W.setCell ⟨b, 3, none⟩ (.int .i64 (d : Int))) B b fv gv bv T d most :=
  ⟨by have := row_set (i := 3) (u := .int .i64 (d : Int)) h.row; simpa using this, ownsRowF_store h.own h.row (by decide), h.hB, h.below.setCell h.hB _, h.kept.set _⟩
theorem Pg.setMost (h : Pg wk w0 W B b fv gv bv T deep most) (d : Nat) : Pg wk w0 (W.setCell ⟨b, 4, none⟩ (.int .i64 (d : Int))) B b fv gv bv T deep d :=
  ⟨by have := row_set (i := 4) (u := .int .i64 (d : Int)) h.row; simpa using this, ownsRowF_store h.own h.row (by decide), h.hB, h.below.setCell h.hB _, h.kept.set _⟩
theorem Pg.drewN (h : Pg wk w0 W B b fv gv bv T deep most) (n : Nat) : Pg wk w0 (W.drewN n) B b fv gv bv T deep most := ⟨h.row, h.own, h.hB, below_drewN h.below n, h.kept⟩
theorem Pg.grow (h : Pg wk w0 W B b fv gv bv T deep most) {bv' : Value} {D : List UInt8} (ho : W'.ownsRowF B 5 1 bv' (T ++ D).length (cb (T ++ D))) (hg : W.grownBy W' bv.ownBlock) :
    W'.heap[b]? = some (.cells #[fv, gv, bv, .int .i64 (deep : Int), .int .i64 (most : Int)] 58 (0, 0)) ∧ Pg wk w0 (W'.setCell ⟨b, 2, none⟩ bv') B b fv gv bv' (T ++ D) deep most := by
  have hne := Lib.ownBlock_neF h.own h.row (by decide)
  have hrow : W'.heap[b]? = some (.cells #[fv, gv, bv, .int .i64 (deep : Int), .int .i64 (most : Int)] 58 (0, 0)) := (hg.block b h.size (Ne.symm hne)).trans h.row
  refine ⟨hrow, ⟨by have := row_set (i := 2) (u := bv') hrow; simpa using this, ownsRowF_store ho hrow (by decide), h.hB, ?_, ?_⟩⟩
  · exact (h.below.grown hg (by have := h.size; have := h.hB; omega) (fun j hj => (h.own.lt j hj).1)).setCell h.hB _
  · refine Kept.set (fun k cs t fz e ht hk => ?_) _
    have e2 := h.kept k cs t fz e ht hk
    exact (hg.block k (Array.getElem?_eq_some_iff.1 e2).1 (Ne.symm (Lib.ownBlock_neF h.own e2 ht))).trans e2

set_option maxHeartbeats 1000000 in
set_option maxRecDepth 100000 in
theorem popens_any (h : Pg wk w0 W B b fv gv bv T deep most) (hd : deep ≤ 1048576) :
    Calls Tryz.prog 70 #[.pointer (some ⟨b, 0, none⟩)] W fun e W' => e = .returned (.tuple #[]) ∧ Pg wk w0 W' B b fv gv bv T (deep + 1) (max most (deep + 1)) := by
  have c0 := fun j => cell_row h.row j
  have f0 := fun j => unfrozen_row h.row j
  have hb := h.size
  have h1 := h.setDeep (deep + 1)
  by_cases hlt : (most : Int) < (deep : Int) + 1
  · have H1 := hid h1
    have e : max most (deep + 1) = deep + 1 := by omega
    rw [e]
    clear h h1 e
    go_enter Tryz.func70, Tryz.ntmps70
    go_wp2
    go_quiet (fail)
    have M2 := hid (H1.out.drewN nq)
    rw [show ((deep + 1 : Nat) : Int) = (deep : Int) + 1 by omega] at M2
    clear c0 f0
    generalize (W.setCell ⟨b, 3, none⟩ (.int .i64 ((deep : Int) + 1))).drewN nq = w2 at *
    have c2 := fun j => cell_row M2.out.row j
    have f2 := fun j => unfrozen_row M2.out.row j
    have hb2 := M2.out.size
    go_wp2
    go_end0
    exact ⟨rfl, M2.out.setMost (deep + 1)⟩
  · have H1 := hid h1
    have e : max most (deep + 1) = most := by omega
    rw [e]
    clear h h1 e
    go_enter Tryz.func70, Tryz.ntmps70
    go_wp2
    go_quiet (fail)
    have M2 := hid (H1.out.drewN nq)
    go_wp2
    go_end0
    exact ⟨rfl, M2.out⟩

theorem own_shapeF {n : Nat} {v : Value} {xs : List Value} {e : Nat} (h : W.ownsRowF B e 1 v n xs) : ∃ sa c, v = .slice sa n c := by
  rcases h.2 with ⟨hv, h0⟩ | ⟨g, cap, cur, fz, hv, _⟩
  · exact ⟨none, 0, by rw [hv, h0]⟩
  · exact ⟨_, _, hv⟩

theorem app_put {ops : Array Oper} {rest : List Oper} {o : Oper} {a : Act} {Q : Exit → Act → World → Prop} (hgd : o.guard = none) (sl x : Operand)
    (ho : o.op = .call { callee := .builtin .append, args := #[sl, x], argTypes := #[56, 9] }) (h : Pg wk w0 W B b fv gv bv T deep most) (D : List UInt8) (hs : a.eval sl = bv) (hx : a.eval x = str D) (hl : T.length + D.length ≤ 140737488355328)
    (hK : ∀ sx cx w', w'.heap[b]? = some (.cells #[fv, gv, bv, .int .i64 (deep : Int), .int .i64 (most : Int)] 58 (0, 0)) → Pg wk w0 (w'.setCell ⟨b, 2, none⟩ (.slice sx (T.length + D.length) cx)) B b fv gv (.slice sx (T.length + D.length) cx) (T ++ D) deep most → wpList Tryz.prog ops Q rest (a.put o.dst (.slice sx (T.length + D.length) cx)) w') : wpList Tryz.prog ops Q (o :: rest) a W := by
  obtain ⟨i, hi, hz0, hz1, hz2⟩ := info_parts info5
  have hob : Lib.OwnBuf B 5 bv T.length (cb T) w0 W := ⟨h.own, h.below, by have := h.size; have := h.hB; omega⟩
  refine Lib.wpList_append_own_stringF W hgd sl x 56 9 ho B 5 i Tryz.underlying56 Tryz.underlying9 hi hz0 hz1 hz2 bv T.length (cb T) hs hob.1 ⟨D.toArray⟩ hx (by unfold maxLen; show T.length + D.length ≤ _; omega) hl hob.2.2 ?_
  intro v1 w1 o1 g1 _
  have o2 : w1.ownsRowF B 5 1 v1 (T ++ D).length (cb (T ++ D)) := by
    rw [cb_append, List.length_append]
    exact o1
  obtain ⟨sx, cx, rfl⟩ := own_shapeF o2
  rw [List.length_append] at o2 ⊢
  obtain ⟨r1, m1⟩ := h.grow (D := D) (by rw [List.length_append]; exact o2) g1
  exact hK sx cx w1 r1 m1

set_option maxHeartbeats 1000000 in
set_option maxRecDepth 100000 in
theorem put_any (h : Pg wk w0 W B b fv gv bv T deep most) (D : List UInt8) (hl : T.length + D.length ≤ 140737488355328) :
    Calls Tryz.prog 71 #[.pointer (some ⟨b, 0, none⟩), str D] W fun e W' => e = .returned (.tuple #[]) ∧ ∃ bv', Pg wk w0 W' B b fv gv bv' (T ++ D) deep most := by
  have c0 := fun j => cell_row h.row j
  have f0 := fun j => unfrozen_row h.row j
  have hb := h.size
  have H := hid h
  clear h
  go_enter Tryz.func71, Tryz.ntmps71
  go_wp2_with (at_builtin; refine app_put rfl _ _ rfl H.out D rfl rfl hl ?_; intro sx cx w1 r1 m1; have c1 := fun j => cell_row r1 j; have f1 := fun j => unfrozen_row r1 j; have hb1 := (Array.getElem?_eq_some_iff.1 r1).1; have M1 := hid m1; clear r1 m1)
  go_end0
  exact ⟨rfl, _, M1.out⟩
end
end Go.Proofs.YtdkboifpdodonabGreatDoor.Doc
/-
  The document's own arity, node.
-/
namespace Go.Proofs.YtdkboifpdodonabGreatDoor.Doc
open Go.RowKit Go.Deep PureCnf PureForm
set_option maxRecDepth 100000

/-- how many operands; -1: no operator. -/
def arityI (o : Int) : Int := if o = 1 ∨ o = 2 then 0 else if 3 ≤ o ∧ o ≤ 5 then 1 else if 6 ≤ o ∧ o ≤ 10 then 2 else if o = 11 then 3 else -1

set_option maxHeartbeats 1000000 in
set_option maxRecDepth 100000 in
theorem arity_any (o : Int) (w : World) : Calls Tryz.prog 66 #[.int .i64 o] w fun e w' => e = .returned (.int .i64 (arityI o)) ∧ w' = w := by
  by_cases h1 : o = 1
  · subst h1
    go_enter Tryz.func66, Tryz.ntmps66
    go_wp2
    go_ret
    exact ⟨rfl, rfl⟩
  · by_cases h2 : o = 2
    · subst h2
      go_enter Tryz.func66, Tryz.ntmps66
      go_wp2
      go_ret
      exact ⟨rfl, rfl⟩
    · have b1 : (o == 1) = false := by rw [beq_eq_false_iff_ne]; exact h1
      have b2 : (o == 2) = false := by rw [beq_eq_false_iff_ne]; exact h2
      by_cases h3 : 3 ≤ o ∧ o ≤ 5
      · have HA : Hid (arityI o = 1) := by show _ = _; unfold arityI; rw [if_neg (by omega), if_pos h3]
        obtain ⟨h3, h5⟩ := h3
        clear h1 h2
        go_enter Tryz.func66, Tryz.ntmps66
        go_wp2
        go_ret
        rw [HA.out]
        exact ⟨rfl, rfl⟩
      · by_cases h6 : 6 ≤ o ∧ o ≤ 10
        · have HA : Hid (arityI o = 2) := by show _ = _; unfold arityI; rw [if_neg (by omega), if_neg h3, if_pos h6]
          obtain ⟨h6, h10⟩ := h6
          have h3a : 3 ≤ o := by omega
          have h3b : ¬ o ≤ 5 := by omega
          clear h1 h2 h3
          go_enter Tryz.func66, Tryz.ntmps66
          go_wp2
          go_ret
          rw [HA.out]
          exact ⟨rfl, rfl⟩
        · by_cases h11 : o = 11
          · subst h11
            go_enter Tryz.func66, Tryz.ntmps66
            go_wp2
            go_ret
            exact ⟨rfl, rfl⟩
          · have HA : Hid (arityI o = -1) := by show _ = _; unfold arityI; rw [if_neg (by omega), if_neg h3, if_neg h6, if_neg h11]
            have b11 : (o == 11) = false := by rw [beq_eq_false_iff_ne]; exact h11
            by_cases h0 : 3 ≤ o
            · have g1 : ¬ o ≤ 5 := by omega
              have g2 : 6 ≤ o := by omega
              have g3 : ¬ o ≤ 10 := by omega
              clear h1 h2 h3 h6 h11
              go_enter Tryz.func66, Tryz.ntmps66
              go_wp2
              go_ret
              rw [HA.out]
              exact ⟨rfl, rfl⟩
            · have g2 : ¬ 6 ≤ o := by omega
              clear h1 h2 h3 h6 h11
              go_enter Tryz.func66, Tryz.ntmps66
              go_wp2
              go_ret
              rw [HA.out]
              exact ⟨rfl, rfl⟩

set_option maxHeartbeats 1000000 in
set_option maxRecDepth 100000 in
/-- node: may a node have these numbers? -/
theorem node_any (x : Nd) (w : World) : Calls Tryz.prog 65 #[.agg #[.int .i64 x.1, .int .i64 x.2]] w fun e w' => e = .returned (.bool (nodeB x)) ∧ Below w.heap.size w w' := by
  obtain ⟨o, n⟩ := x
  simp only
  by_cases h1 : o = 1
  · subst h1
    by_cases n0 : n = 0
    · subst n0
      have HB : Hid (nodeB (1, 0) = true) := by show _ = _; decide
      go_enter Tryz.func65, Tryz.ntmps65
      go_wp2
      go_ret
      rw [HB.out]
      exact ⟨rfl, (Below.refl _ _).alloc (Nat.le_refl _) _⟩
    · have c0 : (n == 0) = false := by rw [beq_eq_false_iff_ne]; exact n0
      by_cases n1 : n = 1
      · subst n1
        have HB : Hid (nodeB (1, 1) = true) := by show _ = _; decide
        clear n0 c0
        go_enter Tryz.func65, Tryz.ntmps65
        go_wp2
        go_ret
        rw [HB.out]
        exact ⟨rfl, (Below.refl _ _).alloc (Nat.le_refl _) _⟩
      · have c1 : (n == 1) = false := by rw [beq_eq_false_iff_ne]; exact n1
        have HB : Hid (nodeB (1, n) = false) := by show _ = _; simp [nodeB, n0, n1]
        clear n0 n1
        go_enter Tryz.func65, Tryz.ntmps65
        go_wp2
        go_ret
        rw [HB.out]
        exact ⟨rfl, (Below.refl _ _).alloc (Nat.le_refl _) _⟩
  · have b1 : (o == 1) = false := by rw [beq_eq_false_iff_ne]; exact h1
    by_cases h2 : o = 2 ∨ o = 4 ∨ o = 5
    · by_cases hn : 0 ≤ n
      · by_cases hm : n < 65536
        · have HB : Hid (nodeB (o, n) = true) := by show _ = _; simp [nodeB, h1, h2, hn, hm]
          clear h1
          rcases h2 with rfl | rfl | rfl
          all_goals
            go_enter Tryz.func65, Tryz.ntmps65
            go_wp2
            go_ret
            rw [HB.out]
            exact ⟨rfl, (Below.refl _ _).alloc (Nat.le_refl _) _⟩
        · have HB : Hid (nodeB (o, n) = false) := by show _ = _; simp [nodeB, h1, h2]; omega
          clear h1
          rcases h2 with rfl | rfl | rfl
          all_goals
            go_enter Tryz.func65, Tryz.ntmps65
            go_wp2
            go_ret
            rw [HB.out]
            exact ⟨rfl, (Below.refl _ _).alloc (Nat.le_refl _) _⟩
      · have HB : Hid (nodeB (o, n) = false) := by show _ = _; simp [nodeB, h1, h2]; omega
        clear h1
        rcases h2 with rfl | rfl | rfl
        all_goals
          go_enter Tryz.func65, Tryz.ntmps65
          go_wp2
          go_ret
          rw [HB.out]
          exact ⟨rfl, (Below.refl _ _).alloc (Nat.le_refl _) _⟩
    · have b2 : (o == 2) = false := by rw [beq_eq_false_iff_ne]; omega
      have b4 : (o == 4) = false := by rw [beq_eq_false_iff_ne]; omega
      have b5 : (o == 5) = false := by rw [beq_eq_false_iff_ne]; omega
      have HA := hid (fun W => arity_any o W)
      by_cases ha : o = 3 ∨ (6 ≤ o ∧ o ≤ 11)
      · have har : 0 < arityI o ∧ arityI o ≤ 3 := by
          unfold arityI
          split
          · omega
          · split
            · omega
            · split
              · omega
              · split <;> omega
        obtain ⟨a, hae⟩ : ∃ a, a = arityI o := ⟨_, rfl⟩
        rw [← hae] at har HA
        obtain ⟨a1, a2⟩ := har
        by_cases n0 : n = 0
        · subst n0
          have HB : Hid (nodeB (o, 0) = true) := by show _ = _; simp [nodeB, h1, h2, ha]
          clear h1 h2 ha hae
          go_enter Tryz.func65, Tryz.ntmps65
          go_wp2_with (go_at_call 66; refine (HA.out _).mono ?_; rintro e w' ⟨rfl, rfl⟩)
          go_ret
          rw [HB.out]
          exact ⟨rfl, (Below.refl _ _).alloc (Nat.le_refl _) _⟩
        · have c0 : (n == 0) = false := by rw [beq_eq_false_iff_ne]; exact n0
          have HB : Hid (nodeB (o, n) = false) := by show _ = _; simp [nodeB, h1, h2, n0]
          clear h1 h2 ha hae n0
          go_enter Tryz.func65, Tryz.ntmps65
          go_wp2_with (go_at_call 66; refine (HA.out _).mono ?_; rintro e w' ⟨rfl, rfl⟩)
          go_ret
          rw [HB.out]
          exact ⟨rfl, (Below.refl _ _).alloc (Nat.le_refl _) _⟩
      · have har : arityI o = -1 := by
          unfold arityI
          rw [if_neg (by omega), if_neg (by omega), if_neg (by omega), if_neg (by omega)]
        rw [har] at HA
        have HB : Hid (nodeB (o, n) = false) := by show _ = _; simp [nodeB, h1, h2]; intro h; omega
        clear h1 h2 ha har
        go_enter Tryz.func65, Tryz.ntmps65
        go_wp2_with (go_at_call 66; refine (HA.out _).mono ?_; rintro e w' ⟨rfl, rfl⟩)
        go_ret
        rw [HB.out]
        exact ⟨rfl, (Below.refl _ _).alloc (Nat.le_refl _) _⟩
end Go.Proofs.YtdkboifpdodonabGreatDoor.Doc
/-
  Where the trees of a list begin, and their roots: plain mathematics.
-/
namespace Go.Proofs.YtdkboifpdodonabGreatDoor.Doc
open PureCnf PureForm
set_option maxRecDepth 100000

/-- of each node of a tree that begins at b where its own begins. -/
def fromT : Tr → Nat → List Nat := Tr.fold (fun _ b => [b]) (fun _ _ i b => i b ++ [b]) (fun _ a _ i j b => i b ++ j (b + a.post.length) ++ [b]) (fun _ a c _ i j k b => i b ++ j (b + a.post.length) ++ k (b + a.post.length + c.post.length) ++ [b])
theorem fromT_lf (x : Nd) (b : Nat) : fromT (.lf x) b = [b] := rfl
theorem fromT_un (x : Nd) (a : Tr) (b : Nat) : fromT (.un x a) b = fromT a b ++ [b] := rfl
theorem fromT_bi (x : Nd) (a c : Tr) (b : Nat) : fromT (.bi x a c) b = fromT a b ++ fromT c (b + a.post.length) ++ [b] := rfl
theorem fromT_te (x : Nd) (a c d : Tr) (b : Nat) : fromT (.te x a c d) b = fromT a b ++ fromT c (b + a.post.length) ++ fromT d (b + a.post.length + c.post.length) ++ [b] := rfl
theorem fromT_len (t : Tr) : ∀ b, (fromT t b).length = t.post.length := by
  induction t using Tr.ind with
  | lf x => intro b; rfl
  | un x a ih => intro b; simp [fromT_lf, fromT_un, fromT_bi, fromT_te, Tr.post_lf, Tr.post_un, Tr.post_bi, Tr.post_te, ih]
  | bi x a c iha ihc => intro b; simp [fromT_lf, fromT_un, fromT_bi, fromT_te, Tr.post_lf, Tr.post_un, Tr.post_bi, Tr.post_te, iha, ihc]
  | te x a c d iha ihc ihd => intro b; simp [fromT_lf, fromT_un, fromT_bi, fromT_te, Tr.post_lf, Tr.post_un, Tr.post_bi, Tr.post_te, iha, ihc, ihd]
theorem fromT_last (t : Tr) (b : Nat) : (fromT t b)[t.post.length - 1]? = some b := by
  have key : ∀ (l : List Nat) (n : Nat), n = l.length + 1 → (l ++ [b])[n - 1]? = some b := by
    intro l n h; subst h; simp
  cases t using Tr.cas with
  | lf x => rfl
  | un x a => rw [fromT_un]; exact key (fromT a b) _ (by rw [Tr.post_un, List.length_append, fromT_len]; rfl)
  | bi x a c => rw [fromT_bi]; exact key (fromT a b ++ fromT c (b + a.post.length)) _ (by rw [Tr.post_bi, List.length_append, List.length_append, List.length_append, fromT_len, fromT_len]; rfl)
  | te x a c d => rw [fromT_te]; exact key (fromT a b ++ fromT c (b + a.post.length) ++ fromT d (b + a.post.length + c.post.length)) _ (by rw [Tr.post_te, List.length_append, List.length_append, List.length_append, List.length_append, List.length_append, fromT_len, fromT_len, fromT_len]; rfl)

def posL (st : List Tr) : Nat := (postAll st).length
theorem posL_cons (t : Tr) (st : List Tr) : posL (t :: st) = posL st + t.post.length := by simp [posL, postAll_cons]
theorem posL_nil : posL [] = 0 := rfl
def fromAll : List Tr → List Nat
  | [] => []
  | t :: st => fromAll st ++ fromT t (posL st)
def rootsAll : List Tr → List Nat
  | [] => []
  | t :: st => rootsAll st ++ [posL (t :: st) - 1]
theorem fromAll_len (st : List Tr) : (fromAll st).length = posL st := by
  induction st with
  | nil => rfl
  | cons t s ih => rw [fromAll, List.length_append, ih, fromT_len, posL_cons]
theorem rootsAll_len (st : List Tr) : (rootsAll st).length = st.length := by
  induction st with
  | nil => rfl
  | cons t s ih => simp [rootsAll, ih]
theorem from_root (t : Tr) (s : List Tr) : (fromAll (t :: s))[posL (t :: s) - 1]? = some (posL s) := by
  have hp := post_pos t
  rw [fromAll, posL_cons, List.getElem?_append_right (by rw [fromAll_len]; omega), fromAll_len, show posL s + t.post.length - 1 - posL s = t.post.length - 1 by omega]
  exact fromT_last t _
theorem from_more (u : Tr) (s : List Tr) {k : Nat} {x : Nat} (h : (fromAll s)[k]? = some x) : (fromAll (u :: s))[k]? = some x := by
  have := (List.getElem?_eq_some_iff.1 h).1
  rw [fromAll, List.getElem?_append_left this, h]
theorem roots_more (u : Tr) (s : List Tr) {k : Nat} {x : Nat} (h : (rootsAll s)[k]? = some x) : (rootsAll (u :: s))[k]? = some x := by
  have := (List.getElem?_eq_some_iff.1 h).1
  rw [rootsAll, List.getElem?_append_left this, h]
theorem roots_top (t : Tr) (s : List Tr) : (rootsAll (t :: s))[s.length]? = some (posL (t :: s) - 1) := by
  rw [rootsAll, List.getElem?_append_right (by rw [rootsAll_len]; exact Nat.le_refl _), rootsAll_len]; simp

/-- what a node does. -/
structure Joined (x : Nd) (st st' : List Tr) (k : Nat) : Prop where
  join : joinT x st = some st'
  few : k ≤ st.length
  pos : posL st' = posL st + 1
  frm : ∃ b, fromAll st' = fromAll st ++ [b] ∧ (k = 0 → b = posL st) ∧ (0 < k → ∃ r, (rootsAll st)[st.length - k]? = some r ∧ (fromAll st)[r]? = some b)
  roots : rootsAll st' = (rootsAll st).take (st.length - k) ++ [posL st]

theorem arity_of {x : Nd} (h : nodeB x = true) : arityI x.1 = 0 ∨ arityI x.1 = 1 ∨ arityI x.1 = 2 ∨ arityI x.1 = 3 := by
  obtain ⟨o, v⟩ := x
  unfold nodeB at h
  simp only at h
  unfold arityI
  split at h
  · simp_all
  · split at h
    · simp only; split
      · simp
      · split
        · simp
        · split
          · simp
          · split <;> simp <;> omega
    · have := of_decide_eq_true h
      simp only; split
      · simp
      · split
        · simp
        · split
          · simp
          · split <;> simp <;> omega

theorem joined {x : Nd} (h : nodeB x = true) (st : List Tr) {k : Nat} (hk : arityI x.1 = (k : Int)) (hl : k ≤ st.length) : ∃ st', Joined x st st' k := by
  obtain ⟨o, v⟩ := x
  have hk' : arityI o = (k : Int) := hk
  unfold arityI at hk'
  have hj : joinT (o, v) st = _ := joinT.eq_def _ _
  rw [if_pos h] at hj
  simp only at hj
  split at hk'
  · next h12 =>
    obtain rfl : k = 0 := by omega
    rw [if_pos h12] at hj
    exact ⟨_, hj, Nat.zero_le _, by rw [posL_cons]; rfl, ⟨posL st, by simp [fromAll, fromT_lf, fromT_un, fromT_bi, fromT_te], fun _ => rfl, fun h => absurd h (by omega)⟩, by rw [rootsAll, posL_cons, Nat.sub_zero, List.take_of_length_le (by rw [rootsAll_len]; exact Nat.le_refl _)]; simp [Tr.post_lf, Tr.post_un, Tr.post_bi, Tr.post_te]⟩
  · next h12 =>
    split at hk'
    · next h35 =>
      obtain rfl : k = 1 := by omega
      rw [if_neg h12, if_pos (by omega)] at hj
      obtain ⟨a, t, rfl⟩ : ∃ a t, st = a :: t := by
        cases st with
        | nil => simp at hl
        | cons a t => exact ⟨a, t, rfl⟩
      · refine ⟨_, hj, hl, by simp only [posL_cons, Tr.post_lf, Tr.post_un, Tr.post_bi, Tr.post_te, List.length_append, List.length_cons, List.length_nil]; omega, ⟨posL t, by simp [fromAll, fromT_lf, fromT_un, fromT_bi, fromT_te], fun h => absurd h (by omega), fun _ => ⟨_, roots_top a t, from_root a t⟩⟩, ?_⟩
        simp only [rootsAll, posL_cons, List.length_cons, Nat.add_sub_cancel, Tr.post_lf, Tr.post_un, Tr.post_bi, Tr.post_te, List.length_append, List.length_nil]
        rw [List.take_left' (rootsAll_len t)]
        simp
    · next h35 =>
      split at hk'
      · next h6 =>
        obtain rfl : k = 2 := by omega
        rw [if_neg h12, if_neg (by omega), if_pos (by omega)] at hj
        obtain ⟨b, a, t, rfl⟩ : ∃ b a t, st = b :: a :: t := by
          match st, hl with
          | [], h => simp at h
          | [_], h => simp at h
          | b :: a :: t, _ => exact ⟨b, a, t, rfl⟩
        · refine ⟨_, hj, hl, by simp only [posL_cons, Tr.post_lf, Tr.post_un, Tr.post_bi, Tr.post_te, List.length_append, List.length_cons, List.length_nil]; omega, ⟨posL t, by simp [fromAll, fromT_lf, fromT_un, fromT_bi, fromT_te, posL_cons], fun h => absurd h (by omega), fun _ => ⟨_, roots_more b _ (roots_top a t), from_more b _ (from_root a t)⟩⟩, ?_⟩
          simp only [rootsAll, posL_cons, List.length_cons, Tr.post_lf, Tr.post_un, Tr.post_bi, Tr.post_te, List.length_append, List.length_nil, List.append_assoc]
          rw [show t.length + 1 + 1 - 2 = t.length by omega, List.take_left' (rootsAll_len t)]
          simp; omega
      · next h6 =>
        split at hk'
        · next h11 =>
          obtain rfl : k = 3 := by omega
          rw [if_neg h12, if_neg (by omega), if_neg (by omega)] at hj
          obtain ⟨c, b, a, t, rfl⟩ : ∃ c b a t, st = c :: b :: a :: t := by
            match st, hl with
            | [], h => simp at h
            | [_], h => simp at h
            | [_, _], h => simp at h
            | c :: b :: a :: t, _ => exact ⟨c, b, a, t, rfl⟩
          · refine ⟨_, hj, hl, by simp only [posL_cons, Tr.post_lf, Tr.post_un, Tr.post_bi, Tr.post_te, List.length_append, List.length_cons, List.length_nil]; omega, ⟨posL t, by simp [fromAll, fromT_lf, fromT_un, fromT_bi, fromT_te, posL_cons], fun h => absurd h (by omega), fun _ => ⟨_, roots_more c _ (roots_more b _ (roots_top a t)), from_more c _ (from_more b _ (from_root a t))⟩⟩, ?_⟩
            simp only [rootsAll, posL_cons, List.length_cons, Tr.post_lf, Tr.post_un, Tr.post_bi, Tr.post_te, List.length_append, List.length_nil, List.append_assoc]
            rw [show t.length + 1 + 1 + 1 - 3 = t.length by omega, List.take_left' (rootsAll_len t)]
            simp; omega
        · omega
theorem join_few {x : Nd} {st : List Tr} (hk : (st.length : Int) < arityI x.1) : joinT x st = none := by
  obtain ⟨o, v⟩ := x
  have hk' : (st.length : Int) < arityI o := hk
  unfold arityI at hk'
  rw [joinT.eq_def]
  split
  · simp only
    split at hk'
    · omega
    · next h12 =>
      rw [if_neg h12]
      split at hk'
      · next h35 =>
        rw [if_pos (by omega)]
        match st, hk' with
        | [], _ => rfl
        | _ :: _, hk' => simp at hk'; omega
      · next h35 =>
        split at hk'
        · next h6 =>
          rw [if_neg (by omega), if_pos (by omega)]
          match st, hk' with
          | [], _ => rfl
          | [_], _ => rfl
          | _ :: _ :: _, hk' => simp at hk'; omega
        · next h6 =>
          split at hk'
          · next h11 =>
            rw [if_neg (by omega), if_neg (by omega)]
            match st, hk' with
            | [], _ => rfl
            | [_], _ => rfl
            | [_, _], _ => rfl
            | _ :: _ :: _ :: _, hk' => simp at hk'; omega
          · omega
  · rfl
theorem join_node {x : Nd} {st : List Tr} (h : nodeB x = false) : joinT x st = none := by
  rw [joinT.eq_def, if_neg (by rw [h]; decide)]
theorem build_take {f : List Nd} {i : Nat} (hi : i < f.length) (st0 : List Tr) : build f st0 = (build (f.take i) st0).bind fun s => (joinT f[i] s).bind (build (f.drop (i + 1))) := by
  have key : ∀ (a b : List Nd) (s : List Tr), build (a ++ b) s = (build a s).bind (build b) := by
    intro a b
    induction a with
    | nil => intro s; rfl
    | cons y r ih =>
      intro s
      simp only [List.cons_append, build, Option.bind_assoc]
      congr 1
      funext s'
      exact ih s'
  conv => lhs; rw [← List.take_append_drop i f, List.drop_eq_getElem_cons hi]
  rw [key]
  congr 1
end Go.Proofs.YtdkboifpdodonabGreatDoor.Doc
/-
  The document's own starts.
-/
namespace Go.Proofs.YtdkboifpdodonabGreatDoor.Doc
open Go.RowKit Go.Deep PureCnf PureForm
set_option maxRecDepth 100000

theorem info3 : (Tryz.prog.info? 3).map (fun i => (i.zero, i.size, i.bytes)) = some (some (.int .i64 0), 1, 8) := by kernel_rfl
/-- numbers as cells. -/
def cn (l : List Nat) : List Value := List.map (fun n : Nat => Value.int .i64 (n : Int)) l
theorem made_zeros (n : Nat) : madeCells #[Value.int .i64 0] n = (cn (List.replicate n 0)).toArray := by
  apply Array.ext
  · simp [madeCells, cn]
  · intro i h1 h2
    simp [madeCells, cn, Nat.mod_one]

/-- what starts has in hand: the starts so far (then zeros) at fb, the roots behind it. -/
structure Stg (w W : World) (fb n : Nat) (F R : List Nat) (rv : Value) : Prop where
  row : W.heap[fb]? = some (.cells (cn (F ++ List.replicate (n - F.length) 0)).toArray 3 (0, 0))
  own : W.ownsRow (fb + 1) 3 1 rv R.length (cn R)
  below : Below fb w W

theorem cn_set (F : List Nat) (n b : Nat) (h : F.length < n) : (cn (F ++ List.replicate (n - F.length) 0)).toArray.setIfInBounds F.length (.int .i64 (b : Int)) = (cn ((F ++ [b]) ++ List.replicate (n - (F ++ [b]).length) 0)).toArray := by
  obtain ⟨m, hm⟩ : ∃ m, n - F.length = m + 1 := ⟨n - F.length - 1, by omega⟩
  have h2 : n - (F ++ [b]).length = m := by simp; omega
  rw [hm, h2, List.replicate_succ]
  apply Array.ext'
  simp [cn]
theorem cn_again (F Z : List Nat) (a b : Nat) : (cn ((F ++ [a]) ++ Z)).toArray.setIfInBounds F.length (.int .i64 (b : Int)) = (cn ((F ++ [b]) ++ Z)).toArray := by
  apply Array.ext'
  simp [cn]
theorem Stg.on {w W W' : World} {fb n : Nat} {F R : List Nat} {rv : Value} (h : Stg w W fb n F R rv) (hb : Below W.heap.size W W') : Stg w W' fb n F R rv := by
  have hs := (Array.getElem?_eq_some_iff.1 h.row).1
  exact ⟨(hb.block _ hs).trans h.row, ownsRow_below h.own hb, h.below.trans (hb.mono (by omega))⟩
theorem own_low {W : World} {base e size n b i : Nat} {v u : Value} {xs : List Value} (h : W.ownsRow base e size v n xs) (hb : b < base) : (W.setCell ⟨b, i, none⟩ u).ownsRow base e size v n xs := by
  refine ⟨h.1, ?_⟩
  rcases h.2 with hn | ⟨g, cap, cur, hv, hB, hg, rest⟩
  · exact .inl hn
  · exact .inr ⟨g, cap, cur, hv, hB, (Below.heap_setCell W _ _ _ (by simp; omega)).trans hg, rest⟩
/-- a start is written. -/
theorem Stg.put {w W : World} {fb n : Nat} {F R : List Nat} {rv : Value} (h : Stg w W fb n F R rv) (hlt : F.length < n) (b : Nat) : Stg w (W.setCell ⟨fb, F.length, none⟩ (.int .i64 (b : Int))) fb n (F ++ [b]) R rv := by
  refine ⟨?_, own_low h.own (by omega), h.below.setCell (by simp) _⟩
  rw [row_set h.row, cn_set F n b hlt]
theorem Stg.again {w W : World} {fb n : Nat} {F R : List Nat} {rv : Value} {a : Nat} (h : Stg w W fb n (F ++ [a]) R rv) (b : Nat) : Stg w (W.setCell ⟨fb, F.length, none⟩ (.int .i64 (b : Int))) fb n (F ++ [b]) R rv := by
  refine ⟨?_, own_low h.own (by omega), h.below.setCell (by simp) _⟩
  rw [row_set h.row, cn_again]
  simp
/-- some roots go. -/
theorem Stg.cut {w W : World} {fb n m : Nat} {F R : List Nat} {g cap k : Nat} (h : Stg w W fb n F R (.slice (some ⟨g, 0, none⟩) k cap)) (hm : m ≤ R.length) : Stg w W fb n F (R.take m) (.slice (some ⟨g, 0, none⟩) m cap) := by
  refine ⟨h.row, ?_, h.below⟩
  have hlen : (R.take m).length = m := by simp; omega
  rw [hlen]
  rcases h.own.2 with ⟨hn, _⟩ | ⟨g', cap', cur, hv, hB, hg, hk, hc, hs, ht⟩
  · simp at hn
  · simp only [Value.slice.injEq, Option.some.injEq, Addr.mk.injEq, and_true] at hv
    obtain ⟨rfl, rfl, rfl⟩ := hv
    refine ⟨by simp [cn]; omega, .inr ⟨g, cap, cur, rfl, hB, hg, by omega, hc, hs, ?_⟩⟩
    have e := congrArg (List.take m) ht
    rw [List.take_take, Nat.mul_one, Nat.min_eq_left hm] at e
    rw [Nat.mul_one, e]
    simp [cn]
/-- one root more. -/
theorem Stg.root {w W W' : World} {fb n : Nat} {F R : List Nat} {rv rv' : Value} {x : Nat} (h : Stg w W fb n F R rv) (ho : W'.ownsRow (fb + 1) 3 1 rv' (R.length + 1) (cn R ++ [.int .i64 (x : Int)])) (hg : W.grownBy W' rv.ownBlock) : Stg w W' fb n F (R ++ [x]) rv' := by
  have hs := (Array.getElem?_eq_some_iff.1 h.row).1
  refine ⟨?_, ?_, h.below.grown hg (by omega) (fun j hj => by have := (h.own.lt j hj).1; omega)⟩
  · refine (hg.block fb hs ?_).trans h.row
    intro e
    have := (h.own.lt fb e.symm).1
    omega
  · rw [List.length_append]
    have e : cn (R ++ [x]) = cn R ++ [.int .i64 (x : Int)] := by simp [cn]
    rw [e]
    exact ho
theorem app_root {ops : Array Oper} {rest : List Oper} {o : Oper} {a : Act} {Q : Exit → Act → World → Prop} {w W : World} {fb n : Nat} {F R : List Nat} {rv : Value} (hgd : o.guard = none) (sl y : Operand)
    (ho : o.op = .call { callee := .builtin .append, args := #[sl, y], argTypes := #[36, 36] }) (h : Stg w W fb n F R rv) (x ad : Nat) (had : ad = W.heap.size) (hs : a.eval sl = rv) (hx : a.eval y = .slice (some ⟨ad, 0, none⟩) 1 1) (hl : R.length ≤ 1048576)
    (hK : ∀ sx cx w', Stg w w' fb n F (R ++ [x]) (.slice sx (R.length + 1) cx) → wpList Tryz.prog ops Q rest (a.put o.dst (.slice sx (R.length + 1) cx)) w') : wpList Tryz.prog ops Q (o :: rest) a (W.alloc (.cells #[.int .i64 (x : Int)] 3)) := by
  subst had
  have hfb := (Array.getElem?_eq_some_iff.1 h.row).1
  have h2 := h.on ((Below.refl _ _).alloc (Nat.le_refl _) (Obj.cells #[.int .i64 (x : Int)] 3))
  refine app_one hgd sl y 36 3 _ 1 8 ho Tryz.underlying36 info3 rfl (by decide) (by decide) (fb + 1) R.length rv (cn R) [.int .i64 (x : Int)] ⟨W.heap.size, 0, none⟩ hs h2.own hx rfl (fun j u hu => by rw [add_zero_addr, cell_row (heap_alloc_new W _)]; simpa using hu) (fun u hu => by simp at hu; subst hu; rfl) (by omega) (by simp; omega) ?_
  intro v4 w4 o4 g4
  obtain ⟨sx, cx, rfl⟩ := own_shape o4
  exact hK sx cx w4 (h2.root o4 g4)
theorem Stg.cell {w W : World} {fb n : Nat} {F R : List Nat} {rv : Value} (h : Stg w W fb n F R rv) {k b : Nat} (hk : F[k]? = some b) : W.cell? ⟨fb, k, none⟩ = some (.int .i64 (b : Int)) := by
  have := (List.getElem?_eq_some_iff.1 hk).1
  rw [cell_row h.row]
  simp only [cn, List.getElem?_toArray, List.map_append]
  rw [List.getElem?_append_left (by simpa using this), List.getElem?_map, hk]
  rfl
theorem Stg.zero {w W : World} {fb n : Nat} {F R : List Nat} {rv : Value} (h : Stg w W fb n F R rv) (hlt : F.length < n) : W.cell? ⟨fb, F.length, none⟩ = some (.int .i64 0) := by
  rw [cell_row h.row]
  simp only [cn, List.getElem?_toArray, List.map_append]
  rw [List.getElem?_append_right (by simp)]
  simp only [List.length_map, Nat.sub_self, List.getElem?_map, List.getElem?_replicate]
  rw [if_pos (by omega)]
  rfl
theorem build_snoc {f : List Nd} {i : Nat} (hi : i < f.length) : build (f.take (i + 1)) [] = (build (f.take i) []).bind (joinT f[i]) := by
  have h2 : i < (f.take (i + 1)).length := by simp; omega
  rw [build_take h2 []]
  rw [List.take_take, Nat.min_eq_left (by omega)]
  congr 1
  funext s
  rw [List.getElem_take, List.drop_of_length_le (by simp; omega)]
  cases joinT f[i] s <;> rfl
theorem Joined.len {x : Nd} {st st' : List Tr} {k : Nat} (J : Joined x st st' k) : st'.length ≤ st.length + 1 := by
  have h := congrArg List.length J.roots
  rw [rootsAll_len, List.length_append, List.length_take, rootsAll_len] at h
  simp at h
  omega
theorem Stg.rootAt {w W : World} {fb n : Nat} {F R : List Nat} {rv : Value} (h : Stg w W fb n F R rv) (hR : 0 < R.length) : ∃ g cap, rv = .slice (some ⟨g, 0, none⟩) R.length cap ∧ R.length ≤ cap ∧ g < W.heap.size ∧ fb < g ∧ ∀ {k r : Nat}, R[k]? = some r → W.cell? ⟨g, k, none⟩ = some (.int .i64 (r : Int)) := by
  rcases h.own.2 with ⟨_, h0⟩ | ⟨g, cap, cur, hv, hB, hg, hk, hc, hs, ht⟩
  · omega
  · refine ⟨g, cap, hv, hk, (Array.getElem?_eq_some_iff.1 hg).1, by omega, fun {k r} e => ?_⟩
    have hlt := (List.getElem?_eq_some_iff.1 e).1
    rw [cell_row hg]
    have h1 : cur.toList[k]? = (cn R)[k]? := by rw [← ht, List.getElem?_take_of_lt (by omega)]
    simp [cn, e] at h1
    exact h1

/-- what starts answers. -/
def Started (f : List Nd) (w : World) (e : Ending) (w' : World) : Prop := match treeOf f with
  | some t => e = .returned (.tuple #[.slice (some ⟨w.heap.size, 0, none⟩) f.length f.length, .bool true]) ∧ w'.heap[w.heap.size]? = some (.cells (cn (fromT t 0)).toArray 3 (0, 0))
  | none => ∃ v, e = .returned (.tuple #[v, .bool false])
theorem Started.no {f : List Nd} {w w' : World} {e : Ending} {v : Value} (h : treeOf f = none) (he : e = .returned (.tuple #[v, .bool false])) : Started f w e w' := by
  unfold Started; rw [h]; exact ⟨v, he⟩
theorem below_back {w W : World} {B b o : Nat} {x : Value} (hb : Below B w W) (hlt : b < B) (h : W.cell? ⟨b, o, none⟩ = some x) : w.cell? ⟨b, o, none⟩ = some x := (hb.cell (p := ⟨b, o, none⟩) hlt).symm.trans h
theorem tree_none {f : List Nd} (h : build f [] = none) : treeOf f = none := by unfold treeOf; rw [h]
theorem tree_many {f : List Nd} {st : List Tr} (h : build f [] = some st) (hl : st.length ≠ 1) : treeOf f = none := by
  unfold treeOf
  rw [h]
  match st, hl with
  | [], _ => rfl
  | [_], h => exact absurd rfl h
  | _ :: _ :: _, _ => rfl

set_option maxHeartbeats 2000000 in
set_option maxRecDepth 100000 in
theorem starts_small (f : List Nd) (sa : Option Addr) (ca : Nat) (w : World) (hf : NodesAt w sa f) (h0 : 1 ≤ f.length) (hl : f.length ≤ 65536) :
    Calls Tryz.prog 45 #[.slice sa f.length ca] w fun e w' => Started f w e w' ∧ Below w.heap.size w w' := by
  have HF := hid hf
  have g1 : ¬ (f.length : Int) < 1 := by omega
  have g2 : ¬ 65536 < (f.length : Int) := by omega
  have hmk : ∀ W : World, (Instr.makeSlice 36 (.int .i64 (f.length : Int)) (.int .i64 (f.length : Int))).run Tryz.prog W = .ok (.slice (some ⟨W.heap.size, 0, none⟩) f.length f.length) (W.alloc (.cells (cn (List.replicate f.length 0)).toArray 3)) := fun W => by
    have := run_make_row' (P := Tryz.prog) 36 3 (.int .i64 0) 8 Tryz.underlying36 info3 rfl .i64 .i64 f.length (by omega) (by omega) W
    rwa [made_zeros] at this
  have HST0 : Hid (Stg w (w.alloc (.cells (cn (List.replicate f.length 0)).toArray 3)) w.heap.size f.length (fromAll []) (rootsAll []) (.slice none 0 0)) := ⟨by rw [heap_alloc_new]; simp [fromAll], World.ownsRow_nil _ _ _ _, (Below.refl _ _).alloc (Nat.le_refl _) _⟩
  clear hf
  go_enter Tryz.func45, Tryz.ntmps45
  go_wp2
  go_loopw [5, 6] (fun rv iv W => ∃ (i : Nat) (st : List Tr), i ≤ f.length ∧ iv = .int .i64 (i : Int) ∧ st.length ≤ i ∧ posL st = i ∧ Hid (build (f.take i) [] = some st ∧ Stg w W w.heap.size f.length (fromAll st) (rootsAll st) rv)) (fun _ iv _ => f.length - (intOf iv).toNat)
  case atStart => exact ⟨0, [], Nat.zero_le _, rfl, Nat.le_refl _, rfl, rfl, HST0.out⟩
  case round =>
    clear HST0 hmk
    obtain ⟨i, st, hi, rfl, hsl, hpos, HB⟩ := hrel
    obtain ⟨hbuild, hstg⟩ := HB.out
    have HBD := hid hbuild
    have HSG := hid hstg
    have HPOS := hid hpos
    have HFL : Hid ((fromAll st).length = i) := by show _ = _; rw [fromAll_len]; exact hpos
    have HRL := hid (rootsAll_len st)
    obtain ⟨sr, cr, hrv⟩ := own_shape hstg.own
    rw [rootsAll_len] at hrv
    subst hrv
    clear HB hbuild hstg hpos
    by_cases hlt : i < f.length
    · obtain ⟨g, o, rfl, hg, a0, a1⟩ := HF.out.at_ i hlt
      have p0 := below_cell HSG.out.below hg a0
      have p1 := below_cell HSG.out.below hg a1
      have HND := hid (fun W => node_any f[i] W)
      have HAR := hid (fun W => arity_any f[i].1 W)
      have hbt := build_take hlt []
      rw [HBD.out] at hbt
      simp only [Option.bind_some] at hbt
      have HBT := hid hbt
      obtain ⟨x, hx⟩ : ∃ x, x = f[i] := ⟨_, rfl⟩
      rw [← hx] at HND HAR p0 p1 HBT
      have HX := hid hx
      clear a0 a1 hbt hx
      cases hnb : nodeB x with
      | false =>
        have HT : Hid (treeOf f = none) := tree_none (by rw [HBT.out, join_node hnb]; rfl)
        rw [hnb] at HND
        clear hnb
        go_wp2_with (first
          | (have q := HSG1; clear q; go_at_call 66; refine (HAR.out _).mono ?_; rintro e w9 ⟨rfl, hw9⟩; rw [hw9]; clear hw9 w9)
          | (go_at_call 65; refine (HND.out _).mono ?_; rintro e w1 ⟨rfl, b1⟩; have HSG1 := hid (HSG.out.on b1); have q0 := below_cell HSG1.out.below hg (below_back HSG.out.below hg p0); have z0 := HSG1.out.zero (by rw [HFL.out]; exact hlt); rw [HFL.out] at z0; have zf := fun j => unfrozen_row HSG1.out.row j; have zb := (Array.getElem?_eq_some_iff.1 HSG1.out.row).1; clear b1))
        exact bodyPost_ret (v := .tuple #[.slice none 0 0, .bool false]) (by simp [results, Tryz.results45, go_sem]) rfl ⟨Started.no HT.out rfl, HSG1.out.below⟩
      | true =>
        rw [hnb] at HND
        rcases arity_of hnb with hk | hk | hk | hk
        · rw [hk] at HAR
          obtain ⟨st', J⟩ := joined hnb st (k := 0) hk (Nat.zero_le _)
          obtain ⟨b, hb1, hb2, _⟩ := J.frm
          have hb3 := hb2 rfl
          rw [HPOS.out] at hb3
          rw [hb3] at hb1
          clear hb3
          have HB1 := hid hb1
          have HRT := hid J.roots
          have HJ : Hid (build (f.take (i + 1)) [] = some st') := by
            show _ = _
            rw [build_snoc hlt, HBD.out, ← HX.out]
            exact J.join
          have hp' := J.pos
          rw [HPOS.out] at hp'
          have hsl' := J.len
          clear hnb hk hb1 hb2 J
          go_wp2_with (first
            | (at_builtin; have s1 := HSG1.out.put (by rw [HFL.out]; exact hlt) i; rw [HFL.out] at s1; refine app_root rfl _ _ rfl s1 i w1.heap.size (by simp [World.setCell]) rfl rfl (by rw [HRL.out]; omega) ?_; intro sx cx w4 m4; rw [HRL.out] at m4 ⊢; have M4 := hid m4; clear m4 s1)
            | (have q := HSG1; clear q; go_at_call 66; refine (HAR.out _).mono ?_; rintro e w9 ⟨rfl, hw9⟩; rw [hw9]; clear hw9 w9)
            | (go_at_call 65; refine (HND.out _).mono ?_; rintro e w1 ⟨rfl, b1⟩; have HSG1 := hid (HSG.out.on b1); have q0 := below_cell HSG1.out.below hg (below_back HSG.out.below hg p0); have z0 := HSG1.out.zero (by rw [HFL.out]; exact hlt); rw [HFL.out] at z0; have zf := fun j => unfrozen_row HSG1.out.row j; have zb := (Array.getElem?_eq_some_iff.1 HSG1.out.row).1; clear b1))
          have M5 : Hid (Stg w w4 w.heap.size f.length (fromAll st') (rootsAll st') (.slice sx (st.length + 1) cx)) := by
            have e : rootsAll st' = rootsAll st ++ [i] := by
              rw [HRT.out, Nat.sub_zero, List.take_of_length_le (by rw [HRL.out]; exact Nat.le_refl _), HPOS.out]
            show Stg _ _ _ _ _ _ _
            rw [HB1.out, e]
            exact M4.out
          exact ⟨⟨i + 1, st', hlt, by go_num, by omega, hp', HJ.out, M5.out⟩, by simp [intOf]; omega⟩
        · rw [hk] at HAR
          by_cases hfew : st.length < 1
          · have HT : Hid (treeOf f = none) := tree_none (by rw [HBT.out, join_few (by rw [hk]; omega)]; rfl)
            have hfI : (st.length : Int) < 1 := by omega
            clear hnb hk hfew
            go_wp2_with (first
              | (have q := HSG1; clear q; go_at_call 66; refine (HAR.out _).mono ?_; rintro e w9 ⟨rfl, hw9⟩; rw [hw9]; clear hw9 w9)
              | (go_at_call 65; refine (HND.out _).mono ?_; rintro e w1 ⟨rfl, b1⟩; have HSG1 := hid (HSG.out.on b1); have q0 := below_cell HSG1.out.below hg (below_back HSG.out.below hg p0); have z0 := HSG1.out.zero (by rw [HFL.out]; exact hlt); rw [HFL.out] at z0; have zf := fun j => unfrozen_row HSG1.out.row j; have zb := (Array.getElem?_eq_some_iff.1 HSG1.out.row).1; clear b1))
            exact bodyPost_ret (v := .tuple #[.slice none 0 0, .bool false]) (by simp [results, Tryz.results45, go_sem]) rfl ⟨Started.no HT.out rfl, HSG1.out.below⟩
          · obtain ⟨st', J⟩ := joined hnb st (k := 1) hk (by omega)
            obtain ⟨b, hb1, _, hb2⟩ := J.frm
            obtain ⟨rr, hr1, hr2⟩ := hb2 (by decide)
            obtain ⟨m, hm⟩ : ∃ m, st.length = m + 1 := ⟨st.length - 1, by omega⟩
            rw [show st.length - 1 = m by omega] at hr1
            have hrlt := (List.getElem?_eq_some_iff.1 hr2).1
            rw [HFL.out] at hrlt
            have HB1 := hid hb1
            have HR1 := hid hr1
            have HR2 := hid hr2
            have HRT := hid J.roots
            have HJ : Hid (build (f.take (i + 1)) [] = some st') := by
              show _ = _
              rw [build_snoc hlt, HBD.out, ← HX.out]
              exact J.join
            have hp' := J.pos
            rw [HPOS.out] at hp'
            have hsl' := J.len
            obtain ⟨gr, cp, hrv, hcp, hgr, hfg, _⟩ := HSG.out.rootAt (by rw [HRL.out]; omega)
            rw [HRL.out] at hrv hcp
            simp only [Value.slice.injEq, true_and] at hrv
            obtain ⟨rfl, rfl⟩ := hrv
            have HRAT : Hid (∀ {W : World} {k r : Nat}, Stg w W w.heap.size f.length (fromAll st) (rootsAll st) (.slice (some ⟨gr, 0, none⟩) st.length cr) → (rootsAll st)[k]? = some r → W.cell? ⟨gr, k, none⟩ = some (.int .i64 (r : Int))) := fun {W k r} h e => by
              obtain ⟨g', c', hv, _, _, _, hc⟩ := h.rootAt (by rw [HRL.out]; omega)
              simp only [Value.slice.injEq, Option.some.injEq, Addr.mk.injEq, and_true] at hv
              rw [hv.1]
              exact hc e
            rw [hm] at HSG HRAT hcp hsl' hsl ⊢
            have HM := hid hm
            have hne1 : gr ≠ w.heap.size := by omega
            have hne2 : rr ≠ i := by omega
            have hgI : ¬ ((m : Int) + 1 < 1) := by omega
            clear hnb hk hb1 hb2 J hr1 hr2 hm hfew
            go_wp2_with (first
              | (at_builtin; have s1 := HSG1.out.put (by rw [HFL.out]; exact hlt) i; have s2 := (s1.again b).cut (m := m) (by rw [HRL.out, HM.out]; omega); rw [HFL.out] at s2; refine app_root rfl _ _ rfl s2 i w1.heap.size (by simp [World.setCell]) rfl rfl (by rw [List.length_take]; omega) ?_; intro sx cx w4 m4; rw [show ((rootsAll st).take m).length = m by rw [List.length_take, HRL.out, HM.out]; omega] at m4 ⊢; have M4 := hid m4; clear m4 s1 s2)
              | (have q := HSG1; clear q; go_at_call 66; refine (HAR.out _).mono ?_; rintro e w9 ⟨rfl, hw9⟩; rw [hw9]; clear hw9 w9)
              | (go_at_call 65; refine (HND.out _).mono ?_; rintro e w1 ⟨rfl, b1⟩; have HSG1 := hid (HSG.out.on b1); have q0 := below_cell HSG1.out.below hg (below_back HSG.out.below hg p0); have z0 := HSG1.out.zero (by rw [HFL.out]; exact hlt); rw [HFL.out] at z0; have zf := fun j => unfrozen_row HSG1.out.row j; have zb := (Array.getElem?_eq_some_iff.1 HSG1.out.row).1; have d0 := HRAT.out HSG1.out HR1.out; have d1 := HSG1.out.cell HR2.out; clear b1))
            have M5 : Hid (Stg w w4 w.heap.size f.length (fromAll st') (rootsAll st') (.slice sx (m + 1) cx)) := by
              have e : rootsAll st' = (rootsAll st).take m ++ [i] := by
                rw [HRT.out, HPOS.out, HM.out, Nat.add_sub_cancel]
              show Stg _ _ _ _ _ _ _
              rw [HB1.out, e]
              exact M4.out
            exact ⟨⟨i + 1, st', hlt, by go_num, by omega, hp', HJ.out, M5.out⟩, by simp [intOf]; omega⟩
        · rw [hk] at HAR
          by_cases hfew : st.length < 2
          · have HT : Hid (treeOf f = none) := tree_none (by rw [HBT.out, join_few (by rw [hk]; omega)]; rfl)
            have hfI : (st.length : Int) < 2 := by omega
            clear hnb hk hfew
            go_wp2_with (first
              | (have q := HSG1; clear q; go_at_call 66; refine (HAR.out _).mono ?_; rintro e w9 ⟨rfl, hw9⟩; rw [hw9]; clear hw9 w9)
              | (go_at_call 65; refine (HND.out _).mono ?_; rintro e w1 ⟨rfl, b1⟩; have HSG1 := hid (HSG.out.on b1); have q0 := below_cell HSG1.out.below hg (below_back HSG.out.below hg p0); have z0 := HSG1.out.zero (by rw [HFL.out]; exact hlt); rw [HFL.out] at z0; have zf := fun j => unfrozen_row HSG1.out.row j; have zb := (Array.getElem?_eq_some_iff.1 HSG1.out.row).1; clear b1))
            exact bodyPost_ret (v := .tuple #[.slice none 0 0, .bool false]) (by simp [results, Tryz.results45, go_sem]) rfl ⟨Started.no HT.out rfl, HSG1.out.below⟩
          · obtain ⟨st', J⟩ := joined hnb st (k := 2) hk (by omega)
            obtain ⟨b, hb1, _, hb2⟩ := J.frm
            obtain ⟨rr, hr1, hr2⟩ := hb2 (by decide)
            obtain ⟨m, hm⟩ : ∃ m, st.length = m + 2 := ⟨st.length - 2, by omega⟩
            rw [show st.length - 2 = m by omega] at hr1
            have hrlt := (List.getElem?_eq_some_iff.1 hr2).1
            rw [HFL.out] at hrlt
            have HB1 := hid hb1
            have HR1 := hid hr1
            have HR2 := hid hr2
            have HRT := hid J.roots
            have HJ : Hid (build (f.take (i + 1)) [] = some st') := by
              show _ = _
              rw [build_snoc hlt, HBD.out, ← HX.out]
              exact J.join
            have hp' := J.pos
            rw [HPOS.out] at hp'
            have hsl' := J.len
            obtain ⟨gr, cp, hrv, hcp, hgr, hfg, _⟩ := HSG.out.rootAt (by rw [HRL.out]; omega)
            rw [HRL.out] at hrv hcp
            simp only [Value.slice.injEq, true_and] at hrv
            obtain ⟨rfl, rfl⟩ := hrv
            have HRAT : Hid (∀ {W : World} {k r : Nat}, Stg w W w.heap.size f.length (fromAll st) (rootsAll st) (.slice (some ⟨gr, 0, none⟩) st.length cr) → (rootsAll st)[k]? = some r → W.cell? ⟨gr, k, none⟩ = some (.int .i64 (r : Int))) := fun {W k r} h e => by
              obtain ⟨g', c', hv, _, _, _, hc⟩ := h.rootAt (by rw [HRL.out]; omega)
              simp only [Value.slice.injEq, Option.some.injEq, Addr.mk.injEq, and_true] at hv
              rw [hv.1]
              exact hc e
            rw [hm] at HSG HRAT hcp hsl' hsl ⊢
            have HM := hid hm
            have hne1 : gr ≠ w.heap.size := by omega
            have hne2 : rr ≠ i := by omega
            have hgI : ¬ ((m : Int) + 2 < 2) := by omega
            clear hnb hk hb1 hb2 J hr1 hr2 hm hfew
            go_wp2_with (first
              | (at_builtin; have s1 := HSG1.out.put (by rw [HFL.out]; exact hlt) i; have s2 := (s1.again b).cut (m := m) (by rw [HRL.out, HM.out]; omega); rw [HFL.out] at s2; refine app_root rfl _ _ rfl s2 i w1.heap.size (by simp [World.setCell]) rfl rfl (by rw [List.length_take]; omega) ?_; intro sx cx w4 m4; rw [show ((rootsAll st).take m).length = m by rw [List.length_take, HRL.out, HM.out]; omega] at m4 ⊢; have M4 := hid m4; clear m4 s1 s2)
              | (have q := HSG1; clear q; go_at_call 66; refine (HAR.out _).mono ?_; rintro e w9 ⟨rfl, hw9⟩; rw [hw9]; clear hw9 w9)
              | (go_at_call 65; refine (HND.out _).mono ?_; rintro e w1 ⟨rfl, b1⟩; have HSG1 := hid (HSG.out.on b1); have q0 := below_cell HSG1.out.below hg (below_back HSG.out.below hg p0); have z0 := HSG1.out.zero (by rw [HFL.out]; exact hlt); rw [HFL.out] at z0; have zf := fun j => unfrozen_row HSG1.out.row j; have zb := (Array.getElem?_eq_some_iff.1 HSG1.out.row).1; have d0 := HRAT.out HSG1.out HR1.out; have d1 := HSG1.out.cell HR2.out; clear b1))
            have M5 : Hid (Stg w w4 w.heap.size f.length (fromAll st') (rootsAll st') (.slice sx (m + 1) cx)) := by
              have e : rootsAll st' = (rootsAll st).take m ++ [i] := by
                rw [HRT.out, HPOS.out, HM.out, Nat.add_sub_cancel]
              show Stg _ _ _ _ _ _ _
              rw [HB1.out, e]
              exact M4.out
            exact ⟨⟨i + 1, st', hlt, by go_num, by omega, hp', HJ.out, M5.out⟩, by simp [intOf]; omega⟩
        · rw [hk] at HAR
          by_cases hfew : st.length < 3
          · have HT : Hid (treeOf f = none) := tree_none (by rw [HBT.out, join_few (by rw [hk]; omega)]; rfl)
            have hfI : (st.length : Int) < 3 := by omega
            clear hnb hk hfew
            go_wp2_with (first
              | (have q := HSG1; clear q; go_at_call 66; refine (HAR.out _).mono ?_; rintro e w9 ⟨rfl, hw9⟩; rw [hw9]; clear hw9 w9)
              | (go_at_call 65; refine (HND.out _).mono ?_; rintro e w1 ⟨rfl, b1⟩; have HSG1 := hid (HSG.out.on b1); have q0 := below_cell HSG1.out.below hg (below_back HSG.out.below hg p0); have z0 := HSG1.out.zero (by rw [HFL.out]; exact hlt); rw [HFL.out] at z0; have zf := fun j => unfrozen_row HSG1.out.row j; have zb := (Array.getElem?_eq_some_iff.1 HSG1.out.row).1; clear b1))
            exact bodyPost_ret (v := .tuple #[.slice none 0 0, .bool false]) (by simp [results, Tryz.results45, go_sem]) rfl ⟨Started.no HT.out rfl, HSG1.out.below⟩
          · obtain ⟨st', J⟩ := joined hnb st (k := 3) hk (by omega)
            obtain ⟨b, hb1, _, hb2⟩ := J.frm
            obtain ⟨rr, hr1, hr2⟩ := hb2 (by decide)
            obtain ⟨m, hm⟩ : ∃ m, st.length = m + 3 := ⟨st.length - 3, by omega⟩
            rw [show st.length - 3 = m by omega] at hr1
            have hrlt := (List.getElem?_eq_some_iff.1 hr2).1
            rw [HFL.out] at hrlt
            have HB1 := hid hb1
            have HR1 := hid hr1
            have HR2 := hid hr2
            have HRT := hid J.roots
            have HJ : Hid (build (f.take (i + 1)) [] = some st') := by
              show _ = _
              rw [build_snoc hlt, HBD.out, ← HX.out]
              exact J.join
            have hp' := J.pos
            rw [HPOS.out] at hp'
            have hsl' := J.len
            obtain ⟨gr, cp, hrv, hcp, hgr, hfg, _⟩ := HSG.out.rootAt (by rw [HRL.out]; omega)
            rw [HRL.out] at hrv hcp
            simp only [Value.slice.injEq, true_and] at hrv
            obtain ⟨rfl, rfl⟩ := hrv
            have HRAT : Hid (∀ {W : World} {k r : Nat}, Stg w W w.heap.size f.length (fromAll st) (rootsAll st) (.slice (some ⟨gr, 0, none⟩) st.length cr) → (rootsAll st)[k]? = some r → W.cell? ⟨gr, k, none⟩ = some (.int .i64 (r : Int))) := fun {W k r} h e => by
              obtain ⟨g', c', hv, _, _, _, hc⟩ := h.rootAt (by rw [HRL.out]; omega)
              simp only [Value.slice.injEq, Option.some.injEq, Addr.mk.injEq, and_true] at hv
              rw [hv.1]
              exact hc e
            rw [hm] at HSG HRAT hcp hsl' hsl ⊢
            have HM := hid hm
            have hne1 : gr ≠ w.heap.size := by omega
            have hne2 : rr ≠ i := by omega
            have hgI : ¬ ((m : Int) + 3 < 3) := by omega
            clear hnb hk hb1 hb2 J hr1 hr2 hm hfew
            go_wp2_with (first
              | (at_builtin; have s1 := HSG1.out.put (by rw [HFL.out]; exact hlt) i; have s2 := (s1.again b).cut (m := m) (by rw [HRL.out, HM.out]; omega); rw [HFL.out] at s2; refine app_root rfl _ _ rfl s2 i w1.heap.size (by simp [World.setCell]) rfl rfl (by rw [List.length_take]; omega) ?_; intro sx cx w4 m4; rw [show ((rootsAll st).take m).length = m by rw [List.length_take, HRL.out, HM.out]; omega] at m4 ⊢; have M4 := hid m4; clear m4 s1 s2)
              | (have q := HSG1; clear q; go_at_call 66; refine (HAR.out _).mono ?_; rintro e w9 ⟨rfl, hw9⟩; rw [hw9]; clear hw9 w9)
              | (go_at_call 65; refine (HND.out _).mono ?_; rintro e w1 ⟨rfl, b1⟩; have HSG1 := hid (HSG.out.on b1); have q0 := below_cell HSG1.out.below hg (below_back HSG.out.below hg p0); have z0 := HSG1.out.zero (by rw [HFL.out]; exact hlt); rw [HFL.out] at z0; have zf := fun j => unfrozen_row HSG1.out.row j; have zb := (Array.getElem?_eq_some_iff.1 HSG1.out.row).1; have d0 := HRAT.out HSG1.out HR1.out; have d1 := HSG1.out.cell HR2.out; clear b1))
            have M5 : Hid (Stg w w4 w.heap.size f.length (fromAll st') (rootsAll st') (.slice sx (m + 1) cx)) := by
              have e : rootsAll st' = (rootsAll st).take m ++ [i] := by
                rw [HRT.out, HPOS.out, HM.out, Nat.add_sub_cancel]
              show Stg _ _ _ _ _ _ _
              rw [HB1.out, e]
              exact M4.out
            exact ⟨⟨i + 1, st', hlt, by go_num, by omega, hp', HJ.out, M5.out⟩, by simp [intOf]; omega⟩
    · have hin : i = f.length := by omega
      have hb := HBD.out
      rw [hin, List.take_length] at hb
      have hbel := HSG.out.below
      by_cases h1 : st.length = 1
      · have h1b : ((st.length : Int) == 1) = true := by rw [beq_iff_eq]; omega
        obtain ⟨t, rfl⟩ : ∃ t, st = [t] := by
          match st, h1 with
          | [t], _ => exact ⟨t, rfl⟩
        have HT : Hid (treeOf f = some t) := by show _ = _; unfold treeOf; rw [hb]
        have hrow := HSG.out.row
        rw [show fromAll [t] = fromT t 0 by simp [fromAll, posL_nil], fromT_len, show t.post.length = f.length by
          have := HPOS.out
          rw [posL_cons, posL_nil] at this
          omega, Nat.sub_self, List.replicate_zero, List.append_nil] at hrow
        have HROW := hid hrow
        have HBL := hid hbel
        clear hb hbel hrow h1
        go_wp2
        refine bodyPost_ret (v := .tuple #[.slice (some ⟨w.heap.size, 0, none⟩) f.length f.length, .bool true]) (by simp [results, Tryz.results45, go_sem]) rfl ⟨?_, HBL.out⟩
        unfold Started
        rw [HT.out]
        exact ⟨rfl, HROW.out⟩
      · have h1b : ((st.length : Int) == 1) = false := by rw [beq_eq_false_iff_ne]; omega
        have HT := hid (tree_many hb h1)
        have HBL := hid hbel
        clear hb hbel h1
        go_wp2
        exact bodyPost_ret (v := .tuple #[.slice (some ⟨w.heap.size, 0, none⟩) f.length f.length, .bool false]) (by simp [results, Tryz.results45, go_sem]) rfl ⟨Started.no HT.out rfl, HBL.out⟩

set_option maxHeartbeats 1000000 in
set_option maxRecDepth 100000 in
theorem starts_odd (f : List Nd) (sa : Option Addr) (ca : Nat) (w : World) (hl : f.length ≤ 9223372036854775807) (h : f.length = 0 ∨ 65536 < f.length) :
    Calls Tryz.prog 45 #[.slice sa f.length ca] w fun e w' => (∃ v, e = .returned (.tuple #[v, .bool false])) ∧ Below w.heap.size w w' := by
  by_cases h1 : (f.length : Int) < 1
  · go_enter Tryz.func45, Tryz.ntmps45
    go_wp2
    exact bodyPost_ret (v := .tuple #[.slice none 0 0, .bool false]) (by simp [results, Tryz.results45, go_sem]) rfl ⟨⟨_, rfl⟩, Below.refl _ _⟩
  · have h2 : 65536 < (f.length : Int) := by omega
    go_enter Tryz.func45, Tryz.ntmps45
    go_wp2
    exact bodyPost_ret (v := .tuple #[.slice none 0 0, .bool false]) (by simp [results, Tryz.results45, go_sem]) rfl ⟨⟨_, rfl⟩, Below.refl _ _⟩
end Go.Proofs.YtdkboifpdodonabGreatDoor.Doc
