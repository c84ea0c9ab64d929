import Derived.Test.YtdkboifpdodonaaDoorZ04
set_option linter.unusedSimpArgs false
/-
  The document's own decimal, two, first, second, sign.
-/
namespace Go.Proofs.YtdkboifpdodonaaDoor.Doc
open Go.RowKit Go.Deep PureCnf PureForm
set_option maxRecDepth 100000

theorem dec_small {n : Nat} (h : n < 10) : Lib.decDigits n = [UInt8.ofNat (48 + n)] := by rw [Lib.decDigits, dif_pos h]
theorem dec_big {n : Nat} (h : ¬ n < 10) : Lib.decDigits n = Lib.decDigits (n / 10) ++ [UInt8.ofNat (48 + n % 10)] := by rw [Lib.decDigits, dif_neg h]
theorem dec_len_le (n : Nat) (h : n ≤ 9223372036854775807) : (Lib.decDigits n).length ≤ 21 := by
  have := Lib.itoa_length_le (n : Int) (by omega) (by omega)
  rwa [Lib.itoa_nonneg] at this

set_option maxHeartbeats 400000 in
set_option maxRecDepth 100000 in
theorem decimal_small (n : Nat) (hn : n < 10) (w : World) :
    Calls Tryd.prog 28 #[.int .i64 n] w fun e w' => e = .returned (str (Lib.decDigits n)) ∧ Below w.heap.size w w' := by
  have hc : (convert 50 9 (.slice (some ⟨w.heap.size, 0, none⟩) 1 1)).run Tryd.prog (w.alloc (.cells #[.int .u8 (48 + (n : Int))] 5)) = .ok (str [UInt8.ofNat (48 + n)]) (w.alloc (.cells #[.int .u8 (48 + (n : Int))] 5)) := by
    refine run_convert_bytes_back (P := Tryd.prog) _ 50 9 5 ⟨w.heap.size, 0, none⟩ 1 [UInt8.ofNat (48 + n)] Tryd.underlying50 Tryd.underlying5 Tryd.underlying9 (fun j hj => ?_)
    have h0 : j = 0 := by simpa using hj
    subst h0
    simp [Addr.add]
    omega
  rw [← dec_small hn] at hc
  go_enter Tryd.func28, Tryd.ntmps28
  go_wp2
  go_ret
  exact ⟨rfl, (Below.refl _ _).alloc (Nat.le_refl _) _⟩

set_option maxHeartbeats 400000 in
set_option maxRecDepth 100000 in
theorem decimal_any (n : Nat) : ∀ (w : World), n ≤ 9223372036854775807 →
    Calls Tryd.prog 28 #[.int .i64 n] w fun e w' => e = .returned (str (Lib.decDigits n)) ∧ Below w.heap.size w w' := by
  induction n using Nat.strongRecOn with
  | _ n ih =>
    intro w hn
    by_cases h : n < 10
    · exact decimal_small n h w
    · have h10 : ¬ (n : Int) < 10 := by omega
      have H1 : Hid (∀ w : World, Calls Tryd.prog 28 #[.int .i64 ((n : Int) / 10)] w fun e w' => e = .returned (str (Lib.decDigits (n / 10))) ∧ Below w.heap.size w w') := fun w => by
        have := ih (n / 10) (by omega) w (by omega)
        rwa [show ((n / 10 : Nat) : Int) = (n : Int) / 10 by omega] at this
      have H2 : Hid (∀ w : World, Calls Tryd.prog 28 #[.int .i64 ((n : Int) % 10)] w fun e w' => e = .returned (str (Lib.decDigits (n % 10))) ∧ Below w.heap.size w w') := fun w => by
        have := ih (n % 10) (by omega) w (by omega)
        rwa [show ((n % 10 : Nat) : Int) = (n : Int) % 10 by omega] at this
      have HD : Hid (Lib.decDigits (n / 10) ++ Lib.decDigits (n % 10) = Lib.decDigits n) := by rw [dec_big h, dec_small (Nat.mod_lt _ (by omega))]; exact rfl
      have hl1 := dec_len_le (n / 10) (by omega)
      have hl2 := dec_len_le (n % 10) (by omega)
      clear ih h
      go_enter Tryd.func28, Tryd.ntmps28
      go_wp2_with (fail)
      with_reducible refine (H1.out _).mono ?_
      rintro e w1 ⟨rfl, hb⟩
      have HB1 := hid hb
      clear hb
      go_wp2_with (fail)
      with_reducible refine (H2.out _).mono ?_
      rintro e w2 ⟨rfl, hb⟩
      have HB2 := hid hb
      clear hb
      go_wp2
      go_ret
      rw [← HD.out]
      exact ⟨congrArg (fun x => Ending.returned (Value.string x)) (str_add _ _), HB1.out.trans (HB2.out.mono HB1.out.size)⟩


set_option maxHeartbeats 1000000 in
theorem two_any (o : Int) (w : World) : Calls Tryd.prog 114 #[.int .i64 o] w fun e w' => e = .returned (.bool (two o)) ∧ w' = w := by
  by_cases h6 : 6 ≤ o
  · by_cases h10 : o ≤ 10
    · have HB : Hid (two o = true) := by show _ = _; simp [two, h6, h10]
      go_enter Tryd.func114, Tryd.ntmps114
      go_wp2
      go_ret
      rw [HB.out]
      exact ⟨rfl, rfl⟩
    · have HB : Hid (two o = false) := by show _ = _; simp [two]; omega
      go_enter Tryd.func114, Tryd.ntmps114
      go_wp2
      go_ret
      rw [HB.out]
      exact ⟨rfl, rfl⟩
  · have HB : Hid (two o = false) := by show _ = _; simp [two]; omega
    go_enter Tryd.func114, Tryd.ntmps114
    go_wp2
    go_ret
    rw [HB.out]
    exact ⟨rfl, rfl⟩

set_option maxHeartbeats 1000000 in
theorem sign_any (o : Int) (ho : two o = true) (w : World) : Calls Tryd.prog 116 #[.int .i64 o] w fun e w' => e = .returned (str (signI o).1) ∧ w' = w := by
  rcases two_cases ho with rfl | rfl | rfl | rfl | rfl
  all_goals
    go_enter Tryd.func116, Tryd.ntmps116
    go_wp2
    go_ret
    exact ⟨rfl, rfl⟩


set_option maxHeartbeats 1000000 in
theorem first_any (op r : Int) (ho : two op = true) (w : World) : Calls Tryd.prog 115 #[.int .i64 op, .int .i64 r] w fun e w' => e = .returned (.bool (firstB op r)) ∧ w' = w := by
  have HT := hid (two_any r w)
  cases hr : two r with
  | false =>
    have HB : Hid (firstB op r = false) := by show _ = _; simp [firstB, hr]
    rw [hr] at HT
    clear hr ho
    go_enter Tryd.func115, Tryd.ntmps115
    go_wp2_with (go_at_call 114; refine HT.out.mono ?_; rintro e w' ⟨rfl, rfl⟩)
    go_ret
    rw [HB.out]
    exact ⟨rfl, rfl⟩
  | true =>
    rw [hr] at HT
    have A6 : Hid (∀ W, Calls Tryd.prog 68 #[.int .i64 6] W fun e w' => e = .returned (.int .i64 5) ∧ w' = W) := hid (fun W => binds_any 6 (by omega) W)
    have A7 : Hid (∀ W, Calls Tryd.prog 68 #[.int .i64 7] W fun e w' => e = .returned (.int .i64 3) ∧ w' = W) := hid (fun W => binds_any 7 (by omega) W)
    have A8 : Hid (∀ W, Calls Tryd.prog 68 #[.int .i64 8] W fun e w' => e = .returned (.int .i64 4) ∧ w' = W) := hid (fun W => binds_any 8 (by omega) W)
    have A9 : Hid (∀ W, Calls Tryd.prog 68 #[.int .i64 9] W fun e w' => e = .returned (.int .i64 2) ∧ w' = W) := hid (fun W => binds_any 9 (by omega) W)
    have A10 : Hid (∀ W, Calls Tryd.prog 68 #[.int .i64 10] W fun e w' => e = .returned (.int .i64 1) ∧ w' = W) := hid (fun W => binds_any 10 (by omega) W)
    rcases two_cases ho with rfl | rfl | rfl | rfl | rfl <;> rcases two_cases hr with rfl | rfl | rfl | rfl | rfl
    all_goals
      clear ho hr
      go_enter Tryd.func115, Tryd.ntmps115
      go_wp2_with (first
        | (go_at_call 114; refine HT.out.mono ?_; rintro e w' ⟨rfl, rfl⟩)
        | (go_at_call 68; (first | (with_reducible refine (A6.out _).mono ?_) | (with_reducible refine (A7.out _).mono ?_) | (with_reducible refine (A8.out _).mono ?_) | (with_reducible refine (A9.out _).mono ?_) | (with_reducible refine (A10.out _).mono ?_)); rintro e w' ⟨rfl, rfl⟩))
      go_ret
      exact ⟨rfl, rfl⟩

set_option maxHeartbeats 1000000 in
theorem second_any (op r : Int) (ho : two op = true) (w : World) : Calls Tryd.prog 117 #[.int .i64 op, .int .i64 r] w fun e w' => e = .returned (.bool (secondB op r)) ∧ w' = w := by
  have HT := hid (two_any r w)
  cases hr : two r with
  | false =>
    have HB : Hid (secondB op r = false) := by show _ = _; simp [secondB, hr]
    rw [hr] at HT
    clear hr ho
    go_enter Tryd.func117, Tryd.ntmps117
    go_wp2_with (go_at_call 114; refine HT.out.mono ?_; rintro e w' ⟨rfl, rfl⟩)
    go_ret
    rw [HB.out]
    exact ⟨rfl, rfl⟩
  | true =>
    rw [hr] at HT
    have A6 : Hid (∀ W, Calls Tryd.prog 68 #[.int .i64 6] W fun e w' => e = .returned (.int .i64 5) ∧ w' = W) := hid (fun W => binds_any 6 (by omega) W)
    have A7 : Hid (∀ W, Calls Tryd.prog 68 #[.int .i64 7] W fun e w' => e = .returned (.int .i64 3) ∧ w' = W) := hid (fun W => binds_any 7 (by omega) W)
    have A8 : Hid (∀ W, Calls Tryd.prog 68 #[.int .i64 8] W fun e w' => e = .returned (.int .i64 4) ∧ w' = W) := hid (fun W => binds_any 8 (by omega) W)
    have A9 : Hid (∀ W, Calls Tryd.prog 68 #[.int .i64 9] W fun e w' => e = .returned (.int .i64 2) ∧ w' = W) := hid (fun W => binds_any 9 (by omega) W)
    have A10 : Hid (∀ W, Calls Tryd.prog 68 #[.int .i64 10] W fun e w' => e = .returned (.int .i64 1) ∧ w' = W) := hid (fun W => binds_any 10 (by omega) W)
    rcases two_cases ho with rfl | rfl | rfl | rfl | rfl <;> rcases two_cases hr with rfl | rfl | rfl | rfl | rfl
    all_goals
      clear ho hr
      go_enter Tryd.func117, Tryd.ntmps117
      go_wp2_with (first
        | (go_at_call 114; refine HT.out.mono ?_; rintro e w' ⟨rfl, rfl⟩)
        | (go_at_call 68; (first | (with_reducible refine (A6.out _).mono ?_) | (with_reducible refine (A7.out _).mono ?_) | (with_reducible refine (A8.out _).mono ?_) | (with_reducible refine (A9.out _).mono ?_) | (with_reducible refine (A10.out _).mono ?_)); rintro e w' ⟨rfl, rfl⟩))
      go_ret
      exact ⟨rfl, rfl⟩
end Go.Proofs.YtdkboifpdodonaaDoor.Doc
/-
  The document's page: a text in the making, what is open now and at most.
-/
namespace Go.Proofs.YtdkboifpdodonaaDoor.Doc
open Go.RowKit Go.Deep PureCnf PureForm
set_option maxRecDepth 100000

theorem info5 : (Tryd.prog.info? 5).map (fun i => (i.zero, i.size, i.bytes)) = some (some (.int .u8 0), 1, 1) := by kernel_rfl
/-- bytes as cells. -/
def cb (l : List UInt8) : List Value := l.map fun b => Value.int .u8 b.toNat
theorem cb_append (l m : List UInt8) : cb (l ++ m) = cb l ++ cb m := by simp [cb]


/-- what is no text and not the page stays. -/
def Kept (b : Nat) (wk W : World) : Prop := ∀ (k : Nat) (cs : Array Value) (t : Nat) (fz : Nat × Nat), wk.heap[k]? = some (.cells cs t fz) → t ≠ 5 → k ≠ b → W.heap[k]? = some (.cells cs t fz)
theorem Kept.refl (b : Nat) (w : World) : Kept b w w := fun _ _ _ _ h _ _ => h
theorem Kept.trans {b : Nat} {w1 w2 w3 : World} (h1 : Kept b w1 w2) (h2 : Kept b w2 w3) : Kept b w1 w3 := fun k cs t fz h ht hk => h2 k cs t fz (h1 k cs t fz h ht hk) ht hk
theorem Kept.set {b i : Nat} {wk W : World} (h : Kept b wk W) (u : Value) : Kept b wk (W.setCell ⟨b, i, none⟩ u) := fun k cs t fz e ht hk => (Below.heap_setCell W _ _ _ (by simpa using hk)).trans (h k cs t fz e ht hk)

structure Pg (wk w0 W : World) (B b : Nat) (fv gv bv : Value) (T : List UInt8) (deep most : Nat) : Prop where
  row : W.heap[b]? = some (.cells #[fv, gv, bv, .int .i64 (deep : Int), .int .i64 (most : Int)] 65 (0, 0))
  own : W.ownsRowF B 5 1 bv T.length (cb T)
  hB : B ≤ b
  below : Below B w0 W
  kept : Kept b wk W

section
variable {wk w0 W W' : World} {B b : Nat} {fv gv bv : Value} {T : List UInt8} {deep most : Nat}
theorem Pg.size (h : Pg wk w0 W B b fv gv bv T deep most) : b < W.heap.size := (Array.getElem?_eq_some_iff.1 h.row).1
theorem ownsRowF_store {i t : Nat} {u : Value} {n : Nat} {xs : List Value} {cs : Array Value} {fz : Nat × Nat} (h : W.ownsRowF B 5 1 bv n xs) (hr : W.heap[b]? = some (.cells cs t fz)) (hte : t ≠ 5) : (W.setCell ⟨b, i, none⟩ u).ownsRowF B 5 1 bv n xs := by
  have hne := Lib.ownBlock_neF h hr hte
  refine ⟨h.1, ?_⟩
  rcases h.2 with hn | ⟨g, cap, cur, fz, hv, hB, hg, rest⟩
  · exact .inl hn
  · refine .inr ⟨g, cap, cur, fz, hv, hB, (Below.heap_setCell W _ _ _ ?_).trans hg, rest⟩
    intro e
    exact hne (by rw [hv]; simp [Value.ownBlock]; exact e)
theorem Pg.setDeep (h : Pg wk w0 W B b fv gv bv T deep most) (d : Nat) : Pg wk w0 (W.setCell ⟨b, 3, none⟩ (.int .i64 (d : Int))) B b fv gv bv T d most :=
  ⟨by have := row_set (i := 3) (u := .int .i64 (d : Int)) h.row; simpa using this, ownsRowF_store h.own h.row (by decide), h.hB, h.below.setCell h.hB _, h.kept.set _⟩
theorem Pg.setMost (h : Pg wk w0 W B b fv gv bv T deep most) (d : Nat) : Pg wk w0 (W.setCell ⟨b, 4, none⟩ (.int .i64 (d : Int))) B b fv gv bv T deep d :=
  ⟨by have := row_set (i := 4) (u := .int .i64 (d : Int)) h.row; simpa using this, ownsRowF_store h.own h.row (by decide), h.hB, h.below.setCell h.hB _, h.kept.set _⟩
theorem Pg.drewN (h : Pg wk w0 W B b fv gv bv T deep most) (n : Nat) : Pg wk w0 (W.drewN n) B b fv gv bv T deep most := ⟨h.row, h.own, h.hB, below_drewN h.below n, h.kept⟩
theorem Pg.grow (h : Pg wk w0 W B b fv gv bv T deep most) {bv' : Value} {D : List UInt8} (ho : W'.ownsRowF B 5 1 bv' (T ++ D).length (cb (T ++ D))) (hg : W.grownBy W' bv.ownBlock) :
    W'.heap[b]? = some (.cells #[fv, gv, bv, .int .i64 (deep : Int), .int .i64 (most : Int)] 65 (0, 0)) ∧ Pg wk w0 (W'.setCell ⟨b, 2, none⟩ bv') B b fv gv bv' (T ++ D) deep most := by
  have hne := Lib.ownBlock_neF h.own h.row (by decide)
  have hrow : W'.heap[b]? = some (.cells #[fv, gv, bv, .int .i64 (deep : Int), .int .i64 (most : Int)] 65 (0, 0)) := (hg.block b h.size (Ne.symm hne)).trans h.row
  refine ⟨hrow, ⟨by have := row_set (i := 2) (u := bv') hrow; simpa using this, ownsRowF_store ho hrow (by decide), h.hB, ?_, ?_⟩⟩
  · exact (h.below.grown hg (by have := h.size; have := h.hB; omega) (fun j hj => (h.own.lt j hj).1)).setCell h.hB _
  · refine Kept.set (fun k cs t fz e ht hk => ?_) _
    have e2 := h.kept k cs t fz e ht hk
    exact (hg.block k (Array.getElem?_eq_some_iff.1 e2).1 (Ne.symm (Lib.ownBlock_neF h.own e2 ht))).trans e2

set_option maxHeartbeats 1000000 in
set_option maxRecDepth 100000 in
theorem popens_any (h : Pg wk w0 W B b fv gv bv T deep most) (hd : deep ≤ 1048576) :
    Calls Tryd.prog 88 #[.pointer (some ⟨b, 0, none⟩)] W fun e W' => e = .returned (.tuple #[]) ∧ Pg wk w0 W' B b fv gv bv T (deep + 1) (max most (deep + 1)) := by
  have c0 := fun j => cell_row h.row j
  have f0 := fun j => unfrozen_row h.row j
  have hb := h.size
  have h1 := h.setDeep (deep + 1)
  by_cases hlt : (most : Int) < (deep : Int) + 1
  · have H1 := hid h1
    have e : max most (deep + 1) = deep + 1 := by omega
    rw [e]
    clear h h1 e
    go_enter Tryd.func88, Tryd.ntmps88
    go_wp2
    go_quiet (fail)
    have M2 := hid (H1.out.drewN nq)
    rw [show ((deep + 1 : Nat) : Int) = (deep : Int) + 1 by omega] at M2
    clear c0 f0
    generalize (W.setCell ⟨b, 3, none⟩ (.int .i64 ((deep : Int) + 1))).drewN nq = w2 at *
    have c2 := fun j => cell_row M2.out.row j
    have f2 := fun j => unfrozen_row M2.out.row j
    have hb2 := M2.out.size
    go_wp2
    go_end0
    exact ⟨rfl, M2.out.setMost (deep + 1)⟩
  · have H1 := hid h1
    have e : max most (deep + 1) = most := by omega
    rw [e]
    clear h h1 e
    go_enter Tryd.func88, Tryd.ntmps88
    go_wp2
    go_quiet (fail)
    have M2 := hid (H1.out.drewN nq)
    go_wp2
    go_end0
    exact ⟨rfl, M2.out⟩

theorem own_shapeF {n : Nat} {v : Value} {xs : List Value} {e : Nat} (h : W.ownsRowF B e 1 v n xs) : ∃ sa c, v = .slice sa n c := by
  rcases h.2 with ⟨hv, h0⟩ | ⟨g, cap, cur, fz, hv, _⟩
  · exact ⟨none, 0, by rw [hv, h0]⟩
  · exact ⟨_, _, hv⟩

theorem app_put {ops : Array Oper} {rest : List Oper} {o : Oper} {a : Act} {Q : Exit → Act → World → Prop} (hgd : o.guard = none) (sl x : Operand)
    (ho : o.op = .call { callee := .builtin .append, args := #[sl, x], argTypes := #[50, 9] }) (h : Pg wk w0 W B b fv gv bv T deep most) (D : List UInt8) (hs : a.eval sl = bv) (hx : a.eval x = str D) (hl : T.length + D.length ≤ 140737488355328)
    (hK : ∀ sx cx w', w'.heap[b]? = some (.cells #[fv, gv, bv, .int .i64 (deep : Int), .int .i64 (most : Int)] 65 (0, 0)) → Pg wk w0 (w'.setCell ⟨b, 2, none⟩ (.slice sx (T.length + D.length) cx)) B b fv gv (.slice sx (T.length + D.length) cx) (T ++ D) deep most → wpList Tryd.prog ops Q rest (a.put o.dst (.slice sx (T.length + D.length) cx)) w') : wpList Tryd.prog ops Q (o :: rest) a W := by
  obtain ⟨i, hi, hz0, hz1, hz2⟩ := info_parts info5
  have hob : Lib.OwnBuf B 5 bv T.length (cb T) w0 W := ⟨h.own, h.below, by have := h.size; have := h.hB; omega⟩
  refine Lib.wpList_append_own_stringF W hgd sl x 50 9 ho B 5 i Tryd.underlying50 Tryd.underlying9 hi hz0 hz1 hz2 bv T.length (cb T) hs hob.1 ⟨D.toArray⟩ hx (by unfold maxLen; show T.length + D.length ≤ _; omega) hl hob.2.2 ?_
  intro v1 w1 o1 g1 _
  have o2 : w1.ownsRowF B 5 1 v1 (T ++ D).length (cb (T ++ D)) := by
    rw [cb_append, List.length_append]
    exact o1
  obtain ⟨sx, cx, rfl⟩ := own_shapeF o2
  rw [List.length_append] at o2 ⊢
  obtain ⟨r1, m1⟩ := h.grow (D := D) (by rw [List.length_append]; exact o2) g1
  exact hK sx cx w1 r1 m1

set_option maxHeartbeats 1000000 in
set_option maxRecDepth 100000 in
theorem put_any (h : Pg wk w0 W B b fv gv bv T deep most) (D : List UInt8) (hl : T.length + D.length ≤ 140737488355328) :
    Calls Tryd.prog 89 #[.pointer (some ⟨b, 0, none⟩), str D] W fun e W' => e = .returned (.tuple #[]) ∧ ∃ bv', Pg wk w0 W' B b fv gv bv' (T ++ D) deep most := by
  have c0 := fun j => cell_row h.row j
  have f0 := fun j => unfrozen_row h.row j
  have hb := h.size
  have H := hid h
  clear h
  go_enter Tryd.func89, Tryd.ntmps89
  go_wp2_with (at_builtin; refine app_put rfl _ _ rfl H.out D rfl rfl hl ?_; intro sx cx w1 r1 m1; have c1 := fun j => cell_row r1 j; have f1 := fun j => unfrozen_row r1 j; have hb1 := (Array.getElem?_eq_some_iff.1 r1).1; have M1 := hid m1; clear r1 m1)
  go_end0
  exact ⟨rfl, _, M1.out⟩
end
end Go.Proofs.YtdkboifpdodonaaDoor.Doc
/-
  The document's own arity, node.
-/
namespace Go.Proofs.YtdkboifpdodonaaDoor.Doc
open Go.RowKit Go.Deep PureCnf PureForm
set_option maxRecDepth 100000

/-- how many operands; -1: no operator. -/
def arityI (o : Int) : Int := if o = 1 ∨ o = 2 then 0 else if 3 ≤ o ∧ o ≤ 5 then 1 else if 6 ≤ o ∧ o ≤ 10 then 2 else if o = 11 then 3 else -1

set_option maxHeartbeats 1000000 in
set_option maxRecDepth 100000 in
theorem arity_any (o : Int) (w : World) : Calls Tryd.prog 86 #[.int .i64 o] w fun e w' => e = .returned (.int .i64 (arityI o)) ∧ w' = w := by
  by_cases h1 : o = 1
  · subst h1
    go_enter Tryd.func86, Tryd.ntmps86
    go_wp2
    go_ret
    exact ⟨rfl, rfl⟩
  · by_cases h2 : o = 2
    · subst h2
      go_enter Tryd.func86, Tryd.ntmps86
      go_wp2
      go_ret
      exact ⟨rfl, rfl⟩
    · have b1 : (o == 1) = false := by rw [beq_eq_false_iff_ne]; exact h1
      have b2 : (o == 2) = false := by rw [beq_eq_false_iff_ne]; exact h2
      by_cases h3 : 3 ≤ o ∧ o ≤ 5
      · have HA : Hid (arityI o = 1) := by show _ = _; unfold arityI; rw [if_neg (by omega), if_pos h3]
        obtain ⟨h3, h5⟩ := h3
        clear h1 h2
        go_enter Tryd.func86, Tryd.ntmps86
        go_wp2
        go_ret
        rw [HA.out]
        exact ⟨rfl, rfl⟩
      · by_cases h6 : 6 ≤ o ∧ o ≤ 10
        · have HA : Hid (arityI o = 2) := by show _ = _; unfold arityI; rw [if_neg (by omega), if_neg h3, if_pos h6]
          obtain ⟨h6, h10⟩ := h6
          have h3a : 3 ≤ o := by omega
          have h3b : ¬ o ≤ 5 := by omega
          clear h1 h2 h3
          go_enter Tryd.func86, Tryd.ntmps86
          go_wp2
          go_ret
          rw [HA.out]
          exact ⟨rfl, rfl⟩
        · by_cases h11 : o = 11
          · subst h11
            go_enter Tryd.func86, Tryd.ntmps86
            go_wp2
            go_ret
            exact ⟨rfl, rfl⟩
          · have HA : Hid (arityI o = -1) := by show _ = _; unfold arityI; rw [if_neg (by omega), if_neg h3, if_neg h6, if_neg h11]
            have b11 : (o == 11) = false := by rw [beq_eq_false_iff_ne]; exact h11
            by_cases h0 : 3 ≤ o
            · have g1 : ¬ o ≤ 5 := by omega
              have g2 : 6 ≤ o := by omega
              have g3 : ¬ o ≤ 10 := by omega
              clear h1 h2 h3 h6 h11
              go_enter Tryd.func86, Tryd.ntmps86
              go_wp2
              go_ret
              rw [HA.out]
              exact ⟨rfl, rfl⟩
            · have g2 : ¬ 6 ≤ o := by omega
              clear h1 h2 h3 h6 h11
              go_enter Tryd.func86, Tryd.ntmps86
              go_wp2
              go_ret
              rw [HA.out]
              exact ⟨rfl, rfl⟩

set_option maxHeartbeats 1000000 in
set_option maxRecDepth 100000 in
/-- node: may a node have these numbers? -/
theorem node_any (x : Nd) (w : World) : Calls Tryd.prog 85 #[.agg #[.int .i64 x.1, .int .i64 x.2]] w fun e w' => e = .returned (.bool (nodeB x)) ∧ Below w.heap.size w w' := by
  obtain ⟨o, n⟩ := x
  simp only
  by_cases h1 : o = 1
  · subst h1
    by_cases n0 : n = 0
    · subst n0
      have HB : Hid (nodeB (1, 0) = true) := by show _ = _; decide
      go_enter Tryd.func85, Tryd.ntmps85
      go_wp2
      go_ret
      rw [HB.out]
      exact ⟨rfl, (Below.refl _ _).alloc (Nat.le_refl _) _⟩
    · have c0 : (n == 0) = false := by rw [beq_eq_false_iff_ne]; exact n0
      by_cases n1 : n = 1
      · subst n1
        have HB : Hid (nodeB (1, 1) = true) := by show _ = _; decide
        clear n0 c0
        go_enter Tryd.func85, Tryd.ntmps85
        go_wp2
        go_ret
        rw [HB.out]
        exact ⟨rfl, (Below.refl _ _).alloc (Nat.le_refl _) _⟩
      · have c1 : (n == 1) = false := by rw [beq_eq_false_iff_ne]; exact n1
        have HB : Hid (nodeB (1, n) = false) := by show _ = _; simp [nodeB, n0, n1]
        clear n0 n1
        go_enter Tryd.func85, Tryd.ntmps85
        go_wp2
        go_ret
        rw [HB.out]
        exact ⟨rfl, (Below.refl _ _).alloc (Nat.le_refl _) _⟩
  · have b1 : (o == 1) = false := by rw [beq_eq_false_iff_ne]; exact h1
    by_cases h2 : o = 2 ∨ o = 4 ∨ o = 5
    · by_cases hn : 0 ≤ n
      · by_cases hm : n < 65536
        · have HB : Hid (nodeB (o, n) = true) := by show _ = _; simp [nodeB, h1, h2, hn, hm]
          clear h1
          rcases h2 with rfl | rfl | rfl
          all_goals
            go_enter Tryd.func85, Tryd.ntmps85
            go_wp2
            go_ret
            rw [HB.out]
            exact ⟨rfl, (Below.refl _ _).alloc (Nat.le_refl _) _⟩
        · have HB : Hid (nodeB (o, n) = false) := by show _ = _; simp [nodeB, h1, h2]; omega
          clear h1
          rcases h2 with rfl | rfl | rfl
          all_goals
            go_enter Tryd.func85, Tryd.ntmps85
            go_wp2
            go_ret
            rw [HB.out]
            exact ⟨rfl, (Below.refl _ _).alloc (Nat.le_refl _) _⟩
      · have HB : Hid (nodeB (o, n) = false) := by show _ = _; simp [nodeB, h1, h2]; omega
        clear h1
        rcases h2 with rfl | rfl | rfl
        all_goals
          go_enter Tryd.func85, Tryd.ntmps85
          go_wp2
          go_ret
          rw [HB.out]
          exact ⟨rfl, (Below.refl _ _).alloc (Nat.le_refl _) _⟩
    · have b2 : (o == 2) = false := by rw [beq_eq_false_iff_ne]; omega
      have b4 : (o == 4) = false := by rw [beq_eq_false_iff_ne]; omega
      have b5 : (o == 5) = false := by rw [beq_eq_false_iff_ne]; omega
      have HA := hid (fun W => arity_any o W)
      by_cases ha : o = 3 ∨ (6 ≤ o ∧ o ≤ 11)
      · have har : 0 < arityI o ∧ arityI o ≤ 3 := by
          unfold arityI
          split
          · omega
          · split
            · omega
            · split
              · omega
              · split <;> omega
        obtain ⟨a, hae⟩ : ∃ a, a = arityI o := ⟨_, rfl⟩
        rw [← hae] at har HA
        obtain ⟨a1, a2⟩ := har
        by_cases n0 : n = 0
        · subst n0
          have HB : Hid (nodeB (o, 0) = true) := by show _ = _; simp [nodeB, h1, h2, ha]
          clear h1 h2 ha hae
          go_enter Tryd.func85, Tryd.ntmps85
          go_wp2_with (go_at_call 86; refine (HA.out _).mono ?_; rintro e w' ⟨rfl, rfl⟩)
          go_ret
          rw [HB.out]
          exact ⟨rfl, (Below.refl _ _).alloc (Nat.le_refl _) _⟩
        · have c0 : (n == 0) = false := by rw [beq_eq_false_iff_ne]; exact n0
          have HB : Hid (nodeB (o, n) = false) := by show _ = _; simp [nodeB, h1, h2, n0]
          clear h1 h2 ha hae n0
          go_enter Tryd.func85, Tryd.ntmps85
          go_wp2_with (go_at_call 86; refine (HA.out _).mono ?_; rintro e w' ⟨rfl, rfl⟩)
          go_ret
          rw [HB.out]
          exact ⟨rfl, (Below.refl _ _).alloc (Nat.le_refl _) _⟩
      · have har : arityI o = -1 := by
          unfold arityI
          rw [if_neg (by omega), if_neg (by omega), if_neg (by omega), if_neg (by omega)]
        rw [har] at HA
        have HB : Hid (nodeB (o, n) = false) := by show _ = _; simp [nodeB, h1, h2]; intro h; omega
        clear h1 h2 ha har
        go_enter Tryd.func85, Tryd.ntmps85
        go_wp2_with (go_at_call 86; refine (HA.out _).mono ?_; rintro e w' ⟨rfl, rfl⟩)
        go_ret
        rw [HB.out]
        exact ⟨rfl, (Below.refl _ _).alloc (Nat.le_refl _) _⟩
end Go.Proofs.YtdkboifpdodonaaDoor.Doc
/-
  Where the trees of a list begin, and their roots: plain mathematics.
-/
namespace Go.Proofs.YtdkboifpdodonaaDoor.Doc
open PureCnf PureForm
set_option maxRecDepth 100000

/-- of each node of a tree that begins at b where its own begins. -/
def fromT : Tr → Nat → List Nat := Tr.fold (fun _ b => [b]) (fun _ _ i b => i b ++ [b]) (fun _ a _ i j b => i b ++ j (b + a.post.length) ++ [b]) (fun _ a c _ i j k b => i b ++ j (b + a.post.length) ++ k (b + a.post.length + c.post.length) ++ [b])
theorem fromT_lf (x : Nd) (b : Nat) : fromT (.lf x) b = [b] := rfl
theorem fromT_un (x : Nd) (a : Tr) (b : Nat) : fromT (.un x a) b = fromT a b ++ [b] := rfl
theorem fromT_bi (x : Nd) (a c : Tr) (b : Nat) : fromT (.bi x a c) b = fromT a b ++ fromT c (b + a.post.length) ++ [b] := rfl
theorem fromT_te (x : Nd) (a c d : Tr) (b : Nat) : fromT (.te x a c d) b = fromT a b ++ fromT c (b + a.post.length) ++ fromT d (b + a.post.length + c.post.length) ++ [b] := rfl
theorem fromT_len (t : Tr) : ∀ b, (fromT t b).length = t.post.length := by
  induction t using Tr.ind with
  | lf x => intro b; rfl
  | un x a ih => intro b; simp [fromT_lf, fromT_un, fromT_bi, fromT_te, Tr.post_lf, Tr.post_un, Tr.post_bi, Tr.post_te, ih]
  | bi x a c iha ihc => intro b; simp [fromT_lf, fromT_un, fromT_bi, fromT_te, Tr.post_lf, Tr.post_un, Tr.post_bi, Tr.post_te, iha, ihc]
  | te x a c d iha ihc ihd => intro b; simp [fromT_lf, fromT_un, fromT_bi, fromT_te, Tr.post_lf, Tr.post_un, Tr.post_bi, Tr.post_te, iha, ihc, ihd]
theorem fromT_last (t : Tr) (b : Nat) : (fromT t b)[t.post.length - 1]? = some b := by
  have key : ∀ (l : List Nat) (n : Nat), n = l.length + 1 → (l ++ [b])[n - 1]? = some b := by
    intro l n h; subst h; simp
  cases t using Tr.cas with
  | lf x => rfl
  | un x a => rw [fromT_un]; exact key (fromT a b) _ (by rw [Tr.post_un, List.length_append, fromT_len]; rfl)
  | bi x a c => rw [fromT_bi]; exact key (fromT a b ++ fromT c (b + a.post.length)) _ (by rw [Tr.post_bi, List.length_append, List.length_append, List.length_append, fromT_len, fromT_len]; rfl)
  | te x a c d => rw [fromT_te]; exact key (fromT a b ++ fromT c (b + a.post.length) ++ fromT d (b + a.post.length + c.post.length)) _ (by rw [Tr.post_te, List.length_append, List.length_append, List.length_append, List.length_append, List.length_append, fromT_len, fromT_len, fromT_len]; rfl)

def posL (st : List Tr) : Nat := (postAll st).length
theorem posL_cons (t : Tr) (st : List Tr) : posL (t :: st) = posL st + t.post.length := by simp [posL, postAll_cons]
theorem posL_nil : posL [] = 0 := rfl
def fromAll : List Tr → List Nat
  | [] => []
  | t :: st => fromAll st ++ fromT t (posL st)
def rootsAll : List Tr → List Nat
  | [] => []
  | t :: st => rootsAll st ++ [posL (t :: st) - 1]
theorem fromAll_len (st : List Tr) : (fromAll st).length = posL st := by
  induction st with
  | nil => rfl
  | cons t s ih => rw [fromAll, List.length_append, ih, fromT_len, posL_cons]
theorem rootsAll_len (st : List Tr) : (rootsAll st).length = st.length := by
  induction st with
  | nil => rfl
  | cons t s ih => simp [rootsAll, ih]
theorem from_root (t : Tr) (s : List Tr) : (fromAll (t :: s))[posL (t :: s) - 1]? = some (posL s) := by
  have hp := post_pos t
  rw [fromAll, posL_cons, List.getElem?_append_right (by rw [fromAll_len]; omega), fromAll_len, show posL s + t.post.length - 1 - posL s = t.post.length - 1 by omega]
  exact fromT_last t _
theorem from_more (u : Tr) (s : List Tr) {k : Nat} {x : Nat} (h : (fromAll s)[k]? = some x) : (fromAll (u :: s))[k]? = some x := by
  have := (List.getElem?_eq_some_iff.1 h).1
  rw [fromAll, List.getElem?_append_left this, h]
theorem roots_more (u : Tr) (s : List Tr) {k : Nat} {x : Nat} (h : (rootsAll s)[k]? = some x) : (rootsAll (u :: s))[k]? = some x := by
  have := (List.getElem?_eq_some_iff.1 h).1
  rw [rootsAll, List.getElem?_append_left this, h]
theorem roots_top (t : Tr) (s : List Tr) : (rootsAll (t :: s))[s.length]? = some (posL (t :: s) - 1) := by
  rw [rootsAll, List.getElem?_append_right (by rw [rootsAll_len]; exact Nat.le_refl _), rootsAll_len]; simp

/-- what a node does. -/
structure Joined (x : Nd) (st st' : List Tr) (k : Nat) : Prop where
  join : joinT x st = some st'
  few : k ≤ st.length
  pos : posL st' = posL st + 1
  frm : ∃ b, fromAll st' = fromAll st ++ [b] ∧ (k = 0 → b = posL st) ∧ (0 < k → ∃ r, (rootsAll st)[st.length - k]? = some r ∧ (fromAll st)[r]? = some b)
  roots : rootsAll st' = (rootsAll st).take (st.length - k) ++ [posL st]

theorem arity_of {x : Nd} (h : nodeB x = true) : arityI x.1 = 0 ∨ arityI x.1 = 1 ∨ arityI x.1 = 2 ∨ arityI x.1 = 3 := by
  obtain ⟨o, v⟩ := x
  unfold nodeB at h
  simp only at h
  unfold arityI
  split at h
  · simp_all
  · split at h
    · simp only; split
      · simp
      · split
        · simp
        · split
          · simp
          · split <;> simp <;> omega
    · have := of_decide_eq_true h
      simp only; split
      · simp
      · split
        · simp
        · split
          · simp
          · split <;> simp <;> omega

theorem joined {x : Nd} (h : nodeB x = true) (st : List Tr) {k : Nat} (hk : arityI x.1 = (k : Int)) (hl : k ≤ st.length) : ∃ st', Joined x st st' k := by
  obtain ⟨o, v⟩ := x
  have hk' : arityI o = (k : Int) := hk
  unfold arityI at hk'
  have hj : joinT (o, v) st = _ := joinT.eq_def _ _
  rw [if_pos h] at hj
  simp only at hj
  split at hk'
  · next h12 =>
    obtain rfl : k = 0 := by omega
    rw [if_pos h12] at hj
    exact ⟨_, hj, Nat.zero_le _, by rw [posL_cons]; rfl, ⟨posL st, by simp [fromAll, fromT_lf, fromT_un, fromT_bi, fromT_te], fun _ => rfl, fun h => absurd h (by omega)⟩, by rw [rootsAll, posL_cons, Nat.sub_zero, List.take_of_length_le (by rw [rootsAll_len]; exact Nat.le_refl _)]; simp [Tr.post_lf, Tr.post_un, Tr.post_bi, Tr.post_te]⟩
  · next h12 =>
    split at hk'
    · next h35 =>
      obtain rfl : k = 1 := by omega
      rw [if_neg h12, if_pos (by omega)] at hj
      obtain ⟨a, t, rfl⟩ : ∃ a t, st = a :: t := by
        cases st with
        | nil => simp at hl
        | cons a t => exact ⟨a, t, rfl⟩
      · refine ⟨_, hj, hl, by simp only [posL_cons, Tr.post_lf, Tr.post_un, Tr.post_bi, Tr.post_te, List.length_append, List.length_cons, List.length_nil]; omega, ⟨posL t, by simp [fromAll, fromT_lf, fromT_un, fromT_bi, fromT_te], fun h => absurd h (by omega), fun _ => ⟨_, roots_top a t, from_root a t⟩⟩, ?_⟩
        simp only [rootsAll, posL_cons, List.length_cons, Nat.add_sub_cancel, Tr.post_lf, Tr.post_un, Tr.post_bi, Tr.post_te, List.length_append, List.length_nil]
        rw [List.take_left' (rootsAll_len t)]
        simp
    · next h35 =>
      split at hk'
      · next h6 =>
        obtain rfl : k = 2 := by omega
        rw [if_neg h12, if_neg (by omega), if_pos (by omega)] at hj
        obtain ⟨b, a, t, rfl⟩ : ∃ b a t, st = b :: a :: t := by
          match st, hl with
          | [], h => simp at h
          | [_], h => simp at h
          | b :: a :: t, _ => exact ⟨b, a, t, rfl⟩
        · refine ⟨_, hj, hl, by simp only [posL_cons, Tr.post_lf, Tr.post_un, Tr.post_bi, Tr.post_te, List.length_append, List.length_cons, List.length_nil]; omega, ⟨posL t, by simp [fromAll, fromT_lf, fromT_un, fromT_bi, fromT_te, posL_cons], fun h => absurd h (by omega), fun _ => ⟨_, roots_more b _ (roots_top a t), from_more b _ (from_root a t)⟩⟩, ?_⟩
          simp only [rootsAll, posL_cons, List.length_cons, Tr.post_lf, Tr.post_un, Tr.post_bi, Tr.post_te, List.length_append, List.length_nil, List.append_assoc]
          rw [show t.length + 1 + 1 - 2 = t.length by omega, List.take_left' (rootsAll_len t)]
          simp; omega
      · next h6 =>
        split at hk'
        · next h11 =>
          obtain rfl : k = 3 := by omega
          rw [if_neg h12, if_neg (by omega), if_neg (by omega)] at hj
          obtain ⟨c, b, a, t, rfl⟩ : ∃ c b a t, st = c :: b :: a :: t := by
            match st, hl with
            | [], h => simp at h
            | [_], h => simp at h
            | [_, _], h => simp at h
            | c :: b :: a :: t, _ => exact ⟨c, b, a, t, rfl⟩
          · refine ⟨_, hj, hl, by simp only [posL_cons, Tr.post_lf, Tr.post_un, Tr.post_bi, Tr.post_te, List.length_append, List.length_cons, List.length_nil]; omega, ⟨posL t, by simp [fromAll, fromT_lf, fromT_un, fromT_bi, fromT_te, posL_cons], fun h => absurd h (by omega), fun _ => ⟨_, roots_more c _ (roots_more b _ (roots_top a t)), from_more c _ (from_more b _ (from_root a t))⟩⟩, ?_⟩
            simp only [rootsAll, posL_cons, List.length_cons, Tr.post_lf, Tr.post_un, Tr.post_bi, Tr.post_te, List.length_append, List.length_nil, List.append_assoc]
            rw [show t.length + 1 + 1 + 1 - 3 = t.length by omega, List.take_left' (rootsAll_len t)]
            simp; omega
        · omega
theorem join_few {x : Nd} {st : List Tr} (hk : (st.length : Int) < arityI x.1) : joinT x st = none := by
  obtain ⟨o, v⟩ := x
  have hk' : (st.length : Int) < arityI o := hk
  unfold arityI at hk'
  rw [joinT.eq_def]
  split
  · simp only
    split at hk'
    · omega
    · next h12 =>
      rw [if_neg h12]
      split at hk'
      · next h35 =>
        rw [if_pos (by omega)]
        match st, hk' with
        | [], _ => rfl
        | _ :: _, hk' => simp at hk'; omega
      · next h35 =>
        split at hk'
        · next h6 =>
          rw [if_neg (by omega), if_pos (by omega)]
          match st, hk' with
          | [], _ => rfl
          | [_], _ => rfl
          | _ :: _ :: _, hk' => simp at hk'; omega
        · next h6 =>
          split at hk'
          · next h11 =>
            rw [if_neg (by omega), if_neg (by omega)]
            match st, hk' with
            | [], _ => rfl
            | [_], _ => rfl
            | [_, _], _ => rfl
            | _ :: _ :: _ :: _, hk' => simp at hk'; omega
          · omega
  · rfl
theorem join_node {x : Nd} {st : List Tr} (h : nodeB x = false) : joinT x st = none := by
  rw [joinT.eq_def, if_neg (by rw [h]; decide)]
theorem build_take {f : List Nd} {i : Nat} (hi : i < f.length) (st0 : List Tr) : build f st0 = (build (f.take i) st0).bind fun s => (joinT f[i] s).bind (build (f.drop (i + 1))) := by
  have key : ∀ (a b : List Nd) (s : List Tr), build (a ++ b) s = (build a s).bind (build b) := by
    intro a b
    induction a with
    | nil => intro s; rfl
    | cons y r ih =>
      intro s
      simp only [List.cons_append, build, Option.bind_assoc]
      congr 1
      funext s'
      exact ih s'
  conv => lhs; rw [← List.take_append_drop i f, List.drop_eq_getElem_cons hi]
  rw [key]
  congr 1
end Go.Proofs.YtdkboifpdodonaaDoor.Doc
