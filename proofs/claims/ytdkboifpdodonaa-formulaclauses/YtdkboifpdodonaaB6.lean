/-
  Clauses in the making: a box with two lists that are owned.
-/
import Derived.Test.YtdkboifpdodonaaB5
import Derived.Test.YtdkboifpdodonaaPars
namespace Go.Proofs.Ytdkboifpdodonaa
open Go.RowKit Go.Deep PureCnf

theorem ci_append (a b : List Int) : ci (a ++ b) = ci a ++ ci b := by simp [ci]

theorem run_append_int (w : World) (base : Nat) (ty : TypeId) (v : Value) (l : List Int) (hown : w.ownsRow base 3 1 v l.length (ci l)) (ad : Addr) (x : Int) (hu : w.cell? ad = some (.int .i64 x)) (hn : l.length ≤ 1099511627776) (hbase : base ≤ w.heap.size) :
    ∃ v' w', (Builtin.append_ #[22, 22] ty #[v, .slice (some ad) 1 1]).run Try.prog w = .ok v' w' ∧ w'.ownsRow base 3 1 v' (l ++ [x]).length (ci (l ++ [x])) ∧ w.grownBy w' v.ownBlock ∧ (v'.ownBlock = v.ownBlock ∨ v'.ownBlock = some w.heap.size) := by
  obtain ⟨i, hi, hz0, hz1, hz2⟩ := info_parts info3
  have hnews : ∀ j y, [Value.int .i64 x][j]? = some y → w.cell? (ad.add j) = some y := by
    intro j y hy
    cases j with
    | zero => simp at hy; subst hy; simpa [Addr.add] using hu
    | succ j => simp at hy
  have h1' : ∀ y ∈ [Value.int .i64 x], y.oneCell' = true := by intro y hy; simp at hy; subst hy; rfl
  obtain ⟨v', w', hr, ho, hg, hnil⟩ := run_append_own (P := Try.prog) w base 22 ty 3 i (.int .i64 0) 1 8 Try.underlying22 hi hz0 hz1 hz2 rfl (by decide) v l.length (ci l) hown ad 1 1 [.int .i64 x] rfl hnews h1' (by unfold maxLen; omega) (by omega) hbase
  refine ⟨v', w', hr, ?_, hg, ?_⟩
  · rw [ci_append, List.length_append]
    exact ho
  · rcases hown.2 with ⟨rfl, h0⟩ | ⟨g, cap, cur, rfl, hbg, hgg, hnc, hcm, hcs, htake⟩
    · have hx : l = [] := List.eq_nil_of_length_eq_zero h0
      subst hx
      have hr' := run_append_nil (P := Try.prog) w 22 ty 3 i (.int .i64 0) Try.underlying22 hi hz0 ad 1 1 [.int .i64 x] (by rw [hz1]; rfl) hnews (by omega) (by omega) (by rw [hz2]; omega)
      have e : (Builtin.append_ #[22, 22] ty #[.slice none 0 0, .slice (some ad) 1 1]).run Try.prog w = .ok v' w' := hr
      rw [e] at hr'
      simp only [Result.ok.injEq] at hr'
      right
      rw [hr'.1]
      rfl
    · by_cases hroom : l.length + 1 ≤ cap
      · have hr' := run_append_room (P := Try.prog) w 22 ty 3 i Try.underlying22 hi g l.length cap cur hgg ad 1 1 [.int .i64 x] (by rw [hz1]; rfl) hnews h1' hroom (by rw [hz1, hcs]; simp; omega)
        rw [hr] at hr'
        simp only [Result.ok.injEq] at hr'
        left
        rw [hr'.1]
        rfl
      · have hr' := run_append_grow (P := Try.prog) w 22 ty 3 i (.int .i64 0) Try.underlying22 hi hz0 ⟨g, 0, none⟩ l.length cap (ci l) (by rw [hz1]; exact hown.1) (hown.cells (g := g) rfl) ad 1 1 [.int .i64 x] (by rw [hz1]; rfl) hnews (by omega) (by omega) (by rw [hz2]; exact growslice_fits (by omega) (by omega))
        rw [hr] at hr'
        simp only [Result.ok.injEq] at hr'
        right
        rw [hr'.1]
        rfl

/-- clauses in the making: their box at b; the lists lie behind it. -/
structure Out (w0 W : World) (b : Nat) (V : Int) (E L : List Int) (ve vl : Value) : Prop where
  row : W.heap[b]? = some (.cells #[.int .i64 V, ve, vl] 24 (0, 0))
  oe : W.ownsRow (b + 1) 3 1 ve E.length (ci E)
  ol : W.ownsRow (b + 1) 3 1 vl L.length (ci L)
  apart : ve.ownBlock = none ∨ ve.ownBlock ≠ vl.ownBlock
  below : Below b w0 W

theorem Out.size {w0 W : World} {b : Nat} {V : Int} {E L : List Int} {ve vl : Value} (h : Out w0 W b V E L ve vl) : b + 1 ≤ W.heap.size := (Array.getElem?_eq_some_iff.1 h.row).1

theorem ownsRow_below {w W : World} {base e size n : Nat} {v : Value} {xs : List Value} (h : w.ownsRow base e size v n xs) (hb : Below w.heap.size w W) : W.ownsRow base e size v n xs := by
  refine ⟨h.1, ?_⟩
  rcases h.2 with hn | ⟨g, cap, cur, hv, hB, hg, rest⟩
  · exact .inl hn
  · exact .inr ⟨g, cap, cur, hv, hB, (hb.block g (Array.getElem?_eq_some_iff.1 hg).1).trans hg, rest⟩

theorem Out.on {w0 W W' : World} {b : Nat} {V : Int} {E L : List Int} {ve vl : Value} (h : Out w0 W b V E L ve vl) (hb : Below W.heap.size W W') : Out w0 W' b V E L ve vl :=
  ⟨(hb.block _ h.size).trans h.row, ownsRow_below h.oe hb, ownsRow_below h.ol hb, h.apart, h.below.trans (hb.mono (by have := h.size; omega))⟩

theorem ownsRow_store {W : World} {base e size n b i : Nat} {v u : Value} {xs : List Value} (h : W.ownsRow base e size v n xs) (hb : b < base) : (W.setCell ⟨b, i, none⟩ u).ownsRow base e size v n xs := by
  refine ⟨h.1, ?_⟩
  rcases h.2 with hn | ⟨g, cap, cur, hv, hB, hg, rest⟩
  · exact .inl hn
  · exact .inr ⟨g, cap, cur, hv, hB, (Below.heap_setCell W _ _ _ (by simp; omega)).trans hg, rest⟩

/-- the Ends grow. -/
theorem Out.ends {w0 W : World} {b : Nat} {V : Int} {E L : List Int} {ve vl : Value} (h : Out w0 W b V E L ve vl) {W' : World} {ve' : Value} {x : Int}
    (ho : W'.ownsRow (b + 1) 3 1 ve' (E ++ [x]).length (ci (E ++ [x]))) (hg : W.grownBy W' ve.ownBlock) (hf : ve'.ownBlock = ve.ownBlock ∨ ve'.ownBlock = some W.heap.size) : Out w0 (W'.setCell ⟨b, 1, none⟩ ve') b V (E ++ [x]) L ve' vl := by
  have hs := h.size
  have hvl : W'.ownsRow (b + 1) 3 1 vl L.length (ci L) := h.ol.kept hg (by
    rcases h.apart with ha | ha
    · rw [ha]; cases vl.ownBlock <;> simp
    · exact .inr (Ne.symm ha))
  have hrow : W'.heap[b]? = some (.cells #[.int .i64 V, ve, vl] 24 (0, 0)) := by
    rw [← h.row]
    refine hg.block b hs (fun e => ?_)
    have := (h.oe.lt b e.symm).1
    omega
  refine ⟨?_, ownsRow_store ho (by omega), ownsRow_store hvl (by omega), ?_, ?_⟩
  · have hb := (Array.getElem?_eq_some_iff.1 hrow).1
    simp [World.setCell, Array.getElem?_modify, hrow]
  · rcases hf with hf | hf
    · rw [hf]; exact h.apart
    · right
      rw [hf]
      intro e
      have := (h.ol.lt _ e.symm).2
      omega
  · exact (h.below.grown hg (by omega) (fun k hk => by have := (h.oe.lt k hk).1; omega)).setCell (by simp) _
/-- the Lits grow. -/
theorem Out.lits {w0 W : World} {b : Nat} {V : Int} {E L : List Int} {ve vl : Value} (h : Out w0 W b V E L ve vl) {W' : World} {vl' : Value} {x : Int}
    (ho : W'.ownsRow (b + 1) 3 1 vl' (L ++ [x]).length (ci (L ++ [x]))) (hg : W.grownBy W' vl.ownBlock) (hf : vl'.ownBlock = vl.ownBlock ∨ vl'.ownBlock = some W.heap.size) : Out w0 (W'.setCell ⟨b, 2, none⟩ vl') b V E (L ++ [x]) ve vl' := by
  have hs := h.size
  have hve : W'.ownsRow (b + 1) 3 1 ve E.length (ci E) := h.oe.kept hg (by
    rcases h.apart with ha | ha
    · exact .inl ha
    · exact .inr ha)
  have hrow : W'.heap[b]? = some (.cells #[.int .i64 V, ve, vl] 24 (0, 0)) := by
    rw [← h.row]
    refine hg.block b hs (fun e => ?_)
    have := (h.ol.lt b e.symm).1
    omega
  refine ⟨?_, ownsRow_store hve (by omega), ownsRow_store ho (by omega), ?_, ?_⟩
  · have hb := (Array.getElem?_eq_some_iff.1 hrow).1
    simp [World.setCell, Array.getElem?_modify, hrow]
  · rcases hf with hf | hf
    · rw [hf]; exact h.apart
    · rw [hf]
      cases hv : ve.ownBlock with
      | none => exact .inl rfl
      | some k =>
        right
        intro e
        have := (h.oe.lt k hv).2
        simp at e
        omega
  · exact (h.below.grown hg (by omega) (fun k hk => by have := (h.ol.lt k hk).1; omega)).setCell (by simp) _

theorem Out.alloc {w0 W : World} {b : Nat} {V : Int} {E L : List Int} {ve vl : Value} (h : Out w0 W b V E L ve vl) (o : Obj) : Out w0 (W.alloc o) b V E L ve vl := h.on ((Below.refl _ _).alloc (Nat.le_refl _) o)

theorem app_end {ops : Array Oper} {rest : List Oper} {o : Oper} {a : Act} {Q : Exit → Act → World → Prop} {w0 W : World} {b : Nat} {V : Int} {E L : List Int} {ve vl : Value} (hgd : o.guard = none) (s x : Operand)
    (hop : o.op = .call { callee := .builtin .append, args := #[s, x], argTypes := #[22, 22] }) (h : Out w0 W b V E L ve vl) (y : Int) (hs : a.eval s = ve) (hx : a.eval x = .slice (some ⟨W.heap.size, 0, none⟩) 1 1) (hn : E.length ≤ 1099511627776)
    (hK : ∀ v' w', Out w0 (w'.setCell ⟨b, 1, none⟩ v') b V (E ++ [y]) L v' vl → w'.heap[b]? = some (.cells #[.int .i64 V, ve, vl] 24 (0, 0)) → wpList Try.prog ops Q rest (a.put o.dst v') w') : wpList Try.prog ops Q (o :: rest) a (W.alloc (.cells #[.int .i64 y] 3)) := by
  refine wpList_plain hgd fun K' hK' => ?_
  have h' := h.alloc (.cells #[.int .i64 y] 3)
  obtain ⟨v', w', hrun, h1, h2, h3⟩ := run_append_int _ (b + 1) o.type ve E h'.oe ⟨W.heap.size, 0, none⟩ y (by rw [cell_row (heap_alloc_new W _)]; rfl) hn h'.size
  unfold Oper.wp
  simp [execOp, hop, resolve, invoke, builtin, hs, hx, hrun, Result.andThen]
  refine hK' _ _ (hK v' w' (h'.ends h1 h2 h3) ?_)
  rw [← h'.row]
  refine h2.block b h'.size (fun e => ?_)
  have := (h'.oe.lt b e.symm).1
  omega

theorem app_lit {ops : Array Oper} {rest : List Oper} {o : Oper} {a : Act} {Q : Exit → Act → World → Prop} {w0 W : World} {b : Nat} {V : Int} {E L : List Int} {ve vl : Value} (hgd : o.guard = none) (s x : Operand)
    (hop : o.op = .call { callee := .builtin .append, args := #[s, x], argTypes := #[22, 22] }) (h : Out w0 W b V E L ve vl) (y : Int) (hs : a.eval s = vl) (hx : a.eval x = .slice (some ⟨W.heap.size, 0, none⟩) 1 1) (hn : L.length ≤ 1099511627776)
    (hK : ∀ v' w', Out w0 (w'.setCell ⟨b, 2, none⟩ v') b V E (L ++ [y]) ve v' → w'.heap[b]? = some (.cells #[.int .i64 V, ve, vl] 24 (0, 0)) → wpList Try.prog ops Q rest (a.put o.dst v') w') : wpList Try.prog ops Q (o :: rest) a (W.alloc (.cells #[.int .i64 y] 3)) := by
  refine wpList_plain hgd fun K' hK' => ?_
  have h' := h.alloc (.cells #[.int .i64 y] 3)
  obtain ⟨v', w', hrun, h1, h2, h3⟩ := run_append_int _ (b + 1) o.type vl L h'.ol ⟨W.heap.size, 0, none⟩ y (by rw [cell_row (heap_alloc_new W _)]; rfl) hn h'.size
  unfold Oper.wp
  simp [execOp, hop, resolve, invoke, builtin, hs, hx, hrun, Result.andThen]
  refine hK' _ _ (hK v' w' (h'.lits h1 h2 h3) ?_)
  rw [← h'.row]
  refine h2.block b h'.size (fun e => ?_)
  have := (h'.ol.lt b e.symm).1
  omega

theorem Out.ints {w0 W : World} {b : Nat} {V : Int} {E L : List Int} {ve vl : Value} (h : Out w0 W b V E L ve vl) : (∃ sa c, ve = .slice sa E.length c ∧ E.length ≤ c) ∧ ∃ sa c, vl = .slice sa L.length c ∧ L.length ≤ c := by
  constructor
  · rcases h.oe.2 with ⟨hv, h0⟩ | ⟨g, cap, cur, hv, _, _, hn, _⟩
    · exact ⟨none, 0, by rw [hv, h0], by omega⟩
    · exact ⟨_, _, hv, hn⟩
  · rcases h.ol.2 with ⟨hv, h0⟩ | ⟨g, cap, cur, hv, _, _, hn, _⟩
    · exact ⟨none, 0, by rw [hv, h0], by omega⟩
    · exact ⟨_, _, hv, hn⟩
end Go.Proofs.Ytdkboifpdodonaa
