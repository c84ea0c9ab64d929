/-
  What reading clauses stands on.
-/
import Derived.Test.YtdkboifpdodonaaDoorA6
import Derived.Test.YtdkboifpdodonaaDoorPars
namespace Go.Proofs.YtdkboifpdodonaaDoor
open Go.RowKit Go.Deep PureCnf
set_option maxRecDepth 100000

theorem list_at (s : ByteArray) (k : Nat) (h : k < s.size) : s.data.toList[k]'(by simpa using h) = s[k] := rfl

/-- the place behind these bytes: line and column. -/
def spotN (l : List UInt8) : Nat × Nat := l.foldl (fun p c => if c.toNat = 10 then (p.1 + 1, 1) else (p.1, p.2 + 1)) (1, 1)

theorem spotN_snoc (l : List UInt8) (c : UInt8) : spotN (l ++ [c]) = if c.toNat = 10 then ((spotN l).1 + 1, 1) else ((spotN l).1, (spotN l).2 + 1) := by simp [spotN, List.foldl_append]

theorem spotN_le (l : List UInt8) : (spotN l).1 ≤ l.length + 1 ∧ (spotN l).2 ≤ l.length + 1 := by
  have e : ∀ m : List UInt8, (spotN m.reverse).1 ≤ m.length + 1 ∧ (spotN m.reverse).2 ≤ m.length + 1 := by
    intro m
    induction m with
    | nil => simp [spotN]
    | cons c t ih =>
      rw [List.reverse_cons, spotN_snoc]
      split <;> simp <;> omega
  have := e l.reverse
  simpa using this

/-- of a word: the literal, 0 if it is none. -/
def litN (l : List UInt8) : Int := if l.head? = some 45 then (if 0 < numB l.tail 2147483647 then -numB l.tail 2147483647 else 0) else (if 0 ≤ numB l 2147483647 then numB l 2147483647 else 0)

def litOk (l : List UInt8) : Bool := if l.head? = some 45 then decide (0 < numB l.tail 2147483647) else decide (0 ≤ numB l 2147483647)

def faultV (e : Int) (p : Nat × Nat) : Value := .agg #[.int .i64 e, .int .i64 (p.1 : Int), .int .i64 (p.2 : Int)]

theorem ci_append (a b : List Int) : ci (a ++ b) = ci a ++ ci b := by simp [ci]

theorem run_append_int (w : World) (base : Nat) (ty : TypeId) (v : Value) (l : List Int) (hown : w.ownsRow base 3 1 v l.length (ci l)) (ad : Addr) (x : Int) (hu : w.cell? ad = some (.int .i64 x)) (hn : l.length ≤ 1099511627776) (hbase : base ≤ w.heap.size) :
    ∃ v' w', (Builtin.append_ #[22, 22] ty #[v, .slice (some ad) 1 1]).run Tryd.prog w = .ok v' w' ∧ w'.ownsRow base 3 1 v' (l ++ [x]).length (ci (l ++ [x])) ∧ w.grownBy w' v.ownBlock ∧ (v'.ownBlock = v.ownBlock ∨ v'.ownBlock = some w.heap.size) := by
  obtain ⟨i, hi, hz0, hz1, hz2⟩ := info_parts info3
  have hnews : ∀ j y, [Value.int .i64 x][j]? = some y → w.cell? (ad.add j) = some y := by
    intro j y hy
    cases j with
    | zero => simp at hy; subst hy; simpa [Addr.add] using hu
    | succ j => simp at hy
  have h1' : ∀ y ∈ [Value.int .i64 x], y.oneCell' = true := by intro y hy; simp at hy; subst hy; rfl
  obtain ⟨v', w', hr, ho, hg, hnil⟩ := run_append_own (P := Tryd.prog) w base 22 ty 3 i (.int .i64 0) 1 8 Tryd.underlying22 hi hz0 hz1 hz2 rfl (by decide) v l.length (ci l) hown ad 1 1 [.int .i64 x] rfl hnews h1' (by unfold maxLen; omega) (by omega) hbase
  refine ⟨v', w', hr, ?_, hg, ?_⟩
  · rw [ci_append, List.length_append]
    exact ho
  · rcases hown.2 with ⟨rfl, h0⟩ | ⟨g, cap, cur, rfl, hbg, hgg, hnc, hcm, hcs, htake⟩
    · have hx : l = [] := List.eq_nil_of_length_eq_zero h0
      subst hx
      have hr' := run_append_nil (P := Tryd.prog) w 22 ty 3 i (.int .i64 0) Tryd.underlying22 hi hz0 ad 1 1 [.int .i64 x] (by rw [hz1]; rfl) hnews (by omega) (by omega) (by rw [hz2]; omega)
      have e : (Builtin.append_ #[22, 22] ty #[.slice none 0 0, .slice (some ad) 1 1]).run Tryd.prog w = .ok v' w' := hr
      rw [e] at hr'
      simp only [Result.ok.injEq] at hr'
      right
      rw [hr'.1]
      rfl
    · by_cases hroom : l.length + 1 ≤ cap
      · have hr' := run_append_room (P := Tryd.prog) w 22 ty 3 i Tryd.underlying22 hi g l.length cap cur hgg ad 1 1 [.int .i64 x] (by rw [hz1]; rfl) hnews h1' hroom (by rw [hz1, hcs]; simp; omega)
        rw [hr] at hr'
        simp only [Result.ok.injEq] at hr'
        left
        rw [hr'.1]
        rfl
      · have hr' := run_append_grow (P := Tryd.prog) w 22 ty 3 i (.int .i64 0) Tryd.underlying22 hi hz0 ⟨g, 0, none⟩ l.length cap (ci l) (by rw [hz1]; exact hown.1) (hown.cells (g := g) rfl) ad 1 1 [.int .i64 x] (by rw [hz1]; rfl) hnews (by omega) (by omega) (by rw [hz2]; exact growslice_fits (by omega) (by omega))
        rw [hr] at hr'
        simp only [Result.ok.injEq] at hr'
        right
        rw [hr'.1]
        rfl

theorem ownsRow_below {w W : World} {base e size n : Nat} {v : Value} {xs : List Value} (h : w.ownsRow base e size v n xs) (hb : Below w.heap.size w W) : W.ownsRow base e size v n xs := by
  refine ⟨h.1, ?_⟩
  rcases h.2 with hn | ⟨g, cap, cur, hv, hB, hg, rest⟩
  · exact .inl hn
  · exact .inr ⟨g, cap, cur, hv, hB, (hb.block g (Array.getElem?_eq_some_iff.1 hg).1).trans hg, rest⟩

theorem ownsRow_store {W : World} {base e size n b i : Nat} {v u : Value} {xs : List Value} (h : W.ownsRow base e size v n xs) (hb : b < base) : (W.setCell ⟨b, i, none⟩ u).ownsRow base e size v n xs := by
  refine ⟨h.1, ?_⟩
  rcases h.2 with hn | ⟨g, cap, cur, hv, hB, hg, rest⟩
  · exact .inl hn
  · exact .inr ⟨g, cap, cur, hv, hB, (Below.heap_setCell W _ _ _ (by simp; omega)).trans hg, rest⟩

theorem litNum_eq (l : List UInt8) : litNum l = litN l := rfl

theorem litN_range (l : List UInt8) : -2147483647 ≤ litN l ∧ litN l ≤ 2147483647 := by
  have h1 := numB_range l.tail 2147483647
  have h2 := numB_range l 2147483647
  unfold litN
  split <;> split <;> omega

theorem parseN_head {l : List UInt8} {f : Int × Nat} (h1 : ¬ 1048576 < l.length) (h : headN l.length (piecesFrom l 0 0) = some f) : parseN l = .error (f.1, some f.2) := by
  unfold parseN; rw [if_neg h1, h]

theorem parseN_err {l : List UInt8} {f : Int × Nat} (h1 : ¬ 1048576 < l.length) (h : headN l.length (piecesFrom l 0 0) = none) (hb : bodyRun l.length (numOf (piecesFrom l 0 0) 2) (numOf (piecesFrom l 0 0) 3) ((piecesFrom l 0 0).drop 4) [] [] false = .error f) : parseN l = .error (f.1, some f.2) := by
  unfold parseN; rw [if_neg h1, h]; simp only; rw [hb]

theorem parseN_ok {l : List UInt8} {x : List Int × List Int} (h1 : ¬ 1048576 < l.length) (h : headN l.length (piecesFrom l 0 0) = none) (hb : bodyRun l.length (numOf (piecesFrom l 0 0) 2) (numOf (piecesFrom l 0 0) 3) ((piecesFrom l 0 0).drop 4) [] [] false = .ok x) : parseN l = .ok (numOf (piecesFrom l 0 0) 2, x.1, x.2) := by
  unfold parseN; rw [if_neg h1, h]; simp only; rw [hb]

def faultOf (l : List UInt8) (f : Int × Option Nat) : Value := match f.2 with
  | some i => faultV f.1 (spotN (l.take i))
  | none => faultV f.1 (0, 0)

/-- numbers that lie from a block on. -/
structure Own (W : World) (base : Nat) (sa : Option Addr) (l : List Int) : Prop where
  ints : IntsAt W sa l
  far : ∀ a, sa = some a → base ≤ a.block

theorem Own.store {W : World} {base b i : Nat} {v : Value} {sa : Option Addr} {l : List Int} (h : Own W base sa l) (hb : b < base) : Own (W.setCell ⟨b, i, none⟩ v) base sa l :=
  ⟨h.ints.store (fun a e => by have := h.far a e; omega) i v, h.far⟩

theorem Own.mono {W : World} {base b2 : Nat} {sa : Option Addr} {l : List Int} (h : Own W base sa l) (hb : b2 ≤ base) : Own W b2 sa l := ⟨h.ints, fun a e => Nat.le_trans hb (h.far a e)⟩

/-- what reading a text answers. -/
def Parsed (l : List UInt8) (base : Nat) (e : Ending) (w' : World) : Prop := match parseN l with
  | .error f => e = .returned (.tuple #[cnfV 0 none 0 0 none 0 0, faultOf l f])
  | .ok x => ∃ se ce sl cl, e = .returned (.tuple #[cnfV x.1 se x.2.1.length ce sl x.2.2.length cl, faultV 0 (0, 0)]) ∧ Own w' base se x.2.1 ∧ Own w' base sl x.2.2 ∧ x.2.1.length ≤ ce ∧ x.2.2.length ≤ cl

theorem Parsed.err {l : List UInt8} {base : Nat} {f : Int × Option Nat} {e : Ending} {w' : World} (h : parseN l = .error f) (he : e = .returned (.tuple #[cnfV 0 none 0 0 none 0 0, faultOf l f])) : Parsed l base e w' := by
  unfold Parsed; rw [h]; exact he

/-- the two places of the results. -/
structure Res (w W : World) : Prop where
  r0 : W.heap[w.heap.size]? = some (.cells #[.int .i64 0, .slice none 0 0, .slice none 0 0] 24 (0, 0))
  r1 : W.heap[w.heap.size + 1]? = some (.cells #[.int .i64 0, .int .i64 0, .int .i64 0] 33 (0, 0))
  below : Below w.heap.size w W

theorem Res.on {w W W' : World} (h : Res w W) (hb : Below W.heap.size W W') : Res w W' :=
  ⟨(hb.block _ (Array.getElem?_eq_some_iff.1 h.r0).1).trans h.r0, (hb.block _ (Array.getElem?_eq_some_iff.1 h.r1).1).trans h.r1, h.below.trans (hb.mono h.below.size)⟩

theorem Res.size {w W : World} (h : Res w W) : w.heap.size + 2 ≤ W.heap.size := (Array.getElem?_eq_some_iff.1 h.r1).1

theorem bodyRun_wf {n : Nat} {V C : Int} (t : List Piece) : ∀ (E L : List Int) (op : Bool), (∀ y ∈ E, -9223372036854775808 ≤ y ∧ y ≤ 9223372036854775807) → (∀ y ∈ L, -9223372036854775808 ≤ y ∧ y ≤ 9223372036854775807) → L.length ≤ 1048576 → ∀ {x : List Int × List Int}, bodyRun n V C t E L op = .ok x → (∀ y ∈ x.1, -9223372036854775808 ≤ y ∧ y ≤ 9223372036854775807) ∧ (∀ y ∈ x.2, -9223372036854775808 ≤ y ∧ y ≤ 9223372036854775807) := by
  induction t with
  | nil =>
    intro E L op hE hL _ x h
    unfold bodyRun at h
    split at h
    · cases h
    · cases h; exact ⟨hE, hL⟩
  | cons p t ih =>
    intro E L op hE hL hn x h
    unfold bodyRun at h
    split at h
    · cases h
    · split at h
      · cases h
      · split at h
        · cases h
        · split at h
          · refine ih _ _ _ (fun y hy => ?_) hL hn h
            rcases List.mem_append.1 hy with hy | hy
            · exact hE y hy
            · simp only [List.mem_cons, List.not_mem_nil, or_false] at hy
              subst hy
              omega
          · split at h
            · cases h
            · refine ih _ _ _ hE (fun y hy => ?_) (by simp; omega) h
              rcases List.mem_append.1 hy with hy | hy
              · exact hL y hy
              · simp only [List.mem_cons, List.not_mem_nil, or_false] at hy
                have := litN_range p.w
                rw [hy, litNum_eq]
                omega

theorem ints_own {W : World} {base n c : Nat} {sa : Option Addr} {l : List Int} (h : W.ownsRow base 3 1 (.slice sa n c) l.length (ci l)) (hw : ∀ y ∈ l, -9223372036854775808 ≤ y ∧ y ≤ 9223372036854775807) : Own W base sa l := by
  refine ⟨⟨fun k hk => ?_, fun k hk => hw _ (List.getElem_mem hk)⟩, fun a ha => ?_⟩
  · rcases h.2 with ⟨hv, h0⟩ | ⟨g, cap, cur, hv, hb, hg, _⟩
    · omega
    · simp only [Value.slice.injEq] at hv
      obtain ⟨rfl, rfl, rfl⟩ := hv
      exact ⟨_, rfl, (Array.getElem?_eq_some_iff.1 hg).1, h.cells (g := g) rfl k _ (by simp [ci, List.getElem?_eq_getElem hk])⟩
  · subst ha
    rcases h.2 with ⟨hv, h0⟩ | ⟨g, cap, cur, hv, hb, hg, _⟩
    · cases hv
    · simp only [Value.slice.injEq, Option.some.injEq] at hv
      rw [hv.1]
      exact hb

/-- what a function that reads clauses answers. -/
def Parses (f : Nat) : Prop := ∀ (s : ByteArray) (w : World), s.size ≤ 9223372036854775807 → Calls Tryd.prog f #[.string s] w fun e w' => Parsed s.data.toList w.heap.size e w' ∧ Below w.heap.size w w'

theorem bodyRun_count {n : Nat} {V C : Int} (t : List Piece) : ∀ (E L : List Int) (op : Bool) {x : List Int × List Int}, bodyRun n V C t E L op = .ok x → x.1.length + x.2.length ≤ E.length + L.length + t.length := by
  induction t with
  | nil =>
    intro E L op x h
    unfold bodyRun at h
    split at h
    · cases h
    · cases h; simp
  | cons p t ih =>
    intro E L op x h
    unfold bodyRun at h
    split at h
    · cases h
    · split at h
      · cases h
      · split at h
        · cases h
        · split at h
          · have := ih _ _ _ h
            simp at this ⊢; omega
          · split at h
            · cases h
            · have := ih _ _ _ h
              simp at this ⊢; omega

theorem parseN_small {l : List UInt8} {x : Int × List Int × List Int} (h : parseN l = .ok x) : x.2.1.length ≤ 1048576 ∧ x.2.2.length ≤ 1048576 := by
  unfold parseN at h
  split at h
  · cases h
  · next hs =>
    split at h
    · cases h
    · split at h
      · cases h
      · next y hy =>
        cases h
        have h1 := bodyRun_count _ _ _ _ hy
        have h2 := pieces_count l 0 0
        simp at h1 ⊢
        omega

/-- reading answers this. -/
theorem Parsed.shape {l : List UInt8} {base : Nat} {e : Ending} {w' : World} (h : Parsed l base e w') : ∃ (V : Int) (E L : List Int) (f0 f1 f2 : Int), (E.length ≤ 1048576 ∧ L.length ≤ 1048576) ∧ (∃ se ce sl cl, e = .returned (.tuple #[cnfV V se E.length ce sl L.length cl, .agg #[.int .i64 f0, .int .i64 f1, .int .i64 f2]]) ∧ IntsAt w' se E ∧ IntsAt w' sl L) ∧
    ∀ (b2 : Nat) (e2 : Ending) (w2 : World), Parsed l b2 e2 w2 → ∃ se ce sl cl, e2 = .returned (.tuple #[cnfV V se E.length ce sl L.length cl, .agg #[.int .i64 f0, .int .i64 f1, .int .i64 f2]]) ∧ IntsAt w2 se E ∧ IntsAt w2 sl L := by
  have none_ : ∀ w, IntsAt w none [] := fun w => ⟨fun k hk => by simp at hk, fun k hk => by simp at hk⟩
  unfold Parsed at h ⊢
  split at h
  · next f hf =>
    have hfo : ∃ f0 f1 f2 : Int, faultOf l f = .agg #[.int .i64 f0, .int .i64 f1, .int .i64 f2] := by
      unfold faultOf
      split <;> exact ⟨_, _, _, rfl⟩
    obtain ⟨f0, f1, f2, e0⟩ := hfo
    rw [e0] at h ⊢
    exact ⟨0, [], [], f0, f1, f2, ⟨by simp, by simp⟩, ⟨none, 0, none, 0, h, none_ _, none_ _⟩, fun _ _ _ h2 => ⟨none, 0, none, 0, h2, none_ _, none_ _⟩⟩
  · next x hx =>
    obtain ⟨se, ce, sl, cl, he, i1, i2, _⟩ := h
    exact ⟨x.1, x.2.1, x.2.2, 0, 0, 0, parseN_small hx, ⟨se, ce, sl, cl, he, i1.ints, i2.ints⟩, fun _ _ _ ⟨se, ce, sl, cl, he, i1, i2, _⟩ => ⟨se, ce, sl, cl, he, i1.ints, i2.ints⟩⟩

end Go.Proofs.YtdkboifpdodonaaDoor
