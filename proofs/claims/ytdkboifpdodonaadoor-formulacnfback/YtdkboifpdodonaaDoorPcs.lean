/-
  The words of clauses' text: plain mathematics.
-/
import Derived.Test.YtdkboifpdodonaaDoorNum
namespace PureCnf

/-- the first place from i on (up to e) at which p does not hold. -/
def runW (p : UInt8 → Bool) (l : List UInt8) (i e : Nat) : Nat := i + (((l.take e).drop i).takeWhile p).length

theorem runW_ge (p : UInt8 → Bool) (l : List UInt8) (i e : Nat) : i ≤ runW p l i e := by unfold runW; omega
theorem runW_le {p : UInt8 → Bool} {l : List UInt8} {i e : Nat} (h : i ≤ e) : runW p l i e ≤ e := by
  unfold runW
  have h1 := (List.takeWhile_prefix p (l := (l.take e).drop i)).length_le
  rw [List.length_drop, List.length_take] at h1
  omega
theorem runW_end {p : UInt8 → Bool} {l : List UInt8} {i e : Nat} (h : e ≤ i) : runW p l i e = i := by
  have : (l.take e).drop i = [] := List.drop_eq_nil_of_le (by rw [List.length_take]; omega)
  unfold runW; rw [this]; simp
theorem drop_take {l : List UInt8} {i e : Nat} (h : i < e) (he : e ≤ l.length) : (l.take e).drop i = l[i] :: (l.take e).drop (i + 1) := by
  rw [List.drop_eq_getElem_cons (by rw [List.length_take]; omega)]
  simp [List.getElem_take]
theorem runW_on {p : UInt8 → Bool} {l : List UInt8} {i e : Nat} (h : i < e) (he : e ≤ l.length) (hp : p l[i] = true) : runW p l i e = runW p l (i + 1) e := by
  unfold runW
  rw [drop_take h he, List.takeWhile_cons, if_pos hp]
  simp; omega
theorem runW_off {p : UInt8 → Bool} {l : List UInt8} {i e : Nat} (h : i < e) (he : e ≤ l.length) (hp : p l[i] = false) : runW p l i e = i := by
  unfold runW
  rw [drop_take h he, List.takeWhile_cons, if_neg (by rw [hp]; decide)]
  simp

def whB (c : UInt8) : Bool := decide (c.toNat = 32 ∨ c.toNat = 9 ∨ c.toNat = 13)
def inkB (c : UInt8) : Bool := !whB c
def lineB (c : UInt8) : Bool := decide (c.toNat ≠ 10)

structure Piece where
  w : List UInt8
  at_ : Nat
  line : Nat

/-- the words from k on, up to the line's end e, f of them at most. -/
def wordsF (l : List UInt8) (e line : Nat) : Nat → Nat → List Piece
  | 0, _ => []
  | f + 1, k => if _h : k < runW inkB l k e ∧ k < e then ⟨(l.take (runW inkB l k e)).drop k, k, line⟩ :: wordsF l e line f (runW whB l (runW inkB l k e) e) else []
theorem wordsF_none (l : List UInt8) (e line : Nat) {k : Nat} (h : ¬ k < e) : ∀ f, wordsF l e line f k = []
  | 0 => rfl
  | f + 1 => by rw [wordsF, dif_neg (fun c => h c.2)]
theorem wordsF_fuel (l : List UInt8) (e line : Nat) : ∀ (f g k : Nat), e < k + f → e < k + g → wordsF l e line f k = wordsF l e line g k
  | 0, g, k, h, _ => by rw [wordsF_none l e line (by omega) 0, wordsF_none l e line (by omega) g]
  | f + 1, 0, k, _, h => by rw [wordsF_none l e line (by omega) (f + 1), wordsF_none l e line (by omega) 0]
  | f + 1, g + 1, k, h1, h2 => by
    rw [wordsF, wordsF]
    by_cases hc : k < runW inkB l k e ∧ k < e
    · rw [dif_pos hc, dif_pos hc]
      have h3 := runW_ge whB l (runW inkB l k e) e
      rw [wordsF_fuel l e line f g _ (by omega) (by omega)]
    · rw [dif_neg hc, dif_neg hc]
/-- the words from k on, up to the line's end e. -/
def wordsFrom (l : List UInt8) (e line : Nat) (k : Nat) : List Piece := wordsF l e line (e + 1) k
theorem wordsFrom_eq (l : List UInt8) (e line : Nat) (k : Nat) : wordsFrom l e line k = if _h : k < runW inkB l k e ∧ k < e then ⟨(l.take (runW inkB l k e)).drop k, k, line⟩ :: wordsFrom l e line (runW whB l (runW inkB l k e) e) else [] := by
  show wordsF l e line (e + 1) k = _
  rw [wordsF]
  by_cases hc : k < runW inkB l k e ∧ k < e
  · rw [dif_pos hc, dif_pos hc]
    have h3 := runW_ge whB l (runW inkB l k e) e
    show _ :: wordsF l e line e _ = _ :: wordsF l e line (e + 1) _
    rw [wordsF_fuel l e line e (e + 1) _ (by omega) (by omega)]
  · rw [dif_neg hc, dif_neg hc]

/-- the words of a line from i to e. -/
def lineWords (l : List UInt8) (i e line : Nat) : List Piece :=
  if runW whB l i e < e ∧ (l[runW whB l i e]?) = some 99 then [] else wordsFrom l e line (runW whB l i e)

/-- the words from the line on that begins at i, of f lines at most. -/
def piecesF (l : List UInt8) : Nat → Nat → Nat → List Piece
  | 0, _, _ => []
  | f + 1, i, line => if _h : i < l.length then lineWords l i (runW lineB l i l.length) line ++ piecesF l f (runW lineB l i l.length + 1) (line + 1) else []
theorem piecesF_none (l : List UInt8) {i : Nat} (h : ¬ i < l.length) (line : Nat) : ∀ f, piecesF l f i line = []
  | 0 => rfl
  | f + 1 => by rw [piecesF, dif_neg h]
theorem piecesF_fuel (l : List UInt8) : ∀ (f g i line : Nat), l.length ≤ i + f → l.length ≤ i + g → piecesF l f i line = piecesF l g i line
  | 0, g, i, line, h, _ => by rw [piecesF_none l (by omega) line 0, piecesF_none l (by omega) line g]
  | f + 1, 0, i, line, _, h => by rw [piecesF_none l (by omega) line (f + 1), piecesF_none l (by omega) line 0]
  | f + 1, g + 1, i, line, h1, h2 => by
    rw [piecesF, piecesF]
    by_cases hc : i < l.length
    · rw [dif_pos hc, dif_pos hc]
      have h3 := runW_ge lineB l i l.length
      rw [piecesF_fuel l f g _ _ (by omega) (by omega)]
    · rw [dif_neg hc, dif_neg hc]
/-- the words from the line on that begins at i. -/
def piecesFrom (l : List UInt8) (i line : Nat) : List Piece := piecesF l (l.length + 1) i line
theorem piecesFrom_eq (l : List UInt8) (i line : Nat) : piecesFrom l i line = if _h : i < l.length then lineWords l i (runW lineB l i l.length) line ++ piecesFrom l (runW lineB l i l.length + 1) (line + 1) else [] := by
  show piecesF l (l.length + 1) i line = _
  rw [piecesF]
  by_cases hc : i < l.length
  · rw [dif_pos hc, dif_pos hc]
    have h3 := runW_ge lineB l i l.length
    show _ ++ piecesF l l.length _ _ = _ ++ piecesF l (l.length + 1) _ _
    rw [piecesF_fuel l l.length (l.length + 1) _ _ (by omega) (by omega)]
  · rw [dif_neg hc, dif_neg hc]

theorem wordsFrom_nil {l : List UInt8} {e line k : Nat} (h : ¬ k < e) : wordsFrom l e line k = [] := by
  rw [wordsFrom_eq, dif_neg (by omega)]
theorem wordsFrom_cons {l : List UInt8} {e line k : Nat} (h : k < e) (he : e ≤ l.length) (hp : inkB l[k] = true) : wordsFrom l e line k = ⟨(l.take (runW inkB l k e)).drop k, k, line⟩ :: wordsFrom l e line (runW whB l (runW inkB l k e) e) := by
  have : k < runW inkB l k e := by
    rw [runW_on h he hp]
    have := runW_ge inkB l (k + 1) e
    omega
  rw [wordsFrom_eq, dif_pos ⟨this, h⟩]
theorem piecesFrom_end {l : List UInt8} {i line : Nat} (h : ¬ i < l.length) : piecesFrom l i line = [] := by
  rw [piecesFrom_eq, dif_neg h]
theorem piecesFrom_on {l : List UInt8} {i line : Nat} (h : i < l.length) : piecesFrom l i line = lineWords l i (runW lineB l i l.length) line ++ piecesFrom l (runW lineB l i l.length + 1) (line + 1) := by
  rw [piecesFrom_eq, dif_pos h]
theorem runW_stop_aux {p : UInt8 → Bool} {l : List UInt8} {e : Nat} (he : e ≤ l.length) : ∀ (d i : Nat), e - i = d → ∀ hq : runW p l i e < e, p (l[runW p l i e]'(by omega)) = false := by
  intro d
  induction d with
  | zero =>
    intro i hd hq
    have := runW_ge p l i e
    omega
  | succ d ih =>
    intro i hd hq
    have hie : i < e := by omega
    cases hp : p l[i] with
    | true =>
      have e1 := runW_on (p := p) hie he hp
      simp only [e1]
      exact ih (i + 1) (by omega) (by rw [← e1]; exact hq)
    | false =>
      have e1 := runW_off (p := p) hie he hp
      simp only [e1]
      exact hp
/-- behind a run the next byte is another. -/
theorem runW_stop {p : UInt8 → Bool} {l : List UInt8} {i e : Nat} (he : e ≤ l.length) (h : runW p l i e < e) : p (l[runW p l i e]'(by omega)) = false := runW_stop_aux he _ i rfl h
theorem wordsFrom_count (l : List UInt8) (e line k : Nat) : (wordsFrom l e line k).length ≤ e - k := by
  generalize hd : e - k = d
  induction d using Nat.strongRecOn generalizing k with
  | _ d ih =>
    rw [wordsFrom_eq]
    split
    · next h =>
      have h1 := runW_ge whB l (runW inkB l k e) e
      have h2 := runW_le (p := inkB) (l := l) (i := k) (e := e) (by omega)
      have := ih (e - runW whB l (runW inkB l k e) e) (by omega) _ rfl
      simp only [List.length_cons]
      omega
    · simp
end PureCnf
