/-
  The words of clauses' text: plain mathematics.
-/
import Derived.Test.YtdkboifpdodonaaDoorNum
namespace PureCnf

/-- the first place from i on (up to e) at which p does not hold. -/
def runW (p : UInt8 → Bool) (l : List UInt8) (i e : Nat) : Nat := i + (((l.take e).drop i).takeWhile p).length

theorem runW_ge (p : UInt8 → Bool) (l : List UInt8) (i e : Nat) : i ≤ runW p l i e := by unfold runW; omega
theorem runW_le {p : UInt8 → Bool} {l : List UInt8} {i e : Nat} (h : i ≤ e) : runW p l i e ≤ e := by
  unfold runW
  have h1 := (List.takeWhile_prefix p (l := (l.take e).drop i)).length_le
  rw [List.length_drop, List.length_take] at h1
  omega
theorem runW_end {p : UInt8 → Bool} {l : List UInt8} {i e : Nat} (h : e ≤ i) : runW p l i e = i := by
  have : (l.take e).drop i = [] := List.drop_eq_nil_of_le (by rw [List.length_take]; omega)
  unfold runW; rw [this]; simp
theorem drop_take {l : List UInt8} {i e : Nat} (h : i < e) (he : e ≤ l.length) : (l.take e).drop i = l[i] :: (l.take e).drop (i + 1) := by
  rw [List.drop_eq_getElem_cons (by rw [List.length_take]; omega)]
  simp [List.getElem_take]
theorem runW_on {p : UInt8 → Bool} {l : List UInt8} {i e : Nat} (h : i < e) (he : e ≤ l.length) (hp : p l[i] = true) : runW p l i e = runW p l (i + 1) e := by
  unfold runW
  rw [drop_take h he, List.takeWhile_cons, if_pos hp]
  simp; omega
theorem runW_off {p : UInt8 → Bool} {l : List UInt8} {i e : Nat} (h : i < e) (he : e ≤ l.length) (hp : p l[i] = false) : runW p l i e = i := by
  unfold runW
  rw [drop_take h he, List.takeWhile_cons, if_neg (by rw [hp]; decide)]
  simp

def whB (c : UInt8) : Bool := decide (c.toNat = 32 ∨ c.toNat = 9 ∨ c.toNat = 13)
def inkB (c : UInt8) : Bool := !whB c
def lineB (c : UInt8) : Bool := decide (c.toNat ≠ 10)

structure Piece where
  w : List UInt8
  at_ : Nat
  line : Nat

/-- the words from k on, up to the line's end e. -/
def wordsFrom (l : List UInt8) (e line : Nat) (k : Nat) : List Piece :=
  if _h : k < runW inkB l k e ∧ k < e then ⟨(l.take (runW inkB l k e)).drop k, k, line⟩ :: wordsFrom l e line (runW whB l (runW inkB l k e) e) else []
termination_by e - k
decreasing_by
  have h1 := runW_ge whB l (runW inkB l k e) e
  omega

/-- the words of a line from i to e. -/
def lineWords (l : List UInt8) (i e line : Nat) : List Piece :=
  if runW whB l i e < e ∧ (l[runW whB l i e]?) = some 99 then [] else wordsFrom l e line (runW whB l i e)

/-- the words from the line on that begins at i. -/
def piecesFrom (l : List UInt8) (i line : Nat) : List Piece :=
  if _h : i < l.length then lineWords l i (runW lineB l i l.length) line ++ piecesFrom l (runW lineB l i l.length + 1) (line + 1) else []
termination_by l.length - i
decreasing_by
  have h1 := runW_ge lineB l i l.length
  omega

theorem wordsFrom_nil {l : List UInt8} {e line k : Nat} (h : ¬ k < e) : wordsFrom l e line k = [] := by
  rw [wordsFrom, dif_neg (by omega)]
theorem wordsFrom_cons {l : List UInt8} {e line k : Nat} (h : k < e) (he : e ≤ l.length) (hp : inkB l[k] = true) : wordsFrom l e line k = ⟨(l.take (runW inkB l k e)).drop k, k, line⟩ :: wordsFrom l e line (runW whB l (runW inkB l k e) e) := by
  have : k < runW inkB l k e := by
    rw [runW_on h he hp]
    have := runW_ge inkB l (k + 1) e
    omega
  rw [wordsFrom, dif_pos ⟨this, h⟩]
theorem piecesFrom_end {l : List UInt8} {i line : Nat} (h : ¬ i < l.length) : piecesFrom l i line = [] := by
  rw [piecesFrom, dif_neg h]
theorem piecesFrom_on {l : List UInt8} {i line : Nat} (h : i < l.length) : piecesFrom l i line = lineWords l i (runW lineB l i l.length) line ++ piecesFrom l (runW lineB l i l.length + 1) (line + 1) := by
  rw [piecesFrom, dif_pos h]
theorem runW_stop_aux {p : UInt8 → Bool} {l : List UInt8} {e : Nat} (he : e ≤ l.length) : ∀ (d i : Nat), e - i = d → ∀ hq : runW p l i e < e, p (l[runW p l i e]'(by omega)) = false := by
  intro d
  induction d with
  | zero =>
    intro i hd hq
    have := runW_ge p l i e
    omega
  | succ d ih =>
    intro i hd hq
    have hie : i < e := by omega
    cases hp : p l[i] with
    | true =>
      have e1 := runW_on (p := p) hie he hp
      simp only [e1]
      exact ih (i + 1) (by omega) (by rw [← e1]; exact hq)
    | false =>
      have e1 := runW_off (p := p) hie he hp
      simp only [e1]
      exact hp
/-- behind a run the next byte is another. -/
theorem runW_stop {p : UInt8 → Bool} {l : List UInt8} {i e : Nat} (he : e ≤ l.length) (h : runW p l i e < e) : p (l[runW p l i e]'(by omega)) = false := runW_stop_aux he _ i rfl h
theorem wordsFrom_count (l : List UInt8) (e line k : Nat) : (wordsFrom l e line k).length ≤ e - k := by
  generalize hd : e - k = d
  induction d using Nat.strongRecOn generalizing k with
  | _ d ih =>
    rw [wordsFrom]
    split
    · next h =>
      have h1 := runW_ge whB l (runW inkB l k e) e
      have h2 := runW_le (p := inkB) (l := l) (i := k) (e := e) (by omega)
      have := ih (e - runW whB l (runW inkB l k e) e) (by omega) _ rfl
      simp only [List.length_cons]
      omega
    · simp
end PureCnf
