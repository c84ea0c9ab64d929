/-
  Clauses' text read: plain mathematics.
-/
import Derived.Test.YtdkboifpdodonaaDoorHead
namespace PureCnf

/-! ### where pieces lie -/
theorem words_in (l : List UInt8) (e line : Nat) (k : Nat) : ∀ p ∈ wordsFrom l e line k, p.at_ + p.w.length ≤ e := by
  generalize hd : e - k = d
  induction d using Nat.strongRecOn generalizing k with
  | _ d ih =>
    intro p hp
    rw [wordsFrom_eq] at hp
    split at hp
    · next h =>
      have h1 := runW_ge whB l (runW inkB l k e) e
      have h2 := runW_le (p := inkB) (l := l) (i := k) (e := e) (by omega)
      rcases List.mem_cons.1 hp with rfl | hp
      · simp only [List.length_drop, List.length_take]; omega
      · exact ih (e - runW whB l (runW inkB l k e) e) (by omega) _ rfl p hp
    · simp at hp
theorem lineWords_in {l : List UInt8} {i e line : Nat} : ∀ p ∈ lineWords l i e line, p.at_ + p.w.length ≤ e := by
  intro p hp
  unfold lineWords at hp
  split at hp
  · simp at hp
  · exact words_in l e line _ p hp
theorem pieces_in (l : List UInt8) (i line : Nat) : ∀ p ∈ piecesFrom l i line, p.at_ + p.w.length ≤ l.length := by
  generalize hd : l.length - i = d
  induction d using Nat.strongRecOn generalizing i line with
  | _ d ih =>
    intro p hp
    rw [piecesFrom_eq] at hp
    split at hp
    · next h =>
      have h1 := runW_ge lineB l i l.length
      have h2 := runW_le (p := lineB) (l := l) (i := i) (e := l.length) (by omega)
      rcases List.mem_append.1 hp with hp | hp
      · have := lineWords_in p hp; omega
      · exact ih (l.length - (runW lineB l i l.length + 1)) (by omega) _ _ rfl p hp
    · simp at hp
theorem lineWords_count {l : List UInt8} {i e line : Nat} : (lineWords l i e line).length ≤ e - i := by
  unfold lineWords
  split
  · simp
  · have := wordsFrom_count l e line (runW whB l i e)
    have := runW_ge whB l i e
    omega
theorem pieces_count (l : List UInt8) (i line : Nat) : (piecesFrom l i line).length ≤ l.length - i := by
  generalize hd : l.length - i = d
  induction d using Nat.strongRecOn generalizing i line with
  | _ d ih =>
    rw [piecesFrom_eq]
    split
    · next h =>
      have h1 := runW_ge lineB l i l.length
      have h2 := runW_le (p := lineB) (l := l) (i := i) (e := l.length) (by omega)
      have h3 := lineWords_count (l := l) (i := i) (e := runW lineB l i l.length) (line := line)
      have h4 := ih (l.length - (runW lineB l i l.length + 1)) (by omega) (runW lineB l i l.length + 1) (line + 1) rfl
      rw [List.length_append]
      omega
    · simp

/-! ### literals -/
/-- of a word: the literal, 0 if it is none. -/
def litNum (l : List UInt8) : Int := if l.head? = some 45 then (if 0 < numB l.tail 2147483647 then -numB l.tail 2147483647 else 0) else (if 0 ≤ numB l 2147483647 then numB l 2147483647 else 0)
def litFine (l : List UInt8) : Bool := if l.head? = some 45 then decide (0 < numB l.tail 2147483647) else decide (0 ≤ numB l 2147483647)

/-- the words behind the head: a fault with its place, or the clauses. -/
def bodyRun (n : Nat) (V C : Int) : List Piece → List Int → List Int → Bool → Except (Int × Nat) (List Int × List Int)
  | [], E, L, op => if op = true ∨ (E.length : Int) < C then .error (135, n) else .ok (E, L)
  | p :: t, E, L, _ =>
    if (E.length : Int) = C then .error (135, p.at_)
    else if litFine p.w = false then .error (133, p.at_)
    else if V < litNum p.w ∨ litNum p.w < -V then .error (3, p.at_)
    else if litNum p.w = 0 then bodyRun n V C t (E ++ [(L.length : Int)]) L false
    else if L.length = 1048576 then .error (8, p.at_)
    else bodyRun n V C t E (L ++ [litNum p.w]) true

/-- of a text: a fault (its code, its place), or the clauses. -/
def parseN (l : List UInt8) : Except (Int × Option Nat) (Int × List Int × List Int) :=
  if 1048576 < l.length then .error (5, none)
  else match headN l.length (piecesFrom l 0 0) with
    | some f => .error (f.1, some f.2)
    | none => match bodyRun l.length (numOf (piecesFrom l 0 0) 2) (numOf (piecesFrom l 0 0) 3) ((piecesFrom l 0 0).drop 4) [] [] false with
      | .error f => .error (f.1, some f.2)
      | .ok x => .ok (numOf (piecesFrom l 0 0) 2, x.1, x.2)
end PureCnf
