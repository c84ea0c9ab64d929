/-
  The head of clauses' text: plain mathematics.
-/
import Derived.Test.YtdkboifpdodonaaDoorPcs
namespace PureCnf

/-- behind the word ahead of i. -/
def prevEnd (l : List Piece) (i : Nat) : Nat := match l[i - 1]? with
  | some p => p.at_ + p.w.length
  | none => 0
def lineOf (l : List Piece) (i : Nat) : Nat := match l[i]? with
  | some p => p.line
  | none => 0
def numOf (l : List Piece) (i : Nat) : Int := match l[i]? with
  | some p => numB p.w 2147483647
  | none => 0
/-- the fault of the head's word i: its code and place. -/
def headStep (l : List Piece) (i : Nat) : Option (Int × Nat) := match l[i]? with
  | none => some (135, prevEnd l i)
  | some p =>
    if p.line ≠ lineOf l 0 then some (135, prevEnd l i)
    else if (i = 0 ∧ p.w ≠ [112]) ∨ (i = 1 ∧ p.w ≠ [99, 110, 102]) then some (135, p.at_)
    else if i < 2 then none
    else if numB p.w 2147483647 < 0 then some (133, p.at_)
    else if 65536 < numB p.w 2147483647 then some (8, p.at_)
    else none
/-- the fault from word i on. -/
def headFrom (l : List Piece) : Nat → Nat → Option (Int × Nat)
  | 0, _ => match l[4]? with
    | some p => if p.line = lineOf l 0 then some (135, p.at_) else none
    | none => none
  | d + 1, i => match headStep l i with
    | some f => some f
    | none => headFrom l d (i + 1)
/-- the head: a fault, or none. -/
def headN (n : Nat) (l : List Piece) : Option (Int × Nat) := if l = [] then some (135, n) else headFrom l 4 0
end PureCnf
