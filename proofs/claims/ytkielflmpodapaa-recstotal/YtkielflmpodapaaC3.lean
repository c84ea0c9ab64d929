/-
  Compare, of both packages: what it answers; the document's.
-/
import Derived.Test.YtkielflmpodapaaC2
import Derived.Deep.QuietTactic
namespace Go.Proofs.Ytkielflmpodapaa
open Go.RowKit

/-- The word at a place. -/
def pick (a0 a1 a2 a3 p : Int) : Int := if p = 0 then a0 else if p = 1 then a1 else if p = 2 then a2 else a3

/-- From the k-th on, n of them: the first two that are not equal decide. -/
def lexAt (X Y : Nat → Int) : Nat → Nat → Int
  | _, 0 => 0
  | k, n + 1 => if X k < Y k then -1 else if Y k < X k then 1 else lexAt X Y (k + 1) n

/-- The places in the order in which they are looked at. -/
def ordN (o0 o1 o2 o3 : Int) (k : Nat) : Int := if SoundO o0 o1 o2 o3 then nth o0 o1 o2 o3 k else k

def cmpO (o0 o1 o2 o3 a0 a1 a2 a3 b0 b1 b2 b3 : Int) : Int :=
  lexAt (fun k => pick a0 a1 a2 a3 (ordN o0 o1 o2 o3 k)) (fun k => pick b0 b1 b2 b3 (ordN o0 o1 o2 o3 k)) 0 4

theorem sound_range {o0 o1 o2 o3 : Int} (h : SoundO o0 o1 o2 o3) : (0 ≤ o0 ∧ o0 < 4) ∧ (0 ≤ o1 ∧ o1 < 4) ∧ (0 ≤ o2 ∧ o2 < 4) ∧ (0 ≤ o3 ∧ o3 < 4) := by
  refine ⟨?_, ?_, ?_, ?_⟩
  all_goals
    refine Classical.byContradiction fun hn => ?_
    first
      | exact not_sound (o := o0) (.inl rfl) (by omega) h
      | exact not_sound (o := o1) (.inr (.inl rfl)) (by omega) h
      | exact not_sound (o := o2) (.inr (.inr (.inl rfl))) (by omega) h
      | exact not_sound (o := o3) (.inr (.inr (.inr rfl))) (by omega) h

/-- Three rows in memory: an order, two records. -/
structure Rows3 (W : World) (bo ba bb : Nat) (o0 o1 o2 o3 a0 a1 a2 a3 b0 b1 b2 b3 : Int) : Prop where
  o : ∀ i : Nat, W.cell? ⟨bo, i, none⟩ = (#[.int .i64 o0, .int .i64 o1, .int .i64 o2, .int .i64 o3] : Array Value)[i]?
  a : ∀ i : Nat, W.cell? ⟨ba, i, none⟩ = (#[.int .u64 a0, .int .u64 a1, .int .u64 a2, .int .u64 a3] : Array Value)[i]?
  b : ∀ i : Nat, W.cell? ⟨bb, i, none⟩ = (#[.int .u64 b0, .int .u64 b1, .int .u64 b2, .int .u64 b3] : Array Value)[i]?

theorem Rows3.drewN {W : World} {bo ba bb : Nat} {o0 o1 o2 o3 a0 a1 a2 a3 b0 b1 b2 b3 : Int} (h : Rows3 W bo ba bb o0 o1 o2 o3 a0 a1 a2 a3 b0 b1 b2 b3) (n : Nat) :
    Rows3 (W.drewN n) bo ba bb o0 o1 o2 o3 a0 a1 a2 a3 b0 b1 b2 b3 :=
  ⟨fun i => by simpa using h.o i, fun i => by simpa using h.a i, fun i => by simpa using h.b i⟩

theorem Below.drewN' {B : Nat} {a w : World} (h : Below B a w) (n : Nat) : Below B a (w.drewN n) := by
  induction n with
  | zero => exact h
  | succ n ih => exact ih.drew

end Go.Proofs.Ytkielflmpodapaa
