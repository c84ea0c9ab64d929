/-
  Clauses: when they are formed, and their text: plain mathematics.
-/
import Derived.Lib.ItoaLen
namespace PureCnf
open Go.Lib

/-- the last of a list, a if there is none. -/
def lastOr (a : Int) : List Int → Int
  | [] => a
  | e :: t => lastOr e t
/-- a list that never falls, from a on. -/
def mono (a : Int) : List Int → Bool
  | [] => true
  | e :: t => decide (a ≤ e) && mono e t

theorem lastOr_snoc (a e : Int) (l : List Int) : lastOr a (l ++ [e]) = e := by
  induction l generalizing a with
  | nil => rfl
  | cons x t ih => exact ih x
theorem mono_snoc (a e : Int) (l : List Int) : mono a (l ++ [e]) = (mono a l && decide (lastOr a l ≤ e)) := by
  induction l generalizing a with
  | nil => simp [mono, lastOr]; rfl
  | cons x t ih => simp [mono, lastOr, ih, Bool.and_assoc]; rfl
theorem mono_append (a : Int) (l m : List Int) : mono a (l ++ m) = (mono a l && mono (lastOr a l) m) := by
  induction l generalizing a with
  | nil => simp [mono, lastOr]
  | cons x t ih => simp [mono, lastOr, ih, Bool.and_assoc]
theorem lastOr_append (a : Int) (l m : List Int) : lastOr a (l ++ m) = lastOr (lastOr a l) m := by
  induction l generalizing a with
  | nil => rfl
  | cons x t ih => exact ih x

def litB (V x : Int) : Bool := decide (x ≠ 0 ∧ x ≤ V ∧ -V ≤ x)
def sizesB (V : Int) (E L : List Int) : Bool := decide (0 ≤ V ∧ V ≤ 65536 ∧ E.length ≤ 65536 ∧ L.length ≤ 1048576)
def formedB (V : Int) (E L : List Int) : Bool := sizesB V E L && mono 0 E && decide (lastOr 0 E = L.length) && L.all (litB V)

theorem take_snoc {α : Type} (l : List α) (k : Nat) (h : k < l.length) : l.take (k + 1) = l.take k ++ [l[k]] := List.take_succ_eq_append_getElem h

theorem mono_fall {E : List Int} {k : Nat} (h : k < E.length) (hf : E[k] < lastOr 0 (E.take k)) : mono 0 E = false := by
  have e : E = (E.take k ++ [E[k]]) ++ E.drop (k + 1) := by rw [← take_snoc E k h, List.take_append_drop]
  rw [e, mono_append, mono_snoc]
  simp [show ¬ lastOr 0 (E.take k) ≤ E[k] by omega]
theorem mono_on {E : List Int} {k : Nat} (h : k < E.length) (hm : mono 0 (E.take k) = true) (hf : ¬ E[k] < lastOr 0 (E.take k)) : mono 0 (E.take (k + 1)) = true ∧ lastOr 0 (E.take (k + 1)) = E[k] := by
  rw [take_snoc E k h, mono_snoc, lastOr_snoc, hm]
  simp; omega
theorem all_on {V : Int} {L : List Int} {k : Nat} (h : k < L.length) (hm : (L.take k).all (litB V) = true) (hf : litB V L[k] = true) : (L.take (k + 1)).all (litB V) = true := by
  rw [take_snoc L k h, List.all_append, hm]
  simp [hf]
theorem all_off {V : Int} {L : List Int} {k : Nat} (h : k < L.length) (hf : litB V L[k] = false) : L.all (litB V) = false := by
  rw [Bool.eq_false_iff]
  intro ha
  have := List.all_eq_true.1 ha _ (List.getElem_mem h)
  rw [hf] at this
  cases this

/-! ### the text -/
/-- a literal and a blank. -/
def litT (x : Int) : List UInt8 := itoa x ++ [32]
/-- the literals from i to j. -/
def seg (L : List Int) (i j : Nat) : List UInt8 := ((L.take j).drop i).flatMap litT
/-- the clauses' lines. -/
def bodyT (L : List Int) (a : Int) : List Int → List UInt8
  | [] => []
  | e :: t => seg L a.toNat e.toNat ++ [48, 10] ++ bodyT L e t
/-- the head's line. -/
def headT (v n : Nat) : List UInt8 := [112, 32, 99, 110, 102, 32] ++ decDigits v ++ [32] ++ decDigits n ++ [10]
def cnfT (V : Int) (E L : List Int) : List UInt8 := headT V.toNat E.length ++ bodyT L 0 E

theorem seg_self (L : List Int) (i : Nat) : seg L i i = [] := by
  have : (L.take i).drop i = [] := List.drop_eq_nil_of_le (List.length_take_le _ _)
  rw [seg, this]; rfl
theorem seg_snoc {L : List Int} {i j : Nat} (hi : i ≤ j) (hj : j < L.length) : seg L i (j + 1) = seg L i j ++ litT L[j] := by
  unfold seg
  rw [take_snoc L j hj, List.drop_append_of_le_length (by rw [List.length_take]; omega), List.flatMap_append]
  simp
theorem bodyT_snoc (L : List Int) (a e : Int) (E : List Int) : bodyT L a (E ++ [e]) = bodyT L a E ++ (seg L (lastOr a E).toNat e.toNat ++ [48, 10]) := by
  induction E generalizing a with
  | nil => simp [bodyT, lastOr]
  | cons x t ih => simp only [List.cons_append, bodyT, ih, lastOr, List.append_assoc]
theorem bodyT_on {L E : List Int} {k : Nat} (h : k < E.length) : bodyT L 0 (E.take (k + 1)) = bodyT L 0 (E.take k) ++ (seg L (lastOr 0 (E.take k)).toNat E[k].toNat ++ [48, 10]) := by
  rw [take_snoc E k h, bodyT_snoc]

theorem mono_le (a : Int) (E : List Int) (h : mono a E = true) : a ≤ lastOr a E := by
  induction E generalizing a with
  | nil => exact Int.le_refl _
  | cons x t ih =>
    simp only [mono, Bool.and_eq_true, decide_eq_true_eq] at h
    exact Int.le_trans h.1 (ih x h.2)
theorem mono_at {E : List Int} (h : mono 0 E = true) {k : Nat} (hk : k < E.length) : 0 ≤ lastOr 0 (E.take k) ∧ lastOr 0 (E.take k) ≤ E[k] ∧ E[k] ≤ lastOr 0 E := by
  have e : E = E.take k ++ ([E[k]] ++ E.drop (k + 1)) := by rw [← List.append_assoc, ← take_snoc E k hk, List.take_append_drop]
  have e2 : mono 0 (E.take k ++ ([E[k]] ++ E.drop (k + 1))) = true := by rw [← e]; exact h
  rw [mono_append] at e2
  simp only [List.cons_append, List.nil_append, mono, Bool.and_eq_true, decide_eq_true_eq] at e2
  have e3 : lastOr 0 E = lastOr E[k] (E.drop (k + 1)) := by
    conv => lhs; rw [e]
    rw [lastOr_append]; rfl
  exact ⟨mono_le 0 _ e2.1, e2.2.1, by rw [e3]; exact mono_le _ _ e2.2.2⟩
theorem mono_nat {E : List Int} {n : Nat} (h : mono 0 E = true) (hl : lastOr 0 E = n) {k : Nat} (hk : k < E.length) : ∃ p q : Nat, lastOr 0 (E.take k) = p ∧ E[k] = q ∧ p ≤ q ∧ q ≤ n := by
  obtain ⟨h1, h2, h3⟩ := mono_at h hk
  exact ⟨(lastOr 0 (E.take k)).toNat, E[k].toNat, by omega, by omega, by omega, by omega⟩
theorem litT_neg {x : Int} (h : x < 0) : litT x = 45 :: (decDigits (-x).toNat ++ [32]) := by
  unfold litT itoa
  rw [if_pos h, show x.natAbs = (-x).toNat by omega]; rfl
theorem litT_pos {x : Int} (h : ¬ x < 0) : litT x = decDigits x.toNat ++ [32] := by
  unfold litT itoa
  rw [if_neg h]
theorem formed_parts {V : Int} {E L : List Int} (h : formedB V E L = true) : (0 ≤ V ∧ V ≤ 65536 ∧ E.length ≤ 65536 ∧ L.length ≤ 1048576) ∧ mono 0 E = true ∧ lastOr 0 E = L.length ∧ ∀ k (hk : k < L.length), L[k] ≠ 0 ∧ L[k] ≤ V ∧ -V ≤ L[k] := by
  simp only [formedB, sizesB, Bool.and_eq_true, decide_eq_true_eq] at h
  refine ⟨h.1.1.1, h.1.1.2, h.1.2, fun k hk => ?_⟩
  have := List.all_eq_true.1 h.2 _ (List.getElem_mem hk)
  simpa [litB] using this
end PureCnf
