/-
  Numbers as texts: plain mathematics.
-/
import Derived.Test.YtdkboifpdodonaaDoorCnf
namespace PureCnf
open Go.Lib

def digB (c : UInt8) : Bool := decide (48 ≤ c.toNat ∧ c.toNat ≤ 57)
def valN (l : List UInt8) : Nat := l.foldl (fun a c => 10 * a + (c.toNat - 48)) 0
/-- digits without needless zeros. -/
def plainB (l : List UInt8) : Bool := decide (l ≠ []) && !(decide (1 < l.length) && decide (l.head? = some 48))
def numOk (l : List UInt8) : Bool := plainB l && l.all digB
def numB (l : List UInt8) (most : Nat) : Int := if numOk l = true ∧ valN l ≤ most then (valN l : Int) else -1

theorem valN_snoc (l : List UInt8) (c : UInt8) : valN (l ++ [c]) = 10 * valN l + (c.toNat - 48) := by simp [valN, List.foldl_append]
theorem fold_ge (a : Nat) (l : List UInt8) : a ≤ l.foldl (fun a c => 10 * a + (c.toNat - 48)) a := by
  induction l generalizing a with
  | nil => exact Nat.le_refl _
  | cons c t ih => exact Nat.le_trans (show a ≤ 10 * a + (c.toNat - 48) by omega) (ih _)
theorem valN_take_le (l : List UInt8) (k : Nat) : valN (l.take k) ≤ valN l := by
  have e : valN l = (l.drop k).foldl (fun a c => 10 * a + (c.toNat - 48)) (valN (l.take k)) := by
    conv => lhs; rw [← List.take_append_drop k l]
    rw [valN, List.foldl_append]; rfl
  rw [e]; exact fold_ge _ _
theorem numB_off {l : List UInt8} {most k : Nat} (hk : k < l.length) (h : digB l[k] = false) : numB l most = -1 := by
  have : l.all digB = false := by
    rw [Bool.eq_false_iff]; intro ha
    have := List.all_eq_true.1 ha _ (List.getElem_mem hk)
    rw [h] at this; cases this
  unfold numB numOk; rw [this]; simp
theorem numB_great {l : List UInt8} {most k : Nat} (h : most < valN (l.take k)) : numB l most = -1 := by
  have := valN_take_le l k
  unfold numB; rw [if_neg (by omega)]
theorem numB_plain {l : List UInt8} {most : Nat} (h : plainB l = false) : numB l most = -1 := by
  unfold numB numOk; rw [h]; simp
theorem numB_end {l : List UInt8} {most : Nat} (h1 : plainB l = true) (h2 : l.all digB = true) (h3 : valN l ≤ most) : numB l most = valN l := by
  unfold numB numOk; rw [h1, h2, if_pos ⟨rfl, h3⟩]
theorem numB_range (l : List UInt8) (most : Nat) : -1 ≤ numB l most ∧ numB l most ≤ most := by
  unfold numB; split <;> omega

/-! ### back -/
theorem digB_of {d : Nat} (h : d < 10) : digB (UInt8.ofNat (48 + d)) = true := by
  have : (UInt8.ofNat (48 + d)).toNat = 48 + d := by simp; omega
  unfold digB; rw [this]; simp; omega
theorem dec_all (n : Nat) : (decDigits n).all digB = true := by
  induction n using Nat.strongRecOn with
  | _ n ih =>
    rw [decDigits]
    split
    · next h => simp only [List.all_cons, List.all_nil, digB_of h, Bool.and_self]
    · next h => simp only [List.all_append, ih (n / 10) (by omega), List.all_cons, List.all_nil, digB_of (Nat.mod_lt n (by omega : 0 < 10)), Bool.and_self]
theorem dec_val (n : Nat) : valN (decDigits n) = n := by
  induction n using Nat.strongRecOn with
  | _ n ih =>
    rw [decDigits]
    split
    · next h =>
      have : (UInt8.ofNat (48 + n)).toNat = 48 + n := by simp; omega
      simp only [valN, List.foldl_cons, List.foldl_nil, this]; omega
    · next h =>
      have : (UInt8.ofNat (48 + n % 10)).toNat = 48 + n % 10 := by simp; omega
      rw [valN_snoc, ih (n / 10) (by omega), this]; omega
theorem dec_head (n : Nat) (h : 0 < n) : (decDigits n).head? ≠ some 48 := by
  induction n using Nat.strongRecOn with
  | _ n ih =>
    rw [decDigits]
    split
    · next h10 =>
      intro he
      simp only [List.head?_cons, Option.some.injEq] at he
      have : (UInt8.ofNat (48 + n)).toNat = 48 + n := by simp; omega
      rw [he] at this
      simp at this
      omega
    · next h10 =>
      have hp : 0 < n / 10 := by omega
      have i := ih (n / 10) (by omega) hp
      have hne : decDigits (n / 10) ≠ [] := by
        rw [decDigits]; split <;> simp
      obtain ⟨c, t, e⟩ := List.exists_cons_of_ne_nil hne
      rw [e] at i ⊢
      simpa using i
theorem dec_plain (n : Nat) : plainB (decDigits n) = true := by
  have hne : decDigits n ≠ [] := by rw [decDigits]; split <;> simp
  by_cases h : n < 10
  · have : decDigits n = [UInt8.ofNat (48 + n)] := by rw [decDigits, dif_pos h]
    unfold plainB; rw [this]; simp
  · have := dec_head n (by omega)
    unfold plainB; simp [hne, this]
theorem dec_num (n most : Nat) (h : n ≤ most) : numB (decDigits n) most = n := by
  rw [numB_end (dec_plain n) (dec_all n) (by rw [dec_val]; exact h), dec_val]
end PureCnf
