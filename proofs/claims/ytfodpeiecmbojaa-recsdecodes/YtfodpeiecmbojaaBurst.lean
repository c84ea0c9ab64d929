/-
  Bits turned one by one within 32: the sum tells.
-/
import Derived.Test.YtfodpeiecmbojaaBlk
namespace Go.Proofs.Ytfodpeiecmbojaa.PureCrc

abbrev one (s L bits i : Nat) : Prop := bits / 2 ^ i % 2 = 1 ∧ s + i < L
/-- the bits that were turned in the first rounds. -/
def mask (s L bits : Nat) : Nat → Nat
  | 0 => 0
  | i + 1 => mask s L bits i ^^^ (if one s L bits i then 2 ^ i else 0)
def turns (s L bits : Nat) : Nat → Nat
  | 0 => 0
  | i + 1 => turns s L bits i + (if one s L bits i then 1 else 0)

section
variable {s L bits : Nat}
theorem mask_lt : ∀ i, mask s L bits i < 2 ^ i
  | 0 => by simp [mask]
  | i + 1 => by
    have h := mask_lt i
    simp only [mask]
    have : 2 ^ i < 2 ^ (i + 1) := Nat.pow_lt_pow_right (by decide) (by omega)
    refine Nat.xor_lt_two_pow (by omega) ?_
    split
    · exact this
    · exact Nat.two_pow_pos _
theorem turns_le : ∀ i, turns s L bits i ≤ i
  | 0 => by simp [turns]
  | i + 1 => by
    have := turns_le i
    simp only [turns]
    split <;> omega
theorem mask_pos : ∀ i, turns s L bits i ≠ 0 → 0 < mask s L bits i
  | 0, h => by simp [turns] at h
  | i + 1, h => by
    simp only [turns] at h
    simp only [mask]
    have hl := mask_lt (s := s) (L := L) (bits := bits) i
    by_cases h1 : one s L bits i
    · rw [if_pos h1]
      apply Nat.pos_of_ne_zero
      intro e
      have := xor_zero_eq e
      omega
    · rw [if_neg h1] at h ⊢
      rw [Nat.xor_zero]
      exact mask_pos i (by omega)

/-- b1 is b with the bits of the first i rounds turned. -/
structure Turned (b b1 : List Nat) (s bits i : Nat) : Prop where
  len : b1.length = b.length
  lt : ∀ x ∈ b1, x < 256
  num : num b1 = num b ^^^ mask s (8 * b.length) bits i * 2 ^ s

theorem Turned.start {b : List Nat} (hb : ∀ x ∈ b, x < 256) (s bits : Nat) : Turned b b s bits 0 := ⟨rfl, hb, by simp [mask]⟩
theorem Turned.skip {b b1 : List Nat} {i : Nat} (h : Turned b b1 s bits i) (hn : ¬ one s (8 * b.length) bits i) : Turned b b1 s bits (i + 1) :=
  ⟨h.len, h.lt, by rw [h.num, mask, if_neg hn, Nat.xor_zero]⟩
theorem Turned.turn {b b1 : List Nat} {i : Nat} (h : Turned b b1 s bits i) (hn : one s (8 * b.length) bits i) {j m : Nat} (hj : j < b1.length) (hm : m < 8) (he : 8 * j + m = s + i) :
    Turned b (b1.set j (b1[j] ^^^ 2 ^ m)) s bits (i + 1) :=
  ⟨by rw [List.length_set]; exact h.len, turn_lt hj h.lt hm, by
    rw [num_turn hj h.lt hm, h.num, mask, if_pos hn, he, pow_xor, ← Nat.pow_add, Nat.xor_assoc, Nat.add_comm s i]⟩

theorem fits_reg {b : List Nat} (hb : ∀ x ∈ b, x < 256) (h4 : 4 ≤ b.length) : sumFits b ↔ reg 4294967295 b = iter 32 4294967295 := by
  have h := fits_iff (m := b.take (b.length - 4)) (s := b.drop (b.length - 4)) (fun x hx => hb x (List.mem_of_mem_take hx)) (fun x hx => hb x (List.mem_of_mem_drop hx)) (by rw [List.length_drop]; omega)
  rw [List.take_append_drop] at h
  unfold sumFits
  rw [← h]
  exact eq_comm

theorem Turned.spoilt {b b1 : List Nat} (h : Turned b b1 s bits 32) (hb : ∀ x ∈ b, x < 256) (h4 : 4 ≤ b.length) (hs : s ≤ 8 * b.length) (hf : sumFits b) (ht : turns s (8 * b.length) bits 32 ≠ 0) : ¬ sumFits b1 := by
  rw [fits_reg hb h4] at hf
  rw [fits_reg h.lt (by rw [h.len]; exact h4)]
  refine burst hb h.lt h.len.symm (mask_pos 32 ht) (mask_lt 32) hs ?_ hf
  rw [num_both h.len.symm hb h.lt, h.num, ← Nat.xor_assoc, Nat.xor_self, Nat.zero_xor]
end
end Go.Proofs.Ytfodpeiecmbojaa.PureCrc
