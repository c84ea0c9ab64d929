/-
  The landed program's isBlank, isNoBlank, isDigit, run.
-/
import Derived.Test.YtdkboifpdodonaaDoorB0
import Derived.Test.YtdkboifpdodonaaDoorPcs
namespace Go.Proofs.YtdkboifpdodonaaDoor
open Go.RowKit Go.Deep PureCnf
set_option maxRecDepth 100000

/-! ### runes -/
theorem get_in (s : ByteArray) (j : Nat) (h : j < s.size) : s.get! j = s[j] := by
  simp [ByteArray.get!, getElem!_pos, h]
  rfl
/-- what one rune takes up: bytes of the text, all of them beyond the letters of seven bits. -/
theorem decode_span (s : ByteArray) (pos : Nat) (h : pos < s.size) (ha : 128 ≤ (s[pos]'h).toNat) :
    1 ≤ (Utf8.decode s pos).2 ∧ pos + (Utf8.decode s pos).2 ≤ s.size ∧ ∀ j (hj : j < s.size), pos ≤ j → j < pos + (Utf8.decode s pos).2 → 128 ≤ (s[j]'hj).toNat := by
  refine ⟨(decode_high s pos h ha).2, ?_⟩
  have h0 : s.get! (pos + 0) = s[pos]'h := get_in s pos h
  have hn : ¬ (s[pos]'h).toNat < 128 := by omega
  have one : pos + 1 ≤ s.size ∧ ∀ j (hj : j < s.size), pos ≤ j → j < pos + 1 → 128 ≤ (s[j]'hj).toNat := by
    refine ⟨h, fun j hj h1 h2 => ?_⟩
    obtain rfl : j = pos := by omega
    exact ha
  have big : ∀ k, pos + k < s.size → (s.get! (pos + k)).toNat / 64 = 2 → ∀ hj : pos + k < s.size, 128 ≤ (s[pos + k]'hj).toNat := by
    intro k hk he hj
    rw [get_in s (pos + k) hj] at he
    omega
  simp only [Utf8.decode, h0, hn, if_false]
  split
  · next h1 =>
    simp only [Bool.and_eq_true, beq_iff_eq, decide_eq_true_eq] at h1
    split
    · refine ⟨by omega, fun j hj a b => ?_⟩
      rcases Nat.eq_or_lt_of_le a with rfl | a
      · exact ha
      · obtain rfl : j = pos + 1 := by omega
        exact big 1 h1.2.1 h1.2.2 _
    · exact one
  · split
    · next h1 =>
      simp only [Bool.and_eq_true, beq_iff_eq, decide_eq_true_eq] at h1
      split
      · refine ⟨by omega, fun j hj a b => ?_⟩
        rcases Nat.eq_or_lt_of_le a with rfl | a
        · exact ha
        · rcases (show j = pos + 1 ∨ j = pos + 2 by omega) with rfl | rfl
          · exact big 1 h1.1.2.1 h1.1.2.2 _
          · exact big 2 h1.2.1 h1.2.2 _
      · exact one
    · split
      · next h1 =>
        simp only [Bool.and_eq_true, beq_iff_eq, decide_eq_true_eq] at h1
        split
        · refine ⟨by omega, fun j hj a b => ?_⟩
          rcases Nat.eq_or_lt_of_le a with rfl | a
          · exact ha
          · rcases (show j = pos + 1 ∨ j = pos + 2 ∨ j = pos + 3 by omega) with rfl | rfl | rfl
            · exact big 1 h1.1.1.2.1 h1.1.1.2.2 _
            · exact big 2 h1.1.2.1 h1.1.2.2 _
            · exact big 3 h1.2.1 h1.2.2 _
        · exact one
      · exact one

def whR (r : Nat) : Bool := decide (r = 32 ∨ r = 9 ∨ r = 13)
def digR (r : Nat) : Bool := decide (48 ≤ r ∧ r ≤ 57)
theorem whR_byte (c : UInt8) : whR c.toNat = whB c := rfl
theorem digR_byte (c : UInt8) : digR c.toNat = digB c := rfl

set_option maxHeartbeats 400000 in
theorem isBlank_any (r : Nat) (w : World) : Calls Tryd.prog 76 #[.int .i32 (r : Int)] w fun e w' => e = .returned (.bool (whR r)) ∧ w' = w := by
  by_cases h1 : (r : Int) = 32
  · have HD : Hid (whR r = true) := by show _ = _; unfold whR; simp; omega
    rw [h1]
    clear h1
    go_enter Tryd.func76, Tryd.ntmps76
    go_wp2
    go_ret
    rw [HD.out]
    exact ⟨rfl, rfl⟩
  · by_cases h2 : (r : Int) = 9
    · have HD : Hid (whR r = true) := by show _ = _; unfold whR; simp; omega
      rw [h2]
      clear h2 h1
      go_enter Tryd.func76, Tryd.ntmps76
      go_wp2
      go_ret
      rw [HD.out]
      exact ⟨rfl, rfl⟩
    · by_cases h3 : (r : Int) = 13
      · have HD : Hid (whR r = true) := by show _ = _; unfold whR; simp; omega
        rw [h3]
        clear h2 h1 h3
        go_enter Tryd.func76, Tryd.ntmps76
        go_wp2
        go_ret
        rw [HD.out]
        exact ⟨rfl, rfl⟩
      · have HD : Hid (whR r = false) := by show _ = _; unfold whR; simp; omega
        have g1 : ((r : Int) == 32) = false := by simp; omega
        have g2 : ((r : Int) == 9) = false := by simp; omega
        have g3 : ((r : Int) == 13) = false := by simp; omega
        clear h1 h2 h3
        go_enter Tryd.func76, Tryd.ntmps76
        go_wp2
        go_ret
        rw [HD.out]
        exact ⟨rfl, rfl⟩

set_option maxHeartbeats 400000 in
theorem isNoBlank_any (r : Nat) (w : World) : Calls Tryd.prog 78 #[.int .i32 (r : Int)] w fun e w' => e = .returned (.bool (!whR r)) ∧ w' = w := by
  have HB := hid (isBlank_any r w)
  go_enter Tryd.func78, Tryd.ntmps78
  go_wp2_with (go_at_call 76; refine HB.out.mono ?_; rintro e w' ⟨rfl, rfl⟩)
  go_ret
  exact ⟨rfl, rfl⟩

set_option maxHeartbeats 400000 in
theorem isDigit_any (r : Nat) (w : World) : Calls Tryd.prog 134 #[.int .i32 (r : Int)] w fun e w' => e = .returned (.bool (digR r)) ∧ w' = w := by
  by_cases h1 : 48 ≤ (r : Int)
  · by_cases h2 : (r : Int) ≤ 57
    · have HD : Hid (digR r = true) := by show _ = _; unfold digR; simp; omega
      go_enter Tryd.func134, Tryd.ntmps134
      go_wp2
      go_ret
      rw [HD.out]
      exact ⟨rfl, rfl⟩
    · have HD : Hid (digR r = false) := by show _ = _; unfold digR; simp; omega
      go_enter Tryd.func134, Tryd.ntmps134
      go_wp2
      go_ret
      rw [HD.out]
      exact ⟨rfl, rfl⟩
  · have HD : Hid (digR r = false) := by show _ = _; unfold digR; simp; omega
    go_enter Tryd.func134, Tryd.ntmps134
    go_wp2
    go_ret
    rw [HD.out]
    exact ⟨rfl, rfl⟩

/-! ### run -/
theorem tw_take {p : UInt8 → Bool} : ∀ {l : List UInt8} {k : Nat}, k ≤ l.length → (l.take k).all p = true → (∀ h : k < l.length, p l[k] = false) → l.takeWhile p = l.take k := by
  intro l
  induction l with
  | nil => intro k _ _ _; simp
  | cons c t ih =>
    intro k hk ha hs
    cases k with
    | zero =>
      have := hs (by simp)
      simp at this
      simp [this]
    | succ k =>
      simp at ha
      rw [List.takeWhile_cons, if_pos ha.1, List.take_succ_cons, ih (by simpa using hk) (by simpa using ha.2) (fun h => by have := hs (by simpa using h); rwa [List.getElem_cons_succ] at this)]
theorem all_more {p : UInt8 → Bool} {l : List UInt8} {k n : Nat} (ha : (l.take k).all p = true) (h : ∀ j (hj : j < l.length), k ≤ j → j < k + n → p l[j] = true) : (l.take (k + n)).all p = true := by
  rw [List.all_eq_true]
  intro x hx
  obtain ⟨j, hj, rfl⟩ := List.getElem_of_mem hx
  rw [List.length_take] at hj
  rw [List.getElem_take]
  by_cases hjk : j < k
  · refine List.all_eq_true.1 ha _ ?_
    rw [List.mem_iff_getElem]
    exact ⟨j, by rw [List.length_take]; omega, by rw [List.getElem_take]⟩
  · exact h j (by omega) (by omega) (by omega)
theorem below_iter (w : World) (s : ByteArray) (pos : Nat) : Below w.heap.size w (w.iter s pos) := (Below.refl _ _).alloc (Nat.le_refl _) _

/-- the runes and the bytes of a predicate are told alike. -/
structure Alike (R : Nat → Bool) (p : UInt8 → Bool) : Prop where
  low : ∀ c : UInt8, c.toNat < 128 → R c.toNat = p c
  high : ∃ b, (∀ r, 128 ≤ r → R r = b) ∧ ∀ c : UInt8, 128 ≤ c.toNat → p c = b
theorem alike_wh : Alike whR whB := ⟨fun _ _ => rfl, false, fun r h => by unfold whR; simp; omega, fun c h => by unfold whB; simp; omega⟩
theorem alike_ink : Alike (fun r => !whR r) inkB := ⟨fun _ _ => rfl, true, fun r h => by unfold whR; simp; omega, fun c h => by unfold inkB whB; simp; omega⟩
theorem alike_dig : Alike digR digB := ⟨fun _ _ => rfl, false, fun r h => by unfold digR; simp; omega, fun c h => by unfold digB; simp; omega⟩

/-- one rune: what it says, and what the bytes say over which it goes. -/
theorem rune_step {R : Nat → Bool} {p : UInt8 → Bool} (hA : Alike R p) (s : ByteArray) (pos : Nat) (h : pos < s.size) :
    1 ≤ (Utf8.decode s pos).2 ∧ pos + (Utf8.decode s pos).2 ≤ s.size ∧ R (Utf8.decode s pos).1 = p s[pos] ∧ ∀ j (hj : j < s.size), pos ≤ j → j < pos + (Utf8.decode s pos).2 → p s[j] = p s[pos] := by
  by_cases ha : (s[pos]'h).toNat < 128
  · rw [decode_ascii s pos h ha]
    refine ⟨Nat.le_refl _, h, hA.low _ ha, fun j hj h1 h2 => ?_⟩
    obtain rfl : j = pos := by simp at h2; omega
    rfl
  · obtain ⟨b, hb, hp⟩ := hA.high
    obtain ⟨h1, h2, h3⟩ := decode_span s pos h (by omega)
    have h4 := (decode_high s pos h (by omega)).1
    refine ⟨h1, h2, by rw [hb _ h4, hp _ (by omega)], fun j hj a c => ?_⟩
    rw [hp _ (h3 j hj a c), hp _ (by omega)]
end Go.Proofs.YtdkboifpdodonaaDoor
