/-
  The document's own letter, Name, field, FormedLine, leans.
-/
import Derived.Test.YtfmmmhcpdinhgaaDoorA1
namespace Go.Proofs.YtfmmmhcpdinhgaaDoor
open Go.RowKit Go.Deep PureNet
set_option maxRecDepth 100000

set_option maxHeartbeats 1000000 in
theorem letter_any (c : UInt8) (w : World) : Calls Tryd.prog 83 #[.int .u8 (c.toNat : Int)] w fun e w' => e = .returned (.bool (letB c)) ∧ w' = w := by
  have hc : (c.toNat : Int) ≤ 255 := by have := c.toNat_lt; omega
  by_cases h1 : 97 ≤ (c.toNat : Int)
  · by_cases h2 : (c.toNat : Int) ≤ 122
    · have HD : Hid (letB c = true) := by show _ = _; unfold letB; simp; omega
      go_enter Tryd.func83, Tryd.ntmps83
      go_wp2
      go_ret
      rw [HD.out]
      exact ⟨rfl, rfl⟩
    · have HD : Hid (letB c = false) := by show _ = _; unfold letB; simp; omega
      have h3 : 65 ≤ (c.toNat : Int) := by omega
      have h4 : ¬ (c.toNat : Int) ≤ 90 := by omega
      have h5 : ((c.toNat : Int) == 95) = false := beq_eq_false_iff_ne.2 (by omega)
      go_enter Tryd.func83, Tryd.ntmps83
      go_wp2
      go_ret
      rw [HD.out]
      exact ⟨rfl, rfl⟩
  · by_cases h3 : 65 ≤ (c.toNat : Int)
    · by_cases h4 : (c.toNat : Int) ≤ 90
      · have HD : Hid (letB c = true) := by show _ = _; unfold letB; simp; omega
        go_enter Tryd.func83, Tryd.ntmps83
        go_wp2
        go_ret
        rw [HD.out]
        exact ⟨rfl, rfl⟩
      · by_cases h5 : (c.toNat : Int) = 95
        · have HD : Hid (letB c = true) := by show _ = _; unfold letB; simp; omega
          go_enter Tryd.func83, Tryd.ntmps83
          go_wp2
          go_ret
          rw [HD.out]
          exact ⟨rfl, rfl⟩
        · have HD : Hid (letB c = false) := by show _ = _; unfold letB; simp; omega
          have h6 : ((c.toNat : Int) == 95) = false := beq_eq_false_iff_ne.2 h5
          clear h5
          go_enter Tryd.func83, Tryd.ntmps83
          go_wp2
          go_ret
          rw [HD.out]
          exact ⟨rfl, rfl⟩
    · have HD : Hid (letB c = false) := by show _ = _; unfold letB; simp; omega
      have h5 : ((c.toNat : Int) == 95) = false := beq_eq_false_iff_ne.2 (by omega)
      go_enter Tryd.func83, Tryd.ntmps83
      go_wp2
      go_ret
      rw [HD.out]
      exact ⟨rfl, rfl⟩

set_option maxHeartbeats 1000000 in
theorem field_any (v : Int) (u : Bool) (n : Nat) (w : World) : Calls Tryd.prog 84 #[.int .i64 v, .bool u, .int .i64 (n : Int)] w fun e w' => e = .returned (.bool (fieldB v u n)) ∧ w' = w := by
  cases u
  · by_cases h : v = 0
    · have HD : Hid (fieldB v false n = true) := by show _ = _; simp [fieldB, h]
      subst h
      go_enter Tryd.func84, Tryd.ntmps84
      go_wp2
      go_ret
      rw [HD.out]
      exact ⟨rfl, rfl⟩
    · have HD : Hid (fieldB v false n = false) := by show _ = _; simp [fieldB, h]
      go_enter Tryd.func84, Tryd.ntmps84
      go_wp2
      go_ret
      rw [HD.out]
      exact ⟨by simp [h], rfl⟩
  · by_cases h : 0 ≤ v
    · by_cases h2 : v < (n : Int)
      · have HD : Hid (fieldB v true n = true) := by show _ = _; simp [fieldB, h, h2]
        go_enter Tryd.func84, Tryd.ntmps84
        go_wp2
        go_ret
        rw [HD.out]
        exact ⟨rfl, rfl⟩
      · have HD : Hid (fieldB v true n = false) := by show _ = _; simp [fieldB, h2]
        go_enter Tryd.func84, Tryd.ntmps84
        go_wp2
        go_ret
        rw [HD.out]
        exact ⟨rfl, rfl⟩
    · have HD : Hid (fieldB v true n = false) := by show _ = _; simp [fieldB, h]
      go_enter Tryd.func84, Tryd.ntmps84
      go_wp2
      go_ret
      rw [HD.out]
      exact ⟨rfl, rfl⟩

theorem nameB_long (s : ByteArray) (h : 32 < s.size) : nameB s = false := by
  unfold nameB
  have : s.data.toList.length = s.size := by simp
  cases hl : s.data.toList with
  | nil => rfl
  | cons c r =>
    rw [hl] at this
    simp only [List.length_cons] at this
    simp only [nameL]
    rw [decide_eq_false (show ¬ r.length ≤ 31 by omega), Bool.and_false]
theorem nameB_of (s : ByteArray) (h0 : 0 < s.size) (h1 : s.size ≤ 32) : nameB s = (letB (s[0]'h0) && decide (∀ q, (hq : q < s.size) → 0 < q → nameCB (s[q]'hq) = true)) := by
  unfold nameB
  have hlen : s.data.toList.length = s.size := by simp
  have hget : ∀ q (hq : q < s.size), s.data.toList[q]'(by rw [hlen]; exact hq) = s[q]'hq := fun q hq => rfl
  cases hl : s.data.toList with
  | nil => rw [hl] at hlen; simp at hlen; omega
  | cons c r =>
    have hc : s[0]'h0 = c := by
      have := hget 0 h0
      simp only [hl] at this
      exact this.symm
    have hlr : r.length + 1 = s.size := by rw [hl] at hlen; simpa using hlen
    simp only [nameL]
    rw [hc, decide_eq_true (show r.length ≤ 31 by omega), Bool.and_true]
    congr 1
    rw [Bool.eq_iff_iff, List.all_eq_true, decide_eq_true_eq]
    constructor
    · intro h q hq h0
      obtain ⟨k, rfl⟩ : ∃ k, q = k + 1 := ⟨q - 1, by omega⟩
      have := hget (k + 1) hq
      simp only [hl, List.getElem_cons_succ] at this
      rw [← this]
      exact h _ (List.getElem_mem _)
    · intro h x hx
      obtain ⟨k, hk, rfl⟩ := List.getElem_of_mem hx
      have := hget (k + 1) (by omega)
      simp only [hl, List.getElem_cons_succ] at this
      rw [this]
      exact h (k + 1) (by omega) (by omega)

set_option maxHeartbeats 2000000 in
set_option maxRecDepth 100000 in
theorem name_any (s : ByteArray) (w : World) (hs : s.size ≤ 140737488351232) : Calls Tryd.prog 55 #[.string s] w fun e w' => e = .returned (.bool (nameB s)) ∧ Below w.heap.size w w' := by
  by_cases h0 : s.size = 0
  · have HD : Hid (nameB s = false) := by
      show _ = _
      unfold nameB
      have : s.data.toList = [] := List.eq_nil_of_length_eq_zero (by simpa using h0)
      rw [this]
      rfl
    go_enter Tryd.func55, Tryd.ntmps55
    go_wp2
    go_ret
    rw [HD.out]
    exact ⟨rfl, Below.refl _ _⟩
  by_cases h32 : 32 < s.size
  · have HD := hid (nameB_long s h32)
    have h33 : (32 : Int) < (s.size : Int) := by omega
    have h34 : ¬ (s.size : Int) < 1 := by omega
    go_enter Tryd.func55, Tryd.ntmps55
    go_wp2
    go_ret
    rw [HD.out]
    exact ⟨rfl, Below.refl _ _⟩
  have hp : 0 < s.size := by omega
  have HN := hid (nameB_of s hp (by omega))
  have LE := hid (fun W => letter_any (s[0]'hp) W)
  have h33 : ¬ (32 : Int) < (s.size : Int) := by omega
  have h34 : ¬ (s.size : Int) < 1 := by omega
  cases hl0 : letB (s[0]'hp) with
  | false =>
    rw [hl0, Bool.false_and] at HN
    rw [hl0] at LE
    go_enter Tryd.func55, Tryd.ntmps55
    go_wp2_with (first
      | (go_at_call 83; with_reducible refine (LE.out _).mono ?_; rintro e w1 ⟨rfl, rfl⟩))
    go_ret
    rw [HN.out]
    exact ⟨rfl, Below.refl _ _⟩
  | true =>
    rw [hl0, Bool.true_and] at HN
    rw [hl0] at LE
    clear hl0
    go_enter Tryd.func55, Tryd.ntmps55
    go_wp2_with (first
      | (go_at_call 83; with_reducible refine (LE.out _).mono ?_; rintro e w1 ⟨rfl, rfl⟩))
    go_loopw [3] (fun iv W => ∃ i : Nat, 1 ≤ i ∧ i ≤ s.size ∧ iv = .int .i64 (i : Int) ∧ W = w1 ∧ Hid (∀ q, (hq : q < s.size) → 0 < q → q < i → nameCB (s[q]'hq) = true)) (fun iv _ => s.size - (intOf iv).toNat)
    case atStart => exact ⟨1, Nat.le_refl _, by omega, rfl, rfl, fun q _ h1 h2 => by omega⟩
    case round =>
      obtain ⟨i, hi1, hi, rfl, rfl, HR⟩ := hrel
      by_cases hlt : i < s.size
      · have hr := HR.out
        clear HR
        have LI := hid (fun W => letter_any (s[i]'hlt) W)
        have HNX : nameCB (s[i]'hlt) = true → Hid (∀ q, (hq : q < s.size) → 0 < q → q < i + 1 → nameCB (s[q]'hq) = true) := fun h q hq h1 h2 => by
          by_cases e : q = i
          · subst e; exact h
          · exact hr q hq h1 (by omega)
        have HNO : nameCB (s[i]'hlt) = false → Hid (nameB s = false) := fun h => by
          show _ = _
          rw [HN.out, decide_eq_false]
          intro hall
          have := hall i hlt (by omega)
          rw [h] at this
          cases this
        have hcb : ((s[i]'hlt).toNat : Int) ≤ 255 := by have := (s[i]'hlt).toNat_lt; omega
        cases hcl : letB (s[i]'hlt) with
        | true =>
          have NX := HNX (by simp [nameCB, hcl])
          rw [hcl] at LI
          clear HNX HNO hr hcl
          go_wp2_with (first
            | (go_at_call 83; with_reducible refine (LI.out _).mono ?_; rintro e w2 ⟨rfl, rfl⟩))
          exact ⟨⟨i + 1, by omega, hlt, by go_num, trivial, NX.out⟩, by simp [intOf]; omega⟩
        | false =>
          rw [hcl] at LI
          by_cases h1 : 48 ≤ ((s[i]'hlt).toNat : Int)
          · by_cases h2 : ((s[i]'hlt).toNat : Int) ≤ 57
            · have NX := HNX (by simp only [nameCB, hcl, Bool.false_or, decide_eq_true_eq]; omega)
              clear HNX HNO hr hcl
              go_wp2_with (first
                | (go_at_call 83; with_reducible refine (LI.out _).mono ?_; rintro e w2 ⟨rfl, rfl⟩))
              exact ⟨⟨i + 1, by omega, hlt, by go_num, trivial, NX.out⟩, by simp [intOf]; omega⟩
            · have NO := HNO (by simp only [nameCB, hcl, Bool.false_or, decide_eq_false_iff_not]; omega)
              have h3 : ¬ ((s[i]'hlt).toNat : Int) = 46 := by omega
              have h3b : (((s[i]'hlt).toNat : Int) == 46) = false := beq_eq_false_iff_ne.2 h3
              have h2b : decide (((s[i]'hlt).toNat : Int) ≤ 57) = false := decide_eq_false h2
              have h3c : (((s[i]'hlt).toNat : Int) != 46) = true := bne_iff_ne.2 h3
              clear HNX HNO hr hcl
              go_wp2_with (first
                | (go_at_call 83; with_reducible refine (LI.out _).mono ?_; rintro e w2 ⟨rfl, rfl⟩))
              go_ret
              rw [NO.out]
              exact ⟨rfl, Below.refl _ _⟩
          · by_cases h3 : ((s[i]'hlt).toNat : Int) = 46
            · have NX := HNX (by simp only [nameCB, hcl, Bool.false_or, decide_eq_true_eq]; omega)
              have h4 : (((s[i]'hlt).toNat : Int) == 46) = true := by rw [h3]; rfl
              clear HNX HNO hr hcl h3
              go_wp2_with (first
                | (go_at_call 83; with_reducible refine (LI.out _).mono ?_; rintro e w2 ⟨rfl, rfl⟩))
              exact ⟨⟨i + 1, by omega, hlt, by go_num, trivial, NX.out⟩, by simp [intOf]; omega⟩
            · have NO := HNO (by simp only [nameCB, hcl, Bool.false_or, decide_eq_false_iff_not]; omega)
              have h4 : (((s[i]'hlt).toNat : Int) == 46) = false := beq_eq_false_iff_ne.2 h3
              clear HNX HNO hr hcl h3
              go_wp2_with (first
                | (go_at_call 83; with_reducible refine (LI.out _).mono ?_; rintro e w2 ⟨rfl, rfl⟩))
              go_ret
              rw [NO.out]
              exact ⟨rfl, Below.refl _ _⟩
      · have hin : i = s.size := by omega
        have HF : Hid (nameB s = true) := by
          show _ = _
          rw [HN.out]
          exact decide_eq_true (fun q hq h0 => HR.out q hq h0 (by omega))
        clear HR hin
        go_wp2
        go_ret
        rw [HF.out]
        exact ⟨rfl, Below.refl _ _⟩
end Go.Proofs.YtfmmmhcpdinhgaaDoor
