/-
  The program's names.
-/
import Derived.Test.YtfmmmhcpdinhgaaDoorD1
namespace Go.Proofs.YtfmmmhcpdinhgaaDoor
open Go.RowKit Go.Deep PureNet
set_option maxRecDepth 100000

set_option maxHeartbeats 1000000 in
theorem begins_any (c : UInt8) (w : World) : Calls Tryd.prog 105 #[.int .u8 (c.toNat : Int)] w fun e w' => e = .returned (.bool (letB c)) ∧ w' = w := by
  have hc : (c.toNat : Int) ≤ 255 := by have := c.toNat_lt; omega
  by_cases h1 : 97 ≤ (c.toNat : Int)
  · by_cases h2 : (c.toNat : Int) ≤ 122
    · have HD : Hid (letB c = true) := by show _ = _; unfold letB; simp; omega
      go_enter Tryd.func105, Tryd.ntmps105
      go_wp2
      go_ret
      rw [HD.out]
      exact ⟨rfl, rfl⟩
    · have HD : Hid (letB c = false) := by show _ = _; unfold letB; simp; omega
      have h3 : 65 ≤ (c.toNat : Int) := by omega
      have h4 : ¬ (c.toNat : Int) ≤ 90 := by omega
      have h5 : ((c.toNat : Int) == 95) = false := beq_eq_false_iff_ne.2 (by omega)
      go_enter Tryd.func105, Tryd.ntmps105
      go_wp2
      go_ret
      rw [HD.out]
      exact ⟨rfl, rfl⟩
  · by_cases h3 : 65 ≤ (c.toNat : Int)
    · by_cases h4 : (c.toNat : Int) ≤ 90
      · have HD : Hid (letB c = true) := by show _ = _; unfold letB; simp; omega
        go_enter Tryd.func105, Tryd.ntmps105
        go_wp2
        go_ret
        rw [HD.out]
        exact ⟨rfl, rfl⟩
      · by_cases h5 : (c.toNat : Int) = 95
        · have HD : Hid (letB c = true) := by show _ = _; unfold letB; simp; omega
          go_enter Tryd.func105, Tryd.ntmps105
          go_wp2
          go_ret
          rw [HD.out]
          exact ⟨rfl, rfl⟩
        · have HD : Hid (letB c = false) := by show _ = _; unfold letB; simp; omega
          have h6 : ((c.toNat : Int) == 95) = false := beq_eq_false_iff_ne.2 h5
          clear h5
          go_enter Tryd.func105, Tryd.ntmps105
          go_wp2
          go_ret
          rw [HD.out]
          exact ⟨rfl, rfl⟩
    · have HD : Hid (letB c = false) := by show _ = _; unfold letB; simp; omega
      have h5 : ((c.toNat : Int) == 95) = false := beq_eq_false_iff_ne.2 (by omega)
      go_enter Tryd.func105, Tryd.ntmps105
      go_wp2
      go_ret
      rw [HD.out]
      exact ⟨rfl, rfl⟩

def goB (c : UInt8) : Bool := decide ((48 ≤ c.toNat ∧ c.toNat ≤ 57) ∨ c.toNat = 46)
set_option maxHeartbeats 1000000 in
theorem goesOn_any (c : UInt8) (w : World) : Calls Tryd.prog 106 #[.int .u8 (c.toNat : Int)] w fun e w' => e = .returned (.bool (goB c)) ∧ w' = w := by
  have hc : (c.toNat : Int) ≤ 255 := by have := c.toNat_lt; omega
  by_cases h1 : 48 ≤ (c.toNat : Int)
  · by_cases h2 : (c.toNat : Int) ≤ 57
    · have HD : Hid (goB c = true) := by show _ = _; unfold goB; simp; omega
      go_enter Tryd.func106, Tryd.ntmps106
      go_wp2
      go_ret
      rw [HD.out]
      exact ⟨rfl, rfl⟩
    · have HD : Hid (goB c = false) := by show _ = _; unfold goB; simp; omega
      have h5 : ((c.toNat : Int) == 46) = false := beq_eq_false_iff_ne.2 (by omega)
      go_enter Tryd.func106, Tryd.ntmps106
      go_wp2
      go_ret
      rw [HD.out]
      exact ⟨rfl, rfl⟩
  · by_cases h5 : (c.toNat : Int) = 46
    · have HD : Hid (goB c = true) := by show _ = _; unfold goB; simp; omega
      go_enter Tryd.func106, Tryd.ntmps106
      go_wp2
      go_ret
      rw [HD.out]
      exact ⟨rfl, rfl⟩
    · have HD : Hid (goB c = false) := by show _ = _; unfold goB; simp; omega
      have h6 : ((c.toNat : Int) == 46) = false := beq_eq_false_iff_ne.2 h5
      clear h5
      go_enter Tryd.func106, Tryd.ntmps106
      go_wp2
      go_ret
      rw [HD.out]
      exact ⟨rfl, rfl⟩

theorem nameB_all (s : ByteArray) (h0 : 0 < s.size) (h1 : s.size ≤ 32) (h : ∀ q, (hq : q < s.size) → letB (s[q]'hq) = true ∨ (0 < q ∧ goB (s[q]'hq) = true)) : nameB s = true := by
  rw [nameB_of s h0 h1, Bool.and_eq_true]
  refine ⟨?_, decide_eq_true fun q hq hp => ?_⟩
  · rcases h 0 h0 with h | ⟨h, _⟩
    · exact h
    · omega
  · unfold nameCB
    rcases h q hq with h | ⟨_, h⟩
    · rw [h]; rfl
    · unfold goB at h; rw [h]; simp
theorem nameB_not (s : ByteArray) (q : Nat) (hq : q < s.size) (h1 : letB (s[q]'hq) = false) (h2 : q = 0 ∨ goB (s[q]'hq) = false) : nameB s = false := by
  by_cases h32 : 32 < s.size
  · exact nameB_long s h32
  rw [nameB_of s (by omega) (by omega)]
  by_cases h0 : q = 0
  · subst h0
    rw [h1, Bool.false_and]
  · rw [decide_eq_false, Bool.and_false]
    intro h
    have := h q hq (by omega)
    unfold nameCB at this
    rw [h1, Bool.false_or] at this
    rcases h2 with h2 | h2
    · exact h0 h2
    · unfold goB at h2; rw [h2] at this; cases this

set_option maxHeartbeats 2000000 in
theorem isName_any (s : ByteArray) (w : World) (hs : s.size ≤ 140737488351232) : Calls Tryd.prog 78 #[.string s] w fun e w' => e = .returned (.bool (nameB s)) ∧ w' = w := by
  by_cases h0 : s.size = 0
  · have e0 : s = ⟨#[]⟩ := by
      obtain ⟨d⟩ := s
      congr
      exact Array.eq_empty_of_size_eq_zero h0
    subst e0
    have HD : Hid (nameB ⟨#[]⟩ = false) := rfl
    go_enter Tryd.func78, Tryd.ntmps78
    go_wp2
    go_ret
    refine ⟨?_, rfl⟩
    rw [HD.out]
    rfl
  have hneb : s.toList.isEmpty = false := by
    rw [ByteArray.toList_eq]
    cases h : s.data.toList with
    | nil => exact absurd (by simpa using congrArg List.length h) h0
    | cons a l => rfl
  by_cases h32 : 32 < s.size
  · have HD := hid (nameB_long s h32)
    have h33 : (32 : Int) < (s.size : Int) := by omega
    go_enter Tryd.func78, Tryd.ntmps78
    go_wp2
    go_ret
    rw [HD.out]
    exact ⟨rfl, rfl⟩
  have h33 : ¬ (32 : Int) < (s.size : Int) := by omega
  go_enter Tryd.func78, Tryd.ntmps78
  go_wp2
  go_loopw [14] (fun iv W => ∃ i : Nat, i ≤ s.size ∧ iv = .int .i64 (i : Int) ∧ W = w ∧ Hid (∀ q, (hq : q < s.size) → q < i → letB (s[q]'hq) = true ∨ (0 < q ∧ goB (s[q]'hq) = true))) (fun iv _ => s.size - (intOf iv).toNat)
  case atStart => exact ⟨0, Nat.zero_le _, rfl, rfl, fun q _ h => by omega⟩
  case round =>
    obtain ⟨i, hi, rfl, rfl, HR⟩ := hrel
    by_cases hlt : i < s.size
    · have hr := HR.out
      clear HR
      have LI := hid (fun W => begins_any (s[i]'hlt) W)
      have GI := hid (fun W => goesOn_any (s[i]'hlt) W)
      have NX : (letB (s[i]'hlt) = true ∨ (0 < i ∧ goB (s[i]'hlt) = true)) → Hid (∀ q, (hq : q < s.size) → q < i + 1 → letB (s[q]'hq) = true ∨ (0 < q ∧ goB (s[q]'hq) = true)) := fun h q hq h1 => by
        by_cases e : q = i
        · subst e; exact h
        · exact hr q hq (by omega)
      have NO : letB (s[i]'hlt) = false → (i = 0 ∨ goB (s[i]'hlt) = false) → Hid (nameB s = false) := fun h1 h2 => nameB_not s i hlt h1 h2
      clear hr
      cases hcl : letB (s[i]'hlt) with
      | true =>
        have HN := NX (.inl hcl)
        rw [hcl] at LI
        clear NX NO hcl
        go_wp2_with (first | (go_at_call 105; with_reducible refine (LI.out _).mono ?_; rintro e w2 ⟨rfl, rfl⟩))
        exact ⟨⟨i + 1, hlt, by go_num, by first | rfl | trivial, HN.out⟩, by simp [intOf]; omega⟩
      | false =>
        rw [hcl] at LI
        by_cases hi0 : i = 0
        · have HN := NO hcl (.inl hi0)
          have hib : ((i : Int) == 0) = true := by rw [hi0]; rfl
          clear NX NO hcl hi0
          go_wp2_with (first | (go_at_call 105; with_reducible refine (LI.out _).mono ?_; rintro e w2 ⟨rfl, rfl⟩))
          go_ret
          rw [HN.out]
          exact ⟨rfl, rfl⟩
        · have hib : ((i : Int) == 0) = false := beq_eq_false_iff_ne.2 (by omega)
          cases hcg : goB (s[i]'hlt) with
          | true =>
            have HN := NX (.inr ⟨by omega, hcg⟩)
            rw [hcg] at GI
            clear NX NO hcl hcg
            go_wp2_with (first | (go_at_call 106; with_reducible refine (GI.out _).mono ?_; rintro e w2 ⟨rfl, rfl⟩) | (go_at_call 105; with_reducible refine (LI.out _).mono ?_; rintro e w2 ⟨rfl, rfl⟩))
            exact ⟨⟨i + 1, hlt, by go_num, by first | rfl | trivial, HN.out⟩, by simp [intOf]; omega⟩
          | false =>
            have HN := NO hcl (.inr hcg)
            rw [hcg] at GI
            clear NX NO hcl hcg
            go_wp2_with (first | (go_at_call 106; with_reducible refine (GI.out _).mono ?_; rintro e w2 ⟨rfl, rfl⟩) | (go_at_call 105; with_reducible refine (LI.out _).mono ?_; rintro e w2 ⟨rfl, rfl⟩))
            go_ret
            rw [HN.out]
            exact ⟨rfl, rfl⟩
    · have HF : Hid (nameB s = true) := nameB_all s (by omega) (by omega) (fun q hq => HR.out q hq (by omega))
      clear HR
      go_wp2
      go_ret
      rw [HF.out]
      exact ⟨rfl, rfl⟩
end Go.Proofs.YtfmmmhcpdinhgaaDoor
