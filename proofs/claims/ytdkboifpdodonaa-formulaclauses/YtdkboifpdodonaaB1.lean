/-
  The document's own digit, white, number.
-/
import Derived.Test.YtdkboifpdodonaaA0
import Derived.Test.YtdkboifpdodonaaNum
namespace Go.Proofs.Ytdkboifpdodonaa
open Go.RowKit Go.Deep PureCnf

def whiteB (c : UInt8) : Bool := decide (c.toNat = 32 ∨ c.toNat = 9 ∨ c.toNat = 13)

set_option maxHeartbeats 400000 in
theorem digit_any (c : UInt8) (w : World) : Calls Try.prog 29 #[.int .u8 (c.toNat : Int)] w fun e w' => e = .returned (.bool (digB c)) ∧ w' = w := by
  by_cases h1 : 48 ≤ (c.toNat : Int)
  · by_cases h2 : (c.toNat : Int) ≤ 57
    · have HD : Hid (digB c = true) := by show _ = _; unfold digB; simp; omega
      go_enter Try.func29, Try.ntmps29
      go_wp2
      go_ret
      rw [HD.out]
      exact ⟨rfl, rfl⟩
    · have HD : Hid (digB c = false) := by show _ = _; unfold digB; simp; omega
      go_enter Try.func29, Try.ntmps29
      go_wp2
      go_ret
      rw [HD.out]
      exact ⟨rfl, rfl⟩
  · have HD : Hid (digB c = false) := by show _ = _; unfold digB; simp; omega
    go_enter Try.func29, Try.ntmps29
    go_wp2
    go_ret
    rw [HD.out]
    exact ⟨rfl, rfl⟩

set_option maxHeartbeats 400000 in
theorem white_any (c : UInt8) (w : World) : Calls Try.prog 17 #[.int .u8 (c.toNat : Int)] w fun e w' => e = .returned (.bool (whiteB c)) ∧ w' = w := by
  by_cases h1 : (c.toNat : Int) = 32
  · have HD : Hid (whiteB c = true) := by show _ = _; unfold whiteB; simp; omega
    rw [h1]
    clear h1
    go_enter Try.func17, Try.ntmps17
    go_wp2
    go_ret
    rw [HD.out]
    exact ⟨rfl, rfl⟩
  · by_cases h2 : (c.toNat : Int) = 9
    · have HD : Hid (whiteB c = true) := by show _ = _; unfold whiteB; simp; omega
      rw [h2]
      clear h2 h1
      go_enter Try.func17, Try.ntmps17
      go_wp2
      go_ret
      rw [HD.out]
      exact ⟨rfl, rfl⟩
    · by_cases h3 : (c.toNat : Int) = 13
      · have HD : Hid (whiteB c = true) := by show _ = _; unfold whiteB; simp; omega
        rw [h3]
        clear h2 h1 h3
        go_enter Try.func17, Try.ntmps17
        go_wp2
        go_ret
        rw [HD.out]
        exact ⟨rfl, rfl⟩
      · have HD : Hid (whiteB c = false) := by show _ = _; unfold whiteB; simp; omega
        have g1 : ((c.toNat : Int) == 32) = false := by simp; omega
        have g2 : ((c.toNat : Int) == 9) = false := by simp; omega
        have g3 : ((c.toNat : Int) == 13) = false := by simp; omega
        clear h1 h2 h3
        go_enter Try.func17, Try.ntmps17
        go_wp2
        go_ret
        rw [HD.out]
        exact ⟨rfl, rfl⟩

theorem list_at (s : ByteArray) (k : Nat) (h : k < s.size) : s.data.toList[k]'(by simpa using h) = s[k] := rfl

set_option maxHeartbeats 1000000 in
theorem number_any (s : ByteArray) (most : Nat) (w : World) (hs : s.size ≤ 1099511627776) (hm : most ≤ 1099511627776) :
    Calls Try.prog 18 #[.string s, .int .i64 (most : Int)] w fun e w' => e = .returned (.int .i64 (numB s.data.toList most)) ∧ w' = w := by
  have hlen : s.data.toList.length = s.size := by simp
  cases hp : plainB s.data.toList with
  | false =>
    have HN := hid (numB_plain (most := most) hp)
    by_cases h0 : s.size = 0
    · clear hp
      go_enter Try.func18, Try.ntmps18
      go_wp2
      go_ret
      rw [HN.out]
      exact ⟨rfl, rfl⟩
    · have h1 : 1 < s.size ∧ s.data.toList.head? = some 48 := by
        have hne : s.data.toList ≠ [] := fun e => h0 (by rw [← hlen, e]; rfl)
        simpa [plainB, hne] using hp
      obtain ⟨h2, h3⟩ := h1
      have h4 : (s[0].toNat : Int) = 48 := by
        rw [List.head?_eq_getElem?, List.getElem?_eq_getElem (by omega)] at h3
        have := Option.some.inj h3
        rw [list_at s 0 (by omega)] at this
        rw [this]; rfl
      have h5 : ((s.size : Int) == 0) = false := by rw [beq_eq_false_iff_ne]; omega
      clear hp h0 h3
      go_enter Try.func18, Try.ntmps18
      go_wp2
      go_ret
      rw [HN.out]
      exact ⟨rfl, rfl⟩
  | true =>
    have h0 : s.data.toList ≠ [] := fun e => by rw [e] at hp; simp [plainB] at hp
    have h1 : 0 < s.size := by
      rcases Nat.eq_zero_or_pos s.size with h | h
      · exact absurd (List.eq_nil_of_length_eq_zero (hlen.trans h)) h0
      · exact h
    have h2 : s.size = 1 ∨ (1 < s.size ∧ ((s[0].toNat : Int) == 48) = false) := by
      by_cases h : 1 < s.size
      · refine .inr ⟨h, ?_⟩
        have h3 : s.data.toList.head? ≠ some 48 := by simpa [plainB, h0, h] using hp
        rw [List.head?_eq_getElem?, List.getElem?_eq_getElem (by omega), list_at s 0 (by omega)] at h3
        have h4 : s[0].toNat ≠ 48 := fun e => h3 (by rw [← UInt8.toNat_inj.1 (show s[0].toNat = (48 : UInt8).toNat from e)])
        simp; omega
      · exact .inl (by omega)
    have h5 : ((s.size : Int) == 0) = false := by rw [beq_eq_false_iff_ne]; omega
    have HP := hid hp
    have HL := hid hlen
    clear hp h0 hlen
    rcases h2 with h2 | ⟨h2, h6⟩
    all_goals
      go_enter Try.func18, Try.ntmps18
      go_wp2
      go_loop [5, 6] (fun n i => ∃ k : Nat, k ≤ s.size ∧ i = .int .i64 k ∧ n = .int .i64 (valN (s.data.toList.take k) : Int) ∧ valN (s.data.toList.take k) ≤ most ∧ Hid ((s.data.toList.take k).all digB = true)) (fun _ i => s.size - (intOf i).toNat)
      case atStart => exact ⟨0, Nat.zero_le _, rfl, rfl, Nat.zero_le _, rfl⟩
      case round =>
        obtain ⟨k, hk, rfl, rfl, hv, HA⟩ := hrel
        by_cases hlt : k < s.size
        · have hlt' : k < s.data.toList.length := by rw [HL.out]; exact hlt
          have HDG := hid (digit_any s[k] w)
          cases hd : digB s[k] with
          | false =>
            rw [hd] at HDG
            have HN := hid (numB_off (most := most) hlt' hd)
            clear hd
            go_wp2_with (go_at_call 29; refine HDG.out.mono ?_; rintro e w' ⟨rfl, rfl⟩)
            go_ret
            rw [HN.out]
            exact ⟨rfl, rfl⟩
          | true =>
            rw [hd] at HDG
            have hr : 48 ≤ s[k].toNat ∧ s[k].toNat ≤ 57 := by simpa [digB] using hd
            have hv1 : Hid ((valN (s.data.toList.take (k + 1)) : Int) = 10 * (valN (s.data.toList.take k) : Int) + ((s[k].toNat : Int) - 48)) := by
              show _ = _
              rw [take_snoc _ k hlt', valN_snoc, list_at s k hlt]; omega
            have HA1 : Hid ((s.data.toList.take (k + 1)).all digB = true) := by
              show _ = _
              rw [take_snoc _ k hlt', List.all_append, HA.out, list_at s k hlt]
              simp [hd]
            clear hd
            obtain ⟨r1, r2⟩ := hr
            have r3 : (48 : Int) ≤ (s[k].toNat : Int) := by omega
            have r4 : (s[k].toNat : Int) ≤ 57 := by omega
            have r5 : (0 : Int) ≤ (valN (s.data.toList.take k) : Int) := by omega
            have r6 : (valN (s.data.toList.take k) : Int) ≤ 1099511627776 := by omega
            by_cases hgt : (most : Int) < 10 * (valN (s.data.toList.take k) : Int) + ((s[k].toNat : Int) - 48)
            · have HN := hid (numB_great (l := s.data.toList) (most := most) (k := k + 1) (by have := hv1.out; omega))
              go_wp2_with (go_at_call 29; refine HDG.out.mono ?_; rintro e w' ⟨rfl, rfl⟩)
              go_ret
              rw [HN.out]
              exact ⟨rfl, rfl⟩
            · go_wp2_with (go_at_call 29; refine HDG.out.mono ?_; rintro e w' ⟨rfl, rfl⟩)
              exact ⟨⟨k + 1, hlt, by go_num, by rw [hv1.out], by have := hv1.out; omega, HA1.out⟩, by simp [intOf]; omega⟩
        · have HE : Hid (numB s.data.toList most = (valN (s.data.toList.take k) : Int)) := by
            show _ = _
            have e : s.data.toList.take k = s.data.toList := List.take_of_length_le (by rw [HL.out]; omega)
            have ha := HA.out
            rw [e] at ha hv ⊢
            exact numB_end HP.out ha hv
          go_wp2
          go_ret
          rw [HE.out]
          exact ⟨rfl, rfl⟩
end Go.Proofs.Ytdkboifpdodonaa
