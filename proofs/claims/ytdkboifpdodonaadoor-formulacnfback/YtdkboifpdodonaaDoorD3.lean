/-
  The landed program's number, amount.
-/
import Derived.Test.YtdkboifpdodonaaDoorD2
namespace Go.Proofs.YtdkboifpdodonaaDoor
open Go.RowKit Go.Deep PureCnf
set_option maxRecDepth 100000

def numV (l : List UInt8) (most : Nat) : Int := if 0 ≤ numB l most then numB l most else 0
def numY (l : List UInt8) (most : Nat) : Bool := decide (0 ≤ numB l most)
theorem num_no {l : List UInt8} {most : Nat} (h : numB l most = -1) : numV l most = 0 ∧ numY l most = false := by
  unfold numV numY; rw [h]; simp
theorem num_yes {l : List UInt8} {most : Nat} {v : Nat} (h : numB l most = (v : Int)) : numV l most = v ∧ numY l most = true := by
  unfold numV numY; rw [h]; simp
theorem empty_size (s : ByteArray) (h : s.size = 0) : s = ⟨#[]⟩ := by
  apply ByteArray.ext
  exact Array.eq_empty_of_size_eq_zero h

theorem not_empty (s : ByteArray) (h : 0 < s.size) : s.toList.isEmpty = false := by
  rw [Lib.toList_data]
  cases hl : s.data.toList with
  | nil => have : s.data.toList.length = s.size := by simp
           rw [hl] at this; simp at this; omega
  | cons _ _ => rfl

set_option maxHeartbeats 2000000 in
theorem number33_any (s : ByteArray) (most : Nat) (w : World) (hs : s.size ≤ 1099511627776) (hm : most ≤ 1099511627776) :
    Calls Tryd.prog 100 #[.string s, .int .i64 (most : Int)] w fun e w' => e = .returned (.tuple #[.int .i64 (numV s.data.toList most), .bool (numY s.data.toList most)]) ∧ Below w.heap.size w w' := by
  have hlen : s.data.toList.length = s.size := by simp
  cases hp : plainB s.data.toList with
  | false =>
    have HN := hid (num_no (numB_plain (most := most) hp))
    by_cases h0 : s.size = 0
    · clear hp
      obtain rfl := empty_size s h0
      clear h0 hlen hs
      go_enter Tryd.func100, Tryd.ntmps100
      go_wp2
      go_ret2
      have h := HN.out
      exact ⟨by rw [show numV [] most = 0 from h.1, show numY [] most = false from h.2]; rfl, Below.refl _ _⟩
    · have h1 : 1 < s.size ∧ s.data.toList.head? = some 48 := by
        have hne : s.data.toList ≠ [] := fun e => h0 (by rw [← hlen, e]; rfl)
        simpa [plainB, hne] using hp
      obtain ⟨h2, h3⟩ := h1
      have h4 : (s[0].toNat : Int) = 48 := by
        rw [List.head?_eq_getElem?, List.getElem?_eq_getElem (by omega)] at h3
        have := Option.some.inj h3
        rw [list_at s 0 (by omega)] at this
        rw [this]; rfl
      have h5 := not_empty s (by omega)
      clear hp h0 h3
      go_enter Tryd.func100, Tryd.ntmps100
      go_wp2
      go_ret2
      rw [HN.out.1, HN.out.2]
      exact ⟨rfl, Below.refl _ _⟩
  | true =>
    have h0 : s.data.toList ≠ [] := fun e => by rw [e] at hp; simp [plainB] at hp
    have h1 : 0 < s.size := by
      rcases Nat.eq_zero_or_pos s.size with h | h
      · exact absurd (List.eq_nil_of_length_eq_zero (hlen.trans h)) h0
      · exact h
    have h2 : s.size = 1 ∨ (1 < s.size ∧ ((s[0].toNat : Int) == 48) = false) := by
      by_cases h : 1 < s.size
      · refine .inr ⟨h, ?_⟩
        have h3 : s.data.toList.head? ≠ some 48 := by simpa [plainB, h0, h] using hp
        rw [List.head?_eq_getElem?, List.getElem?_eq_getElem (by omega), list_at s 0 (by omega)] at h3
        have h4 : s[0].toNat ≠ 48 := fun e => h3 (by rw [← UInt8.toNat_inj.1 (show s[0].toNat = (48 : UInt8).toNat from e)])
        simp; omega
      · exact .inl (by omega)
    have h5 := not_empty s h1
    have HP := hid hp
    have HL := hid hlen
    have HC := fun r W => hid (isDigit_any r W)
    clear hp h0 hlen
    have h6 : (s.size = 1 ∧ (s[0].toNat : Int) = 48) ∨ (s.size = 1 ∧ ((s[0].toNat : Int) == 48) = false) ∨ (1 < s.size ∧ ((s[0].toNat : Int) == 48) = false) := by
      rcases h2 with h2 | h2
      · by_cases h : (s[0].toNat : Int) = 48
        · exact .inl ⟨h2, h⟩
        · exact .inr (.inl ⟨h2, by simpa using h⟩)
      · exact .inr (.inr h2)
    clear h2
    rcases h6 with ⟨h2, h6⟩ | ⟨h2, h6⟩ | ⟨h2, h6⟩
    all_goals
      go_enter Tryd.func100, Tryd.ntmps100
      go_wp2
      go_loopw [6] (fun n w' => ∃ k : Nat, w' = w.iter s k ∧ k ≤ s.size ∧ n = .int .i64 (valN (s.data.toList.take k) : Int) ∧ valN (s.data.toList.take k) ≤ most ∧ Hid ((s.data.toList.take k).all digB = true)) (fun _ w' => s.size - w'.iterPos w.heap.size)
      case atStart => exact ⟨0, rfl, Nat.zero_le _, rfl, Nat.zero_le _, rfl⟩
      case round =>
        obtain ⟨k, rfl, hk, rfl, hv, HA⟩ := hrel
        by_cases hlt : k < s.size
        · have hlt' : k < s.data.toList.length := by rw [HL.out]; exact hlt
          cases hd : digB s[k] with
          | false =>
            have hnx : ∀ ty, (Instr.next (.pointer (some ⟨w.heap.size, 0, none⟩)) true ty).run Tryd.prog (w.iter s k) = _ := fun ty => run_next_any w s k ty hlt
            obtain ⟨q1, q2, q3, q4⟩ := rune_step alike_dig s k hlt
            have hB := HC (Utf8.decode s k).1 (w.iter s (k + (Utf8.decode s k).2))
            rw [q3, hd] at hB
            have HN := hid (num_no (numB_off (most := most) hlt' hd))
            clear hd q3 q4
            go_wp2_with (go_at_call 134; refine hB.out.mono ?_; rintro e w' ⟨rfl, rfl⟩)
            go_ret2
            rw [HN.out.1, HN.out.2]
            exact ⟨rfl, below_iter _ _ _⟩
          | true =>
            have hr : 48 ≤ s[k].toNat ∧ s[k].toNat ≤ 57 := by simpa [digB] using hd
            have hnx : ∀ ty, (Instr.next (.pointer (some ⟨w.heap.size, 0, none⟩)) true ty).run Tryd.prog (w.iter s k) = _ := fun ty => run_next_ascii w s k ty hlt (by omega)
            have hB := HC s[k].toNat (w.iter s (k + 1))
            rw [digR_byte, hd] at hB
            have hv1 : Hid ((valN (s.data.toList.take (k + 1)) : Int) = 10 * (valN (s.data.toList.take k) : Int) + ((s[k].toNat : Int) - 48)) := by
              show _ = _
              rw [take_snoc _ k hlt', valN_snoc, list_at s k hlt]; omega
            have HA1 : Hid ((s.data.toList.take (k + 1)).all digB = true) := by
              show _ = _
              rw [take_snoc _ k hlt', List.all_append, HA.out, list_at s k hlt]
              simp [hd]
            clear hd
            obtain ⟨r1, r2⟩ := hr
            have r3 : (48 : Int) ≤ (s[k].toNat : Int) := by omega
            have r4 : (s[k].toNat : Int) ≤ 57 := by omega
            have r5 : (0 : Int) ≤ (valN (s.data.toList.take k) : Int) := by omega
            have r6 : (valN (s.data.toList.take k) : Int) ≤ 1099511627776 := by omega
            by_cases hgt : (most : Int) < 10 * (valN (s.data.toList.take k) : Int) + ((s[k].toNat : Int) - 48)
            · have HN := hid (num_no (numB_great (l := s.data.toList) (most := most) (k := k + 1) (by have := hv1.out; omega)))
              go_wp2_with (go_at_call 134; refine hB.out.mono ?_; rintro e w' ⟨rfl, rfl⟩)
              go_ret2
              rw [HN.out.1, HN.out.2]
              exact ⟨rfl, below_iter _ _ _⟩
            · go_wp2_with (go_at_call 134; refine hB.out.mono ?_; rintro e w' ⟨rfl, rfl⟩)
              go_roundw
              case rel => exact ⟨k + 1, rfl, hlt, by rw [hv1.out], by have := hv1.out; omega, HA1.out⟩
              case measure => simp; omega
        · have hnx : ∀ ty, (Instr.next (.pointer (some ⟨w.heap.size, 0, none⟩)) true ty).run Tryd.prog (w.iter s k) = _ := fun ty => run_next_end w s k ty hlt
          have HE : Hid (numV s.data.toList most = (valN (s.data.toList.take k) : Int) ∧ numY s.data.toList most = true) := by
            have e : s.data.toList.take k = s.data.toList := List.take_of_length_le (by rw [HL.out]; omega)
            have ha := HA.out
            rw [e] at ha hv ⊢
            exact num_yes (numB_end HP.out ha hv)
          go_wp2
          go_ret2
          rw [HE.out.1, HE.out.2]
          exact ⟨rfl, below_iter _ _ _⟩
end Go.Proofs.YtdkboifpdodonaaDoor
