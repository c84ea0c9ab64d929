/-
  The landed program's run.
-/
import Derived.Test.YtdkboifpdodonaaDoorD1
namespace Go.Proofs.YtdkboifpdodonaaDoor
open Go.RowKit Go.Deep PureCnf
set_option maxRecDepth 100000

set_option maxHeartbeats 1000000 in
theorem runB_any (s : ByteArray) (w : World) :
    Calls Tryd.prog 75 #[.string s, .func (.func 76) #[] #[]] w fun e w' => e = .returned (str (s.data.toList.takeWhile whB)) ∧ Below w.heap.size w w' := by
  have hlen : s.data.toList.length = s.size := by simp
  have HC := fun r W => hid (isBlank_any r W)
  have HL := hid hlen
  clear hlen
  go_enter Tryd.func75, Tryd.ntmps75
  go_wp2
  go_loopw [5] (fun _ w' => ∃ pos : Nat, w' = w.iter s pos ∧ pos ≤ s.size ∧ Hid ((s.data.toList.take pos).all whB = true)) (fun _ w' => s.size - w'.iterPos w.heap.size)
  case atStart => exact ⟨0, rfl, Nat.zero_le _, rfl⟩
  case round =>
    obtain ⟨pos, rfl, hle, HA⟩ := hrel
    by_cases hp : pos < s.size
    · have hnx : ∀ ty, (Instr.next (.pointer (some ⟨w.heap.size, 0, none⟩)) true ty).run Tryd.prog (w.iter s pos) = _ := fun ty => run_next_any w s pos ty hp
      obtain ⟨q1, q2, q3, q4⟩ := rune_step alike_wh s pos hp
      have hB := HC (Utf8.decode s pos).1 (w.iter s (pos + (Utf8.decode s pos).2))
      simp only [q3] at hB
      cases hd : whB s[pos] with
      | true =>
        rw [hd] at hB
        have HA1 : Hid ((s.data.toList.take (pos + (Utf8.decode s pos).2)).all whB = true) := by
          refine all_more HA.out (fun j hj a b => ?_)
          have hj' : j < s.size := by rw [← HL.out]; exact hj
          rw [list_at s j hj', q4 j hj' a b, hd]
        have HQ := hid q4
        have HQ3 := hid q3
        clear q3 q4 hd
        go_wp2_with (go_at_call 76; refine hB.out.mono ?_; rintro e w' ⟨rfl, rfl⟩)
        go_roundw
        case rel => exact ⟨_, rfl, q2, HA1.out⟩
        case measure => simp; omega
      | false =>
        rw [hd] at hB
        have HT : Hid (s.data.toList.takeWhile whB = s.data.toList.take pos) := tw_take (by rw [HL.out]; omega) HA.out (fun h => by rw [list_at s pos hp]; exact hd)
        clear q3 q4 hd
        go_wp2_with (go_at_call 76; refine hB.out.mono ?_; rintro e w' ⟨rfl, rfl⟩)
        go_ret
        refine ⟨?_, below_iter _ _ _⟩
        rw [HT.out, Lib.extract_eq]
        simp
    · have hnx : ∀ ty, (Instr.next (.pointer (some ⟨w.heap.size, 0, none⟩)) true ty).run Tryd.prog (w.iter s pos) = _ := fun ty => run_next_end w s pos ty hp
      have HT : Hid (s.data.toList.takeWhile whB = s.data.toList) := by
        have := tw_take (p := whB) (l := s.data.toList) (k := pos) (by rw [HL.out]; omega) HA.out (fun h => absurd h (by rw [HL.out]; omega))
        show _ = _
        rw [this, List.take_of_length_le (by rw [HL.out]; omega)]
      go_wp2
      go_ret
      refine ⟨?_, below_iter _ _ _⟩
      rw [HT.out]
      show _ = Ending.returned (.string ⟨s.data.toList.toArray⟩)
      rw [Lib.mk_data]
      rfl

set_option maxHeartbeats 1000000 in
theorem runN_any (s : ByteArray) (w : World) :
    Calls Tryd.prog 75 #[.string s, .func (.func 78) #[] #[]] w fun e w' => e = .returned (str (s.data.toList.takeWhile inkB)) ∧ Below w.heap.size w w' := by
  have hlen : s.data.toList.length = s.size := by simp
  have HC := fun r W => hid (isNoBlank_any r W)
  have HL := hid hlen
  clear hlen
  go_enter Tryd.func75, Tryd.ntmps75
  go_wp2
  go_loopw [5] (fun _ w' => ∃ pos : Nat, w' = w.iter s pos ∧ pos ≤ s.size ∧ Hid ((s.data.toList.take pos).all inkB = true)) (fun _ w' => s.size - w'.iterPos w.heap.size)
  case atStart => exact ⟨0, rfl, Nat.zero_le _, rfl⟩
  case round =>
    obtain ⟨pos, rfl, hle, HA⟩ := hrel
    by_cases hp : pos < s.size
    · have hnx : ∀ ty, (Instr.next (.pointer (some ⟨w.heap.size, 0, none⟩)) true ty).run Tryd.prog (w.iter s pos) = _ := fun ty => run_next_any w s pos ty hp
      obtain ⟨q1, q2, q3, q4⟩ := rune_step alike_ink s pos hp
      have hB := HC (Utf8.decode s pos).1 (w.iter s (pos + (Utf8.decode s pos).2))
      simp only [q3] at hB
      cases hd : inkB s[pos] with
      | true =>
        rw [hd] at hB
        have HA1 : Hid ((s.data.toList.take (pos + (Utf8.decode s pos).2)).all inkB = true) := by
          refine all_more HA.out (fun j hj a b => ?_)
          have hj' : j < s.size := by rw [← HL.out]; exact hj
          rw [list_at s j hj', q4 j hj' a b, hd]
        have HQ := hid q4
        have HQ3 := hid q3
        clear q3 q4 hd
        go_wp2_with (go_at_call 78; refine hB.out.mono ?_; rintro e w' ⟨rfl, rfl⟩)
        go_roundw
        case rel => exact ⟨_, rfl, q2, HA1.out⟩
        case measure => simp; omega
      | false =>
        rw [hd] at hB
        have HT : Hid (s.data.toList.takeWhile inkB = s.data.toList.take pos) := tw_take (by rw [HL.out]; omega) HA.out (fun h => by rw [list_at s pos hp]; exact hd)
        clear q3 q4 hd
        go_wp2_with (go_at_call 78; refine hB.out.mono ?_; rintro e w' ⟨rfl, rfl⟩)
        go_ret
        refine ⟨?_, below_iter _ _ _⟩
        rw [HT.out, Lib.extract_eq]
        simp
    · have hnx : ∀ ty, (Instr.next (.pointer (some ⟨w.heap.size, 0, none⟩)) true ty).run Tryd.prog (w.iter s pos) = _ := fun ty => run_next_end w s pos ty hp
      have HT : Hid (s.data.toList.takeWhile inkB = s.data.toList) := by
        have := tw_take (p := inkB) (l := s.data.toList) (k := pos) (by rw [HL.out]; omega) HA.out (fun h => absurd h (by rw [HL.out]; omega))
        show _ = _
        rw [this, List.take_of_length_le (by rw [HL.out]; omega)]
      go_wp2
      go_ret
      refine ⟨?_, below_iter _ _ _⟩
      rw [HT.out]
      show _ = Ending.returned (.string ⟨s.data.toList.toArray⟩)
      rw [Lib.mk_data]
      rfl
end Go.Proofs.YtdkboifpdodonaaDoor
