import Derived.Test.YtkielflmpodapaaC1
namespace Go.Proofs.Ytkielflmpodapaa
open Go.RowKit

theorem sound_of {o0 o1 o2 o3 : Int} {k : Nat} (hk : k = 4) (h : ∀ j : Nat, j < k → cnt o0 o1 o2 o3 (j : Int) = 1) : SoundO o0 o1 o2 o3 := by
  subst hk
  have a := h 0 (by omega)
  have b := h 1 (by omega)
  have c := h 2 (by omega)
  have d := h 3 (by omega)
  exact ⟨by simpa using a, by simpa using b, by simpa using c, by simpa using d⟩

theorem not_sound_at {o0 o1 o2 o3 : Int} {k : Nat} (hk : k < 4) (h : ¬ cnt o0 o1 o2 o3 (k : Int) = 1) : ¬ SoundO o0 o1 o2 o3 := by
  rintro ⟨a, b, c, d⟩
  have : k = 0 ∨ k = 1 ∨ k = 2 ∨ k = 3 := by omega
  rcases this with rfl | rfl | rfl | rfl
  · exact h (by simpa using a)
  · exact h (by simpa using b)
  · exact h (by simpa using c)
  · exact h (by simpa using d)

set_option maxHeartbeats 1000000 in
theorem soundR (o0 o1 o2 o3 : Int) (w : World) :
    Calls Try.prog 9 #[.agg #[.int .i64 o0, .int .i64 o1, .int .i64 o2, .int .i64 o3]] w fun e w' =>
      e = .returned (.bool (decide (SoundO o0 o1 o2 o3))) ∧ w' = w.alloc (.cells #[.int .i64 o0, .int .i64 o1, .int .i64 o2, .int .i64 o3] 23) := by
  obtain ⟨bb, hb⟩ : ∃ b, b = decide (SoundO o0 o1 o2 o3) := ⟨_, rfl⟩
  rw [← hb]
  have HB := hid hb
  clear hb
  go_enter Try.func9, Try.ntmps9
  go_wp2
  go_loopw [3] (fun v W => ∃ k : Nat, k ≤ 4 ∧ v = .int .i64 k ∧ (∀ j : Nat, j < k → cnt o0 o1 o2 o3 (j : Int) = 1) ∧
      W = w.alloc (.cells #[.int .i64 o0, .int .i64 o1, .int .i64 o2, .int .i64 o3] 23))
    (fun i _ => 4 - (intOf i).toNat)
  case atStart => exact ⟨0, Nat.zero_le _, rfl, fun j hj => by omega, rfl⟩
  case round =>
    obtain ⟨k, hk, rfl, hj0, rfl⟩ := hrel
    have hj := hid hj0
    clear hj0
    by_cases hlt : k < 4
    · have hkI : (k : Int) < 4 := by omega
      have hwk : wrap64 ((k : Int) + 1) = (k : Int) + 1 := IntWalk.wrap64_in _ ⟨by omega, by omega⟩
      go_wp2
      go_loopw [4, 5] (fun n i W => ∃ m : Nat, m ≤ 4 ∧ i = .int .i64 m ∧ n = .int .i64 (part o0 o1 o2 o3 m (k : Int)) ∧
          W = w.alloc (.cells #[.int .i64 o0, .int .i64 o1, .int .i64 o2, .int .i64 o3] 23))
        (fun _ i _ => 4 - (intOf i).toNat)
      case atStart => exact ⟨0, Nat.zero_le _, rfl, by simp [part], rfl⟩
      case round =>
        obtain ⟨m, hm, rfl, rfl, rfl⟩ := hrel
        by_cases hml : m < 4
        · have b0 := part_in o0 o1 o2 o3 m (k : Int)
          have s0 := hid (part_succ o0 o1 o2 o3 m hml (k : Int))
          obtain ⟨q, hq⟩ : ∃ q, q = part o0 o1 o2 o3 m (k : Int) := ⟨_, rfl⟩
          rw [← hq] at b0 s0 ⊢
          clear hq hk hlt
          have hwq : wrap64 (q + 1) = q + 1 := IntWalk.wrap64_in _ ⟨by omega, by omega⟩
          have hm4 : m = 0 ∨ m = 1 ∨ m = 2 ∨ m = 3 := by omega
          rcases hm4 with rfl | rfl | rfl | rfl
          · by_cases hx : o0 = (k : Int)
            · have hbx : (o0 == (k : Int)) = true := by simp [hx]
              have s1 : Hid (part o0 o1 o2 o3 1 (k : Int) = q + 1) := hid (by rw [s0.out]; simp [hit, nth, hx])
              clear hx s0
              go_wp2
              exact ⟨⟨1, by omega, by go_num, by rw [s1.out], trivial⟩, by simp [intOf]⟩
            · have hbx : (o0 == (k : Int)) = false := by simp [hx]
              have s1 : Hid (part o0 o1 o2 o3 1 (k : Int) = q) := hid (by rw [s0.out]; simp [hit, nth, hx])
              clear hx s0
              go_wp2
              exact ⟨⟨1, by omega, by go_num, by rw [s1.out], trivial⟩, by simp [intOf]⟩
          · by_cases hx : o1 = (k : Int)
            · have hbx : (o1 == (k : Int)) = true := by simp [hx]
              have s1 : Hid (part o0 o1 o2 o3 2 (k : Int) = q + 1) := hid (by rw [s0.out]; simp [hit, nth, hx])
              clear hx s0
              go_wp2
              exact ⟨⟨2, by omega, by go_num, by rw [s1.out], trivial⟩, by simp [intOf]⟩
            · have hbx : (o1 == (k : Int)) = false := by simp [hx]
              have s1 : Hid (part o0 o1 o2 o3 2 (k : Int) = q) := hid (by rw [s0.out]; simp [hit, nth, hx])
              clear hx s0
              go_wp2
              exact ⟨⟨2, by omega, by go_num, by rw [s1.out], trivial⟩, by simp [intOf]⟩
          · by_cases hx : o2 = (k : Int)
            · have hbx : (o2 == (k : Int)) = true := by simp [hx]
              have s1 : Hid (part o0 o1 o2 o3 3 (k : Int) = q + 1) := hid (by rw [s0.out]; simp [hit, nth, hx])
              clear hx s0
              go_wp2
              exact ⟨⟨3, by omega, by go_num, by rw [s1.out], trivial⟩, by simp [intOf]⟩
            · have hbx : (o2 == (k : Int)) = false := by simp [hx]
              have s1 : Hid (part o0 o1 o2 o3 3 (k : Int) = q) := hid (by rw [s0.out]; simp [hit, nth, hx])
              clear hx s0
              go_wp2
              exact ⟨⟨3, by omega, by go_num, by rw [s1.out], trivial⟩, by simp [intOf]⟩
          · by_cases hx : o3 = (k : Int)
            · have hbx : (o3 == (k : Int)) = true := by simp [hx]
              have s1 : Hid (part o0 o1 o2 o3 4 (k : Int) = q + 1) := hid (by rw [s0.out]; simp [hit, nth, hx])
              clear hx s0
              go_wp2
              exact ⟨⟨4, by omega, by go_num, by rw [s1.out], trivial⟩, by simp [intOf]⟩
            · have hbx : (o3 == (k : Int)) = false := by simp [hx]
              have s1 : Hid (part o0 o1 o2 o3 4 (k : Int) = q) := hid (by rw [s0.out]; simp [hit, nth, hx])
              clear hx s0
              go_wp2
              exact ⟨⟨4, by omega, by go_num, by rw [s1.out], trivial⟩, by simp [intOf]⟩
        · obtain rfl : m = 4 := by omega
          rw [part_four]
          by_cases hc : cnt o0 o1 o2 o3 (k : Int) = 1
          · have hbc : (cnt o0 o1 o2 o3 (k : Int) == 1) = true := by simp [hc]
            have hall : Hid (∀ j : Nat, j < k + 1 → cnt o0 o1 o2 o3 (j : Int) = 1) := hid (fun j hjk => by
              by_cases e : j = k
              · subst e; exact hc
              · exact hj.out j (by omega))
            rw [hc]
            clear hc hbc hj
            go_wp2
            go_roundw
            case rel => exact ⟨k + 1, by omega, by go_num, hall.out, trivial⟩
            case measure => simp [intOf]; omega
          · have hbc : (cnt o0 o1 o2 o3 (k : Int) == 1) = false := by simp [hc]
            have hns : Hid (bb = false) := hid (by rw [HB.out]; exact decide_eq_false (not_sound_at hlt hc))
            clear hc hj
            go_wp2
            go_ret
            exact ⟨by rw [hns.out]; rfl, rfl⟩
    · obtain rfl : k = 4 := by omega
      have hns : Hid (bb = true) := hid (by rw [HB.out]; exact decide_eq_true (sound_of rfl hj.out))
      go_wp2
      go_ret
      exact ⟨by rw [hns.out]; rfl, rfl⟩

end Go.Proofs.Ytkielflmpodapaa
