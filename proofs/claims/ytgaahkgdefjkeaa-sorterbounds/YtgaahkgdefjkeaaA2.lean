import Derived.Test.YtgaahkgdefjkeaaA1
namespace Go.Proofs.Ytgaahkgdefjkeaa
open Go.RowKit

theorem most_great {b : Int} {k : Nat} (h : 9223372036854775807 / ((k : Int) + 1) < b) : most b k = 9223372036854775807 := by unfold most; rw [if_pos h]
theorem most_small {b : Int} {k : Nat} (h : ¬ 9223372036854775807 / ((k : Int) + 1) < b) : most b k = b * ((k : Int) + 1) := by unfold most; rw [if_neg h]
theorem most_fits {b : Int} {k : Nat} (h : ¬ 9223372036854775807 / ((k : Int) + 1) < b) (hb : 1 ≤ b) : 0 ≤ b * ((k : Int) + 1) ∧ b * ((k : Int) + 1) ≤ 9223372036854775807 :=
  ⟨Int.mul_nonneg (by omega) (by omega), Int.mul_le_of_le_ediv (by omega) (by omega)⟩
theorem ret_two {a b c d : Int} (h : a = c) (h' : b = d) : Ending.returned (.tuple #[.int .i64 a, .int .i64 b]) = .returned (.tuple #[.int .i64 c, .int .i64 d]) := by rw [h, h']

theorem refused {n p s : Int} : (n ≤ 0 ∨ p < 1 ∨ 2047 < p ∨ s < 4 * p) → n ≤ 0 ∨ (¬ n ≤ 0 ∧ p < 1) ∨ (¬ n ≤ 0 ∧ ¬ p < 1 ∧ 2047 < p) ∨ (¬ n ≤ 0 ∧ ¬ p < 1 ∧ ¬ 2047 < p ∧ s < 4 * p) := by omega

set_option maxHeartbeats 400000 in
theorem bound_no (n p s : Int) (h : n ≤ 0 ∨ p < 1 ∨ 2047 < p ∨ s < 4 * p) (w : World) :
    Calls Try.prog 4 #[.int .i64 n, .int .i64 p, .int .i64 s] w fun e w' => e = .returned (.tuple #[.int .i64 0, .int .i64 0]) ∧ w' = w := by
  rcases refused h with h | ⟨h1, h⟩ | ⟨h1, h2, h⟩ | ⟨h1, h2, h3, h⟩
  all_goals
    go_enter Try.func4, Try.ntmps4
    go_wp2_with (go_at_call 6; with_reducible refine Calls.mono (fit_any _) ?_; rintro _ _ ⟨rfl, rfl⟩)
    go_ret2
    exact ⟨rfl, rfl⟩

set_option maxHeartbeats 400000 in
theorem rbound_no (n p s : Int) (h : n ≤ 0 ∨ p < 1 ∨ 2047 < p ∨ s < 4 * p) (w : World) :
    Calls Try.prog 5 #[.int .i64 n, .int .i64 p, .int .i64 s] w fun e w' => e = .returned (.tuple #[.int .i64 0, .int .i64 0]) ∧ w' = w := by
  rcases refused h with h | ⟨h1, h⟩ | ⟨h1, h2, h⟩ | ⟨h1, h2, h3, h⟩
  all_goals
    go_enter Try.func5, Try.ntmps5
    go_wp2
    go_ret2
    exact ⟨rfl, rfl⟩

theorem room {p s : Int} (hp : 1 ≤ p) (hp2 : p ≤ 2047) (hs : 4 * p ≤ s) (hs2 : s ≤ 9223372036854775807) :
    4 ≤ s / p ∧ s / p ≤ 9223372036854775807 ∧ 1 ≤ (s / p - 2) * p ∧ (s / p - 2) * p ≤ 9223372036854775807 := by
  have h1 : 4 ≤ s / p := Int.le_ediv_of_mul_le (by omega) hs
  have h2 : s / p ≤ s := Int.ediv_le_self _ (by omega)
  have h3 : p * (s / p) ≤ s := Int.mul_ediv_self_le (by omega)
  have h4 : (s / p - 2) * p = p * (s / p) - 2 * p := by rw [Int.sub_mul, Int.mul_comm]
  have h5 : 2 * p ≤ (s / p - 2) * p := Int.mul_le_mul_of_nonneg_right (by omega) (by omega)
  omega

set_option maxHeartbeats 1000000 in
theorem bound_yes (n p s : Int) (hn : 1 ≤ n) (hn2 : n ≤ 9223372036854775807) (hp : 1 ≤ p) (hp2 : p ≤ 2047) (hs : 4 * p ≤ s) (hs2 : s ≤ 9223372036854775807) (w : World) :
    Calls Try.prog 4 #[.int .i64 n, .int .i64 p, .int .i64 s] w fun e w' => (∃ k : Nat, First (s / p - 1) (up n ((s / p - 2) * p)) k ∧ e = .returned (.tuple #[.int .i64 (most (up n p) k), .int .i64 (most (up n p) k)])) ∧ w' = w := by
  obtain ⟨r1, r2, r3, r4⟩ := room hp hp2 hs hs2
  have u1 := up_pos hn r3
  have u2 := up_le hn r3
  have v1 := up_pos hn hp
  have v2 := up_le hn hp
  go_enter Try.func4, Try.ntmps4
  go_wp2_with (first
    | (go_at_call 6; with_reducible refine Calls.mono (fit_any _) ?_; rintro _ _ ⟨rfl, rfl⟩)
    | (go_at_call 7; with_reducible refine Calls.mono (split_any n ((s / p - 2) * p) hn hn2 r3 r4 _) ?_; rintro _ _ ⟨rfl, rfl⟩))
  go_loop [9, 10] (fun r q => ∃ k : Nat, r = .int .i64 (down (s / p - 1) (up n ((s / p - 2) * p)) k) ∧ q = .int .i64 ((k : Int) + 1) ∧ 1 ≤ down (s / p - 1) (up n ((s / p - 2) * p)) k ∧ down (s / p - 1) (up n ((s / p - 2) * p)) k + k ≤ up n ((s / p - 2) * p) ∧ ∀ j, j < k → 1 < down (s / p - 1) (up n ((s / p - 2) * p)) j) (fun r _ => (intOf r).toNat)
  case atStart => exact ⟨0, rfl, rfl, u1, by simp [down], by omega⟩
  case round =>
    obtain ⟨k, rfl, rfl, d1, d2, d3⟩ := hrel
    by_cases hlt : 1 < down (s / p - 1) (up n ((s / p - 2) * p)) k
    · have e1 := up_pos d1 (show 1 ≤ s / p - 1 by omega)
      have e2 := up_lt hlt (show 2 ≤ s / p - 1 by omega)
      have D3 : Hid (∀ j, j < k → 1 < down (s / p - 1) (up n ((s / p - 2) * p)) j) := d3
      clear d3
      go_wp2_with (go_at_call 7; with_reducible refine Calls.mono (split_any _ (s / p - 1) d1 (by omega) (by omega) (by omega) _) ?_; rintro _ _ ⟨rfl, rfl⟩)
      go_round
      case rel =>
        refine ⟨k + 1, rfl, by go_num, e1, ?_, fun j hj => ?_⟩
        · show up _ _ + _ ≤ _
          omega
        · by_cases h : j = k
          · rw [h]; exact hlt
          · exact D3.out j (by omega)
      case measure => simp [intOf]; omega
    · have HF : Hid (First (s / p - 1) (up n ((s / p - 2) * p)) k) := ⟨by omega, d3⟩
      clear d3
      by_cases hm : 9223372036854775807 / ((k : Int) + 1) < up n p
      · have HM : Hid (most (up n p) k = 9223372036854775807) := most_great hm
        go_wp2_with (go_at_call 7; with_reducible refine Calls.mono (split_any n p hn hn2 hp (by omega) _) ?_; rintro _ _ ⟨rfl, rfl⟩)
        go_ret2
        exact ⟨⟨k, HF.out, ret_two HM.out.symm HM.out.symm⟩, rfl⟩
      · have HM : Hid (most (up n p) k = up n p * ((k : Int) + 1)) := most_small hm
        obtain ⟨m1, m2⟩ := most_fits hm v1
        go_wp2_with (go_at_call 7; with_reducible refine Calls.mono (split_any n p hn hn2 hp (by omega) _) ?_; rintro _ _ ⟨rfl, rfl⟩)
        go_ret2
        exact ⟨⟨k, HF.out, ret_two HM.out.symm HM.out.symm⟩, rfl⟩
end Go.Proofs.Ytgaahkgdefjkeaa
