import Derived.Test.YtgaahkgdefjkeaaA2
namespace Go.Proofs.Ytgaahkgdefjkeaa
open Go.RowKit

set_option maxHeartbeats 1000000 in
theorem rbound_yes (n p s : Int) (hn : 1 ≤ n) (hn2 : n ≤ 9223372036854775807) (hp : 1 ≤ p) (hp2 : p ≤ 2047) (hs : 4 * p ≤ s) (hs2 : s ≤ 9223372036854775807) (w : World) :
    Calls Try.prog 5 #[.int .i64 n, .int .i64 p, .int .i64 s] w fun e w' => (∃ k : Nat, First (s / p - 1) (up n ((s / p - 2) * p)) k ∧ e = .returned (.tuple #[.int .i64 (most (up n p) k), .int .i64 (most (up n p) k)])) ∧ w' = w := by
  obtain ⟨r1, r2, r3, r4⟩ := room hp hp2 hs hs2
  have u1 := up_pos hn r3
  have u2 := up_le hn r3
  have v1 := up_pos hn hp
  have v2 := up_le hn hp
  go_enter Try.func5, Try.ntmps5
  go_wp2_with (first
    | (go_at_call 8; with_reducible refine Calls.mono (up_any n p hn hn2 hp (by omega) _) ?_; rintro _ _ ⟨rfl, rfl⟩)
    | (go_at_call 8; with_reducible refine Calls.mono (up_any n ((s / p - 2) * p) hn hn2 r3 r4 _) ?_; rintro _ _ ⟨rfl, rfl⟩))
  go_loop [11, 12] (fun r q => ∃ k : Nat, r = .int .i64 (down (s / p - 1) (up n ((s / p - 2) * p)) k) ∧ q = .int .i64 (k : Int) ∧ 1 ≤ down (s / p - 1) (up n ((s / p - 2) * p)) k ∧ down (s / p - 1) (up n ((s / p - 2) * p)) k + k ≤ up n ((s / p - 2) * p) ∧ ∀ j, j < k → 1 < down (s / p - 1) (up n ((s / p - 2) * p)) j) (fun r _ => (intOf r).toNat)
  case atStart => exact ⟨0, rfl, rfl, u1, by simp [down], by omega⟩
  case round =>
    obtain ⟨k, rfl, rfl, d1, d2, d3⟩ := hrel
    by_cases hlt : 1 < down (s / p - 1) (up n ((s / p - 2) * p)) k
    · have e1 := up_pos d1 (show 1 ≤ s / p - 1 by omega)
      have e2 := up_lt hlt (show 2 ≤ s / p - 1 by omega)
      have D3 : Hid (∀ j, j < k → 1 < down (s / p - 1) (up n ((s / p - 2) * p)) j) := d3
      clear d3
      go_wp2_with (go_at_call 8; with_reducible refine Calls.mono (up_any _ (s / p - 1) d1 (by omega) (by omega) (by omega) _) ?_; rintro _ _ ⟨rfl, rfl⟩)
      go_round
      case rel =>
        refine ⟨k + 1, rfl, by go_num, e1, ?_, fun j hj => ?_⟩
        · show up _ _ + _ ≤ _
          omega
        · by_cases h : j = k
          · rw [h]; exact hlt
          · exact D3.out j (by omega)
      case measure => simp [intOf]; omega
    · have HF : Hid (First (s / p - 1) (up n ((s / p - 2) * p)) k) := ⟨by omega, d3⟩
      clear d3
      have hc : (1 : Int) + k = (k : Int) + 1 := by omega
      by_cases hm : 9223372036854775807 / ((k : Int) + 1) < up n p
      · have HM : Hid (most (up n p) k = 9223372036854775807) := most_great hm
        rw [← hc] at hm
        have HC : Hid ((1 : Int) + k = (k : Int) + 1) := hc
        clear hc
        go_wp2
        go_ret2
        exact ⟨⟨k, HF.out, ret_two HM.out.symm HM.out.symm⟩, rfl⟩
      · have HM : Hid (most (up n p) k = up n p * ((k : Int) + 1)) := most_small hm
        obtain ⟨m1, m2⟩ := most_fits hm v1
        rw [← hc] at hm m1 m2
        have HC : Hid ((1 : Int) + k = (k : Int) + 1) := hc
        clear hc
        go_wp2
        go_ret2
        exact ⟨⟨k, HF.out, ret_two (by rw [HM.out, HC.out]) (by rw [HM.out, HC.out])⟩, rfl⟩

set_option maxHeartbeats 1000000 in
theorem law (n p s : Int) (hn : n ≤ 9223372036854775807) (hs : s ≤ 9223372036854775807) (w : World) :
    Calls Try.prog 3 #[.int .i64 n, .int .i64 p, .int .i64 s] w fun e w' => e = .returned (.bool true) ∧ w' = w := by
  by_cases h : n ≤ 0 ∨ p < 1 ∨ 2047 < p ∨ s < 4 * p
  · go_enter Try.func3, Try.ntmps3
    go_wp2_with (first
      | (go_at_call 4; with_reducible refine Calls.mono (bound_no n p s h _) ?_; rintro _ _ ⟨rfl, rfl⟩)
      | (go_at_call 5; with_reducible refine Calls.mono (rbound_no n p s h _) ?_; rintro _ _ ⟨rfl, rfl⟩))
    go_ret
    exact ⟨rfl, rfl⟩
  · have h1 : 1 ≤ n ∧ 1 ≤ p ∧ p ≤ 2047 ∧ 4 * p ≤ s := by omega
    obtain ⟨h1, h2, h3, h4⟩ := h1
    clear h
    go_enter Try.func3, Try.ntmps3
    go_wp2_with fail
    with_reducible refine Calls.mono (bound_yes n p s h1 hn h2 h3 h4 hs _) ?_
    rintro _ _ ⟨⟨k, hk, rfl⟩, rfl⟩
    go_wp2_with fail
    with_reducible refine Calls.mono (rbound_yes n p s h1 hn h2 h3 h4 hs _) ?_
    rintro _ _ ⟨⟨l, hl, rfl⟩, rfl⟩
    have := first_one hk hl
    subst this
    clear hk hl
    go_wp2
    go_ret
    exact ⟨rfl, rfl⟩
end Go.Proofs.Ytgaahkgdefjkeaa
