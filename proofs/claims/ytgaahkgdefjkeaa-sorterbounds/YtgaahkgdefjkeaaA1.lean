import Derived.Test.YtgaahkgdefjkeaaRows
import Derived.WalkKit
import Derived.ProofKit
import Derived.OpenShut
namespace Go.Proofs.Ytgaahkgdefjkeaa
open Go.RowKit

def up (a b : Int) : Int := a / b + (if 0 < a % b then 1 else 0)

theorem up_pos {a b : Int} (ha : 1 ≤ a) (hb : 1 ≤ b) : 1 ≤ up a b := by
  unfold up
  have h1 := Int.emod_add_mul_ediv a b
  have h2 : 0 ≤ a / b := Int.ediv_nonneg (by omega) (by omega)
  have h3 := Int.emod_nonneg a (show b ≠ 0 by omega)
  split
  · omega
  · have : a % b = 0 := by omega
    rw [this] at h1
    by_cases h4 : a / b = 0
    · rw [h4] at h1; simp at h1; omega
    · omega
theorem up_le {a b : Int} (ha : 1 ≤ a) (hb : 1 ≤ b) : up a b ≤ a := by
  unfold up
  have h1 := Int.emod_add_mul_ediv a b
  have h2 : 0 ≤ a / b := Int.ediv_nonneg (by omega) (by omega)
  have h3 : a / b ≤ b * (a / b) := by
    have := Int.mul_le_mul_of_nonneg_right hb h2
    omega
  have h4 := Int.emod_nonneg a (show b ≠ 0 by omega)
  split <;> omega
theorem up_lt {a b : Int} (ha : 2 ≤ a) (hb : 2 ≤ b) : up a b < a := by
  unfold up
  have h1 := Int.emod_add_mul_ediv a b
  have h2 : 0 ≤ a / b := Int.ediv_nonneg (by omega) (by omega)
  have h3 : 2 * (a / b) ≤ b * (a / b) := Int.mul_le_mul_of_nonneg_right hb h2
  have h4 := Int.emod_nonneg a (show b ≠ 0 by omega)
  split
  · by_cases h5 : a / b = 0
    · omega
    · omega
  · by_cases h5 : a / b = 0
    · omega
    · omega

def down (f r : Int) : Nat → Int
  | 0 => r
  | k + 1 => up (down f r k) f

/-- k is the first number of passes behind which one run is left. -/
def First (f r : Int) (k : Nat) : Prop := down f r k ≤ 1 ∧ ∀ j, j < k → 1 < down f r j

theorem first_one {f r : Int} {k l : Nat} (h1 : First f r k) (h2 : First f r l) : k = l := by
  rcases Nat.lt_trichotomy k l with h | h | h
  · have := h2.2 k h; have := h1.1; omega
  · exact h
  · have := h1.2 l h; have := h2.1; omega

def most (b : Int) (k : Nat) : Int := if 9223372036854775807 / ((k : Int) + 1) < b then 9223372036854775807 else b * ((k : Int) + 1)

theorem up_div {a b : Int} (h : 0 < a % b) : up a b = a / b + 1 := by unfold up; rw [if_pos h]
theorem up_div0 {a b : Int} (h : ¬ 0 < a % b) : up a b = a / b := by unfold up; rw [if_neg h]; omega

theorem ret_int {k : IntKind} {a b : Int} (h : a = b) : Ending.returned (.int k a) = .returned (.int k b) := by rw [h]

set_option maxHeartbeats 400000 in
theorem split_any (a b : Int) (ha : 1 ≤ a) (ha2 : a ≤ 9223372036854775807) (hb : 1 ≤ b) (hb2 : b ≤ 9223372036854775807) (w : World) :
    Calls Try.prog 7 #[.int .i64 a, .int .i64 b] w fun e w' => e = .returned (.int .i64 (up a b)) ∧ w' = w := by
  have h0 : 0 ≤ a / b := Int.ediv_nonneg (by omega) (by omega)
  have h1 := Int.emod_nonneg a (show b ≠ 0 by omega)
  have h2 := Int.emod_lt_of_pos a (show 0 < b by omega)
  have h3 : a / b ≤ a := Int.ediv_le_self _ (by omega)
  by_cases h : 0 < a % b
  · have hu := up_div h
    have h4 := up_le ha hb
    rw [hu] at h4
    have HU := (show Hid (up a b = _) from hu)
    clear hu
    go_enter Try.func7, Try.ntmps7
    go_wp2
    go_ret
    exact ⟨ret_int (by rw [HU.out]), rfl⟩
  · have hu := up_div0 h
    have HU := (show Hid (up a b = _) from hu)
    clear hu
    go_enter Try.func7, Try.ntmps7
    go_wp2
    go_ret
    exact ⟨ret_int (by rw [HU.out]), rfl⟩

set_option maxHeartbeats 400000 in
theorem up_any (a b : Int) (ha : 1 ≤ a) (ha2 : a ≤ 9223372036854775807) (hb : 1 ≤ b) (hb2 : b ≤ 9223372036854775807) (w : World) :
    Calls Try.prog 8 #[.int .i64 a, .int .i64 b] w fun e w' => e = .returned (.int .i64 (up a b)) ∧ w' = w := by
  have h0 : 0 ≤ a / b := Int.ediv_nonneg (by omega) (by omega)
  have h1 := Int.emod_nonneg a (show b ≠ 0 by omega)
  have h2 := Int.emod_lt_of_pos a (show 0 < b by omega)
  have h3 : a / b ≤ a := Int.ediv_le_self _ (by omega)
  by_cases h : 0 < a % b
  · have hu := up_div h
    have h4 := up_le ha hb
    rw [hu] at h4
    have HU := (show Hid (up a b = _) from hu)
    clear hu
    go_enter Try.func8, Try.ntmps8
    go_wp2
    go_ret
    exact ⟨ret_int (by rw [HU.out]), rfl⟩
  · have hu := up_div0 h
    have HU := (show Hid (up a b = _) from hu)
    clear hu
    go_enter Try.func8, Try.ntmps8
    go_wp2
    go_ret
    exact ⟨ret_int (by rw [HU.out]), rfl⟩

theorem fit_any (w : World) : Calls Try.prog 6 #[.int .i64 65536] w fun e w' => e = .returned (.int .i64 2047) ∧ w' = w := by
  go_enter Try.func6, Try.ntmps6
  go_wp2
  go_ret
  exact ⟨rfl, rfl⟩
end Go.Proofs.Ytgaahkgdefjkeaa
