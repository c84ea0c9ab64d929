/-
  The document's own FormedLine, leans.
-/
import Derived.Test.YtfmmmhcpdinhgaaDoorD1
namespace Go.Proofs.YtfmmmhcpdinhgaaDoor
open Go.RowKit Go.Deep PureNet
set_option maxRecDepth 100000

set_option maxHeartbeats 2000000 in
set_option maxRecDepth 100000 in
theorem formedLine_any (g : Ga) (n : Nat) (w : World) : Calls Tryd.prog 56 #[.agg #[.int .i64 g.kind, .string g.name, .int .i64 g.op, .int .i64 g.a, .int .i64 g.b, .int .i64 g.c], .int .i64 (n : Int)] w fun e w' => e = .returned (.bool (lineB g n)) ∧ Below w.heap.size w w' := by
  have FA := hid (fun v u W => field_any v u n W)
  by_cases hk : 1 ≤ g.kind ∧ g.kind ≤ 4 ∧ 0 ≤ g.op
  · obtain ⟨k1, k2, k3⟩ := hk
    have hk : g.kind = 1 ∨ g.kind = 2 ∨ g.kind = 3 ∨ g.kind = 4 := by omega
    have HL : Hid (lineB g n = (decide (g.op ≤ mostOp g.kind) && fieldB g.a (decide (g.kind ≠ 1)) n && fieldB g.b (decide (g.kind = 2 ∨ g.kind = 4)) n && fieldB g.c (decide (g.kind = 4)) n)) := by
      show _ = _
      unfold lineB
      rw [show decide (1 ≤ g.kind ∧ g.kind ≤ 4 ∧ 0 ≤ g.op ∧ g.op ≤ mostOp g.kind) = decide (g.op ≤ mostOp g.kind) by simp [k1, k2, k3]]
    have k4 : ¬ g.op < 0 := by omega
    clear k1 k2 k3
    rcases hk with hk | hk | hk | hk
    · rw [hk] at HL ⊢
      have HK := hid hk
      clear hk
      go_enter Tryd.func56, Tryd.ntmps56
      go_wp2_with (first
        | (go_at_call 84; with_reducible refine (FA.out _ _ _).mono ?_; rintro e w1 ⟨rfl, rfl⟩))
      all_goals go_ret
      all_goals first
        | (have e : lineB g n = false := (by rw [HL.out]; simp [mostOp, *]; try (intro hh; omega)); rw [e]; exact ⟨rfl, (Below.refl _ _).alloc (Nat.le_refl _) _⟩)
        | (have e : lineB g n = fieldB g.c false n := (by rw [HL.out]; simp [mostOp, *]; try (intro hh; omega)); rw [e]; exact ⟨rfl, (Below.refl _ _).alloc (Nat.le_refl _) _⟩)
    · rw [hk] at HL ⊢
      have HK := hid hk
      clear hk
      go_enter Tryd.func56, Tryd.ntmps56
      go_wp2_with (first
        | (go_at_call 84; with_reducible refine (FA.out _ _ _).mono ?_; rintro e w1 ⟨rfl, rfl⟩))
      all_goals go_ret
      all_goals first
        | (have e : lineB g n = false := (by rw [HL.out]; simp [mostOp, *]; try (intro hh; omega)); rw [e]; exact ⟨rfl, (Below.refl _ _).alloc (Nat.le_refl _) _⟩)
        | (have e : lineB g n = fieldB g.c false n := (by rw [HL.out]; simp [mostOp, *]; try (intro hh; omega)); rw [e]; exact ⟨rfl, (Below.refl _ _).alloc (Nat.le_refl _) _⟩)
    · rw [hk] at HL ⊢
      have HK := hid hk
      clear hk
      go_enter Tryd.func56, Tryd.ntmps56
      go_wp2_with (first
        | (go_at_call 84; with_reducible refine (FA.out _ _ _).mono ?_; rintro e w1 ⟨rfl, rfl⟩))
      all_goals go_ret
      all_goals first
        | (have e : lineB g n = false := (by rw [HL.out]; simp [mostOp, *]; try (intro hh; omega)); rw [e]; exact ⟨rfl, (Below.refl _ _).alloc (Nat.le_refl _) _⟩)
        | (have e : lineB g n = fieldB g.c false n := (by rw [HL.out]; simp [mostOp, *]; try (intro hh; omega)); rw [e]; exact ⟨rfl, (Below.refl _ _).alloc (Nat.le_refl _) _⟩)
    · rw [hk] at HL ⊢
      have HK := hid hk
      clear hk
      go_enter Tryd.func56, Tryd.ntmps56
      go_wp2_with (first
        | (go_at_call 84; with_reducible refine (FA.out _ _ _).mono ?_; rintro e w1 ⟨rfl, rfl⟩))
      all_goals go_ret
      all_goals first
        | (have e : lineB g n = false := (by rw [HL.out]; simp [mostOp, *]; try (intro hh; omega)); rw [e]; exact ⟨rfl, (Below.refl _ _).alloc (Nat.le_refl _) _⟩)
        | (have e : lineB g n = fieldB g.c true n := (by rw [HL.out]; simp [mostOp, *]; try (intro hh; omega)); rw [e]; exact ⟨rfl, (Below.refl _ _).alloc (Nat.le_refl _) _⟩)
  · have HL : Hid (lineB g n = false) := by
      show _ = _
      unfold lineB
      rw [decide_eq_false (by omega)]
      simp
    rcases (show g.kind < 1 ∨ (1 ≤ g.kind ∧ 4 < g.kind) ∨ (1 ≤ g.kind ∧ g.kind ≤ 4 ∧ g.op < 0) by omega) with h1 | ⟨h1, h2⟩ | ⟨h1, h2, h3⟩
    · clear hk
      go_enter Tryd.func56, Tryd.ntmps56
      go_wp2
      go_ret
      rw [HL.out]
      exact ⟨rfl, (Below.refl _ _).alloc (Nat.le_refl _) _⟩
    · clear hk
      go_enter Tryd.func56, Tryd.ntmps56
      go_wp2
      go_ret
      rw [HL.out]
      exact ⟨rfl, (Below.refl _ _).alloc (Nat.le_refl _) _⟩
    · clear hk
      go_enter Tryd.func56, Tryd.ntmps56
      go_wp2
      go_ret
      rw [HL.out]
      exact ⟨rfl, (Below.refl _ _).alloc (Nat.le_refl _) _⟩
end Go.Proofs.YtfmmmhcpdinhgaaDoor
