import Derived.Test.YtbanhpohnhjciaaA1
import Derived.Deep.RegionHeld3
namespace Go.Proofs.Ytbanhpohnhjciaa
open Go.RowKit Go.MuLone

/-- nothing but draws. -/
def Quiet (w w' : World) : Prop := ∃ n, w' = w.drewN n
theorem Quiet.heap {w w' : World} (h : Quiet w w') : w'.heap = w.heap := by obtain ⟨n, rfl⟩ := h; rfl
theorem Quiet.touch {w w' : World} (h : Quiet w w') (F : List Nat) : Touch F w w' := by obtain ⟨n, rfl⟩ := h; exact (Touch.refl F w).drewN n
theorem Quiet.refl (w : World) : Quiet w w := ⟨0, rfl⟩

section
variable {w : World} {b : Nat} {s : St}

set_option maxRecDepth 100000 in
set_option maxHeartbeats 400000 in
theorem out_any' (h : PurseAt w b s) (g1 : 0 ≤ s.hand) (g2 : 0 ≤ s.lent) (g3 : s.hand + s.lent ≤ s.limit) (g4 : s.limit ≤ 9223372036854775807) : Calls Try.prog 26 #[ptr b] w fun e w' => e = .returned (.int .i64 (s.hand + s.lent)) ∧ ∃ n, w' = w.drewN n := by
  have c := fun i => cell_row h i
  have hw : IntKind.i64.wrap (s.hand + s.lent) = s.hand + s.lent := (IntWalk.i64_left _).trans <| IntWalk.wrap64_in _ ⟨by omega, by omega⟩
  clear h
  go_enter Try.func26, Try.ntmps26
  go_wp2
  go_quiet (fail)
  all_goals go_wp2
  go_ret
  exact ⟨by simp, _, rfl⟩

theorem out_any (h : PurseAt w b s) (g : s.Good) : Calls Try.prog 26 #[ptr b] w fun e w' => e = .returned (.int .i64 (s.hand + s.lent)) ∧ ∃ n, w' = w.drewN n :=
  out_any' h g.hand g.lent g.out g.limit

set_option maxRecDepth 100000 in
set_option maxHeartbeats 400000 in
theorem free_any (h : PurseAt w b s) (g : s.Good) : Calls Try.prog 27 #[ptr b] w fun e w' => e = .returned (.int .i64 (s.limit - (s.hand + s.lent))) ∧ ∃ n, w' = w.drewN n := by
  have c := fun i => cell_row h i
  have hw : IntKind.i64.wrap (s.limit - (s.hand + s.lent)) = s.limit - (s.hand + s.lent) := (IntWalk.i64_left _).trans <| IntWalk.wrap64_in _ ⟨by have := g.out; omega, by have := g.hand; have := g.lent; have := g.limit; omega⟩
  have HO := hid (fun n => out_any (w := w.drewN n) (b := b) (s := s) h g)
  clear h g
  go_enter Try.func27, Try.ntmps27
  go_wp2
  go_quiet (first | (go_at_call 26; exact Calls.quiet_of (HO.out _)))
  all_goals go_wp2
  go_ret
  exact ⟨by simp, _, rfl⟩

set_option maxRecDepth 100000 in
set_option maxHeartbeats 400000 in
theorem load_any {a : Addr} {x : Int} (c : w.cell? a = some (.int .i64 x)) : Calls Try.prog 28 #[.pointer (some a)] w fun e w' => e = .returned (.int .i64 x) ∧ w' = w := by
  have hl := run_call_load (P := Try.prog) Try.func41 (by kernel_rfl) (by kernel_rfl) (by kernel_rfl) .i64 (by kernel_rfl) c
  go_enter Try.func28, Try.ntmps28
  go_wp2
  go_ret
  exact ⟨rfl, rfl⟩

set_option maxRecDepth 100000 in
set_option maxHeartbeats 400000 in
theorem store_any {a : Addr} {u : Value} (y : Int) (c : w.cell? a = some u) (z : w.frozen? a = false) : Calls Try.prog 40 #[.pointer (some a), .int .i64 y] w fun e w' => e = .returned (.tuple #[]) ∧ w' = w.setCell a (.int .i64 y) := by
  have hl := run_call_store (P := Try.prog) Try.func52 (by kernel_rfl) (by kernel_rfl) (by kernel_rfl) (by kernel_rfl) (k := .i64) (y := y) c z
  go_enter Try.func40, Try.ntmps40
  go_wp2
  go_end0
  exact ⟨rfl, rfl⟩

set_option maxRecDepth 100000 in
set_option maxHeartbeats 400000 in
theorem mayLeave_any (h : PurseAt w b s) (g : s.Good) (n : Int) : Calls Try.prog 24 #[ptr b, .int .i64 n] w fun e w' => e = .returned (.int .i64 (leaveE s n)) ∧ ∃ n, w' = w.drewN n := by
  have HM := hid (mayMove_any h n)
  have HF := hid (free_any h g)
  by_cases hc : s.closed = true
  · have e1 : moveE s n = 6 := by simp [moveE, hc]
    have HB := hid (show leaveE s n = 6 by simp [leaveE, hc])
    rw [e1] at HM
    clear h g e1
    go_enter Try.func24, Try.ntmps24
    go_wp2_with (first | (go_at_call 23; refine HM.out.mono ?_; rintro e w' ⟨rfl, rfl⟩))
    go_ret
    rw [HB.out]
    exact ⟨rfl, 0, rfl⟩
  · by_cases hn : n < 0
    · have e1 : moveE s n = 1 := by simp [moveE, hc, hn]
      have HB := hid (show leaveE s n = 1 by simp [leaveE, hc, hn])
      rw [e1] at HM
      clear h g e1
      go_enter Try.func24, Try.ntmps24
      go_wp2_with (first | (go_at_call 23; refine HM.out.mono ?_; rintro e w' ⟨rfl, rfl⟩))
      go_ret
      rw [HB.out]
      exact ⟨rfl, 0, rfl⟩
    · have e1 : moveE s n = 0 := by simp [moveE, hc, hn]
      rw [e1] at HM
      by_cases hf : n > s.limit - (s.hand + s.lent)
      · have HB := hid (show leaveE s n = 2 by simp [leaveE, hc, hn, hf])
        clear h g e1 hc hn
        go_enter Try.func24, Try.ntmps24
        go_wp2_with (first | (go_at_call 27; refine HF.out.mono ?_; rintro e w' ⟨rfl, m, rfl⟩) | (go_at_call 23; refine HM.out.mono ?_; rintro e w' ⟨rfl, rfl⟩))
        go_ret
        rw [HB.out]
        exact ⟨rfl, m, rfl⟩
      · have HB := hid (show leaveE s n = 0 by simp only [leaveE, hc, hn, hf, if_false]; simp)
        clear h g e1 hc hn
        go_enter Try.func24, Try.ntmps24
        go_wp2_with (first | (go_at_call 27; refine HF.out.mono ?_; rintro e w' ⟨rfl, m, rfl⟩) | (go_at_call 23; refine HM.out.mono ?_; rintro e w' ⟨rfl, rfl⟩))
        go_ret
        rw [HB.out]
        exact ⟨rfl, m, rfl⟩
end
end Go.Proofs.Ytbanhpohnhjciaa
