import Derived.Test.YtbanhpohnhjciaaA2
namespace Go.Proofs.Ytbanhpohnhjciaa
open Go.RowKit Go.MuLone

section
variable {w : World} {b : Nat} {s : St}

set_option maxRecDepth 100000 in
set_option maxHeartbeats 400000 in
theorem raise_any (h : PurseAt w b s) (g1 : 0 ≤ s.hand) (g2 : 0 ≤ s.lent) (g3 : s.hand + s.lent ≤ s.limit) (g4 : s.limit ≤ 9223372036854775807) :
    Calls Try.prog 25 #[ptr b] w fun e w' => e = .returned (.tuple #[]) ∧ ∃ n, w' = (w.drewN n).setCell ⟨b, 7, none⟩ (.int .i64 (max s.peak (s.hand + s.lent))) := by
  have HO : Hid (∀ W, PurseAt W b s → Calls Try.prog 26 #[ptr b] W fun e w' => e = .returned (.int .i64 (s.hand + s.lent)) ∧ ∃ n, w' = W.drewN n) := hid fun W hW => by
    exact out_any' hW g1 g2 g3 g4
  have HH := hid h
  have HL := hid (fun W (hW : PurseAt W b s) => load_any (w := W) (a := ⟨b, 7, none⟩) (x := s.peak) (cell_row hW 7))
  have HS := hid (fun W (hW : PurseAt W b s) (y : Int) => store_any (w := W) (a := ⟨b, 7, none⟩) (u := .int .i64 s.peak) y (cell_row hW 7) (unfrozen_row hW 7))
  clear h g1 g2 g3 g4
  by_cases hp : s.hand + s.lent > s.peak
  · have HB := hid (show max s.peak (s.hand + s.lent) = s.hand + s.lent by omega)
    go_enter Try.func25, Try.ntmps25
    go_wp2
    go_region_with (first | (go_at_call 40; refine (HS.out _ ?_ _).mono ?_; exact HH.out; rintro e w' ⟨rfl, rfl⟩) | (go_at_call 26; refine (HO.out _ ?_).mono ?_; exact HH.out; rintro e w' ⟨rfl, m, rfl⟩) | (go_at_call 28; refine (HL.out _ ?_).mono ?_; exact HH.out; rintro e w' ⟨rfl, rfl⟩))
    all_goals go_wp2
    all_goals go_end0
    all_goals (rw [HB.out]; exact ⟨rfl, _, rfl⟩)
  · have HB := hid (show max s.peak (s.hand + s.lent) = s.peak by omega)
    go_enter Try.func25, Try.ntmps25
    go_wp2
    go_region_with (first | (go_at_call 40; refine (HS.out _ ?_ _).mono ?_; exact HH.out; rintro e w' ⟨rfl, rfl⟩) | (go_at_call 26; refine (HO.out _ ?_).mono ?_; exact HH.out; rintro e w' ⟨rfl, m, rfl⟩) | (go_at_call 28; refine (HL.out _ ?_).mono ?_; exact HH.out; rintro e w' ⟨rfl, rfl⟩))
    all_goals go_wp2
    all_goals go_end0
    all_goals (rw [HB.out]; exact ⟨rfl, _, rfl⟩)

theorem raise_at (h : PurseAt w b s) (g1 : 0 ≤ s.hand) (g2 : 0 ≤ s.lent) (g3 : s.hand + s.lent ≤ s.limit) (g4 : s.limit ≤ 9223372036854775807) :
    Calls Try.prog 25 #[ptr b] w fun e w' => e = .returned (.tuple #[]) ∧ PurseAt w' b { s with peak := max s.peak (s.hand + s.lent) } ∧ Touch [b] w w' := by
  refine (raise_any h g1 g2 g3 g4).mono ?_
  rintro e w' ⟨rfl, n, rfl⟩
  exact ⟨rfl, heap_setCell_row (w := w.drewN n) h 7 _, ((Touch.refl [b] w).drewN n).setCell (by simp) _⟩

theorem lock_any (h : PurseAt w b s) (hl : LockAt w s.lb 0) (hne : b ≠ s.lb) :
    Calls Try.prog 21 #[ptr s.lb] w fun e w' => e = .returned (.tuple #[]) ∧ PurseAt w' b s ∧ LockAt w' s.lb 1 ∧ Touch [s.lb] w w' := by
  refine (lock_free muLib ⟨s.lb, 0, none⟩ w (cell_row hl 0) (unfrozen_row hl 0)).mono ?_
  rintro e w' ⟨rfl, rfl⟩
  exact ⟨rfl, (Below.heap_setCell w _ _ b hne).trans h, heap_setCell_row hl 0 _, (Touch.refl [s.lb] w).setCell (by simp) _⟩

theorem unlock_any (u : FrameMode) (h : PurseAt w b s) {lb : Nat} (hl : LockAt w lb 1) (hne : b ≠ lb) :
    CallsD Try.prog 22 #[ptr lb] u w fun e u' w' => u' = u ∧ e = .returned (.tuple #[]) ∧ PurseAt w' b s ∧ LockAt w' lb 0 ∧ Touch [lb] w w' := by
  refine (unlock_deferred muLib ⟨lb, 0, none⟩ u w (cell_row hl 0) (unfrozen_row hl 0)).mono ?_
  rintro e u' w' ⟨rfl, rfl, rfl⟩
  exact ⟨rfl, rfl, (Below.heap_setCell w _ _ b hne).trans h, heap_setCell_row hl 0 _, (Touch.refl [lb] w).setCell (by simp) _⟩

theorem LockAt.touch {w' : World} {F : List Nat} {lb : Nat} {k : Int} (h : LockAt w lb k) (t : Touch F w w') (hn : lb ∉ F) : LockAt w' lb k := (t.block lb (lt_of_block h) hn).trans h
theorem PurseAt.touch {w' : World} {F : List Nat} (h : PurseAt w b s) (t : Touch F w w') (hn : b ∉ F) : PurseAt w' b s := (t.block b (lt_of_block h) hn).trans h

theorem PurseAt.quiet {w' : World} (h : PurseAt w b s) (hq : Quiet w w') : PurseAt w' b s := by obtain ⟨n, rfl⟩ := hq; exact h

def St.take (s : St) (n : Int) : St := if leaveE s n = 0 then { s with hand := s.hand + n, peak := max s.peak (s.hand + n + s.lent) } else s
def St.give (s : St) (n : Int) : St := if giveE s n = 0 then { s with hand := s.hand - n } else s

set_option maxRecDepth 100000 in
set_option maxHeartbeats 400000 in
theorem take_any (h : PurseAt w b s) (hl : LockAt w s.lb 0) (hne : b ≠ s.lb) (g : s.Good) (n : Int) :
    Calls Try.prog 10 #[ptr b, .int .i64 n] w fun e w' => e = .returned (.int .i64 (leaveE s n)) ∧ PurseAt w' b (s.take n) ∧ LockAt w' s.lb 0 ∧ Touch [b, s.lb] w w' := by
  have c := fun i => cell_row h i
  have HL := hid (lock_any h hl hne)
  have HM := hid (fun W (hW : PurseAt W b s) => mayLeave_any hW g n)
  by_cases he : leaveE s n = 0
  · rw [he] at HM
    have HTK := hid (show s.take n = { s with hand := s.hand + n, peak := max s.peak (s.hand + n + s.lent) } by simp [St.take, he])
    have HE := hid he
    have hn : 0 ≤ n ∧ n ≤ s.limit - (s.hand + s.lent) := by
      unfold leaveE at he
      split at he
      · simp at he
      split at he
      · simp at he
      split at he
      · simp at he
      omega
    have hw : wrap64 (s.hand + n) = s.hand + n := IntWalk.wrap64_in _ ⟨by have := g.hand; omega, by have := g.out; have := g.lent; have := g.limit; omega⟩
    have HR := hid (fun W (hW : PurseAt W b { s with hand := s.hand + n }) => raise_at hW (by have := g.hand; show (0 : Int) ≤ s.hand + n; omega) g.lent (by show s.hand + n + s.lent ≤ s.limit; omega) g.limit)
    have HN := hid hne
    clear h hl hne g he hn
    go_enter_defers Try.func10, Try.ntmps10
    go_wp2_with (first
      | (go_at_call 25; refine (HR.out _ ?_).mono ?_; exact heap_setCell_row HP2.out 3 _; rintro e w3 ⟨rfl, hp3, ht3⟩; have HP3 := hid hp3; have HT3 := hid ht3; clear hp3 ht3)
      | (go_at_call 24; refine (HM.out _ HP1.out).mono ?_; rintro e w2 ⟨rfl, hq⟩; have hp2 := PurseAt.quiet HP1.out hq; have HP2 := hid hp2; have HQ := hid hq; have c2 := (fun i => cell_row hp2 i); have f2 := (fun i => unfrozen_row hp2 i); clear hp2 hq)
      | (go_at_call 21; refine HL.out.mono ?_; rintro e w1 ⟨rfl, hp1, hl1, ht1⟩; have HP1 := hid hp1; have HL1 := hid hl1; have HT1 := hid ht1; have c1 := (fun i => cell_row hp1 i); clear hp1 hl1 ht1))
    refine leaves_cons (f := 22) (args := #[ptr s.lb]) (by simp) (by simp [go_sem]) ?_
    have t2 : Touch [b, s.lb] w w2 := (HT1.out.mono (by simp)).trans (Quiet.touch HQ.out []) (by simp)
    have t3 : Touch [b, s.lb] w w3 := (t2.setCell (p := ⟨b, 3, none⟩) (by simp) _).trans HT3.out (by simp)
    have hl3 : LockAt w3 s.lb 1 := LockAt.touch (w := w2.setCell ⟨b, 3, none⟩ (.int .i64 (s.hand + n))) ((Below.heap_setCell w2 _ _ s.lb (by simpa using HN.out.symm)).trans (LockAt.touch HL1.out (Quiet.touch HQ.out []) (by simp))) HT3.out (by simpa using HN.out.symm)
    refine (unlock_any .returning HP3.out hl3 HN.out).mono ?_
    rintro e u' w4 ⟨rfl, rfl, hp4, hl4, ht4⟩
    refine ⟨_, results_tmp rfl _ _ _, ?_⟩
    rw [HE.out, HTK.out]
    exact ⟨rfl, hp4, hl4, t3.trans ht4 (by simp)⟩
  · have HTK := hid (show s.take n = s by simp [St.take, he])
    have hk : (leaveE s n != 0) = true := by simpa using he
    have HN := hid hne
    clear h hl hne g he
    go_enter_defers Try.func10, Try.ntmps10
    go_wp2_with (first
      | (go_at_call 24; refine (HM.out _ HP1.out).mono ?_; rintro e w2 ⟨rfl, hq⟩; have hp2 := PurseAt.quiet HP1.out hq; have HP2 := hid hp2; have HQ := hid hq; clear hp2 hq)
      | (go_at_call 21; refine HL.out.mono ?_; rintro e w1 ⟨rfl, hp1, hl1, ht1⟩; have HP1 := hid hp1; have HL1 := hid hl1; have HT1 := hid ht1; have c1 := (fun i => cell_row hp1 i); clear hp1 hl1 ht1))
    refine leaves_cons (f := 22) (args := #[ptr s.lb]) (by simp) (by simp [go_sem]) ?_
    have t2 : Touch [b, s.lb] w w2 := (HT1.out.mono (by simp)).trans (Quiet.touch HQ.out []) (by simp)
    refine (unlock_any .returning HP2.out (LockAt.touch HL1.out (Quiet.touch HQ.out []) (by simp)) HN.out).mono ?_
    rintro e u' w4 ⟨rfl, rfl, hp4, hl4, ht4⟩
    refine ⟨_, results_tmp rfl _ _ _, ?_⟩
    rw [HTK.out]
    exact ⟨rfl, hp4, hl4, t2.trans ht4 (by simp)⟩
end
end Go.Proofs.Ytbanhpohnhjciaa
