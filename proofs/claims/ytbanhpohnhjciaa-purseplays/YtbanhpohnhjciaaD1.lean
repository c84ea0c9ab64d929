import Derived.Test.YtbanhpohnhjciaaA5
namespace Go.Proofs.Ytbanhpohnhjciaa
open Go.RowKit Go.MuLone

section
variable {w : World} {b : Nat} {s : St}

def St.lend (s : St) (n : Int) : St := { s with lent := s.lent + n, parts := s.parts + 1, peak := max s.peak (s.hand + (s.lent + n)) }
abbrev St.part (n : Int) (lb b : Nat) : St := ⟨n, lb, ptr b, 0, 0, 0, false, 0⟩

set_option maxRecDepth 100000 in
set_option maxHeartbeats 400000 in
theorem part_refused (h : PurseAt w b s) (hl : LockAt w s.lb 0) (hne : b ≠ s.lb) (g : s.Good) (n : Int) (he : leaveE s n ≠ 0) :
    Calls Try.prog 15 #[ptr b, .int .i64 n] w fun e w' => e = .returned (.tuple #[.pointer none, .int .i64 (leaveE s n)]) ∧ PurseAt w' b s ∧ LockAt w' s.lb 0 ∧ Touch [b, s.lb] w w' := by
  have c := fun i => cell_row h i
  have HL := hid (lock_any h hl hne)
  have HM := hid (fun W (hW : PurseAt W b s) => mayLeave_any hW g n)
  have hk : (leaveE s n != 0) = true := by simpa using he
  have HN := hid hne
  clear h hl hne g he
  go_enter_defers Try.func15, Try.ntmps15
  go_wp2_with (first
    | (go_at_call 24; refine (HM.out _ HP1.out).mono ?_; rintro e w2 ⟨rfl, hq⟩; have hp2 := PurseAt.quiet HP1.out hq; have HP2 := hid hp2; have HQ := hid hq; clear hp2 hq)
    | (go_at_call 21; refine HL.out.mono ?_; rintro e w1 ⟨rfl, hp1, hl1, ht1⟩; have HP1 := hid hp1; have HL1 := hid hl1; have HT1 := hid ht1; have c1 := (fun i => cell_row hp1 i); clear hp1 hl1 ht1))
  refine leaves_cons (f := 22) (args := #[ptr s.lb]) (by simp) (by simp [go_sem]) ?_
  have t2 : Touch [b, s.lb] w w2 := (HT1.out.mono (by simp)).trans (Quiet.touch HQ.out []) (by simp)
  refine (unlock_any .returning HP2.out (LockAt.touch HL1.out (Quiet.touch HQ.out []) (by simp)) HN.out).mono ?_
  rintro e u' w4 ⟨rfl, rfl, hp4, hl4, ht4⟩
  exact ⟨_, results_tmp2 rfl _ _ _, rfl, hp4, hl4, t2.trans ht4 (by simp)⟩

set_option maxRecDepth 100000 in
set_option maxHeartbeats 400000 in
theorem part_any (h : PurseAt w b s) (hl : LockAt w s.lb 0) (hne : b ≠ s.lb) (g : s.Good) (n : Int) (he : leaveE s n = 0) (hps : s.parts < 4611686018427387904) :
    Calls Try.prog 15 #[ptr b, .int .i64 n] w fun e w' => ∃ q, e = .returned (.tuple #[ptr q, .int .i64 0]) ∧ w.heap.size ≤ q ∧ PurseAt w' b (s.lend n) ∧ PurseAt w' q (.part n s.lb b) ∧ LockAt w' s.lb 0 ∧ Touch [b, s.lb] w w' := by
  have c := fun i => cell_row h i
  have HL := hid (lock_any h hl hne)
  have HM := hid (fun W (hW : PurseAt W b s) => mayLeave_any hW g n)
  rw [he] at HM
  obtain ⟨_, n0, n1⟩ := leave_ok he
  have hw : wrap64 (s.lent + n) = s.lent + n := IntWalk.wrap64_in _ ⟨by have := g.lent; omega, by have := g.out; have := g.hand; have := g.limit; omega⟩
  have hw2 : wrap64 (s.parts + 1) = s.parts + 1 := IntWalk.wrap64_in _ ⟨by have := g.parts; omega, by omega⟩
  have HR := hid (fun W (hW : PurseAt W b { s with lent := s.lent + n, parts := s.parts + 1 }) => raise_at hW g.hand (by have := g.lent; show (0 : Int) ≤ s.lent + n; omega) (by show s.hand + (s.lent + n) ≤ s.limit; omega) g.limit)
  have HN := hid hne
  clear h hl hne g he n0 n1 hps
  go_enter_defers Try.func15, Try.ntmps15
  go_wp2_with (first
    | (go_at_call 25; refine (HR.out _ ?_).mono ?_; exact heap_setCell_row (heap_setCell_row HP2.out 4 _) 5 _; rintro e w3 ⟨rfl, hp3, ht3⟩; have HP3 := hid hp3; have HT3 := hid ht3; have c3 := (fun i => cell_row hp3 i); clear hp3 ht3)
    | (go_at_call 24; refine (HM.out _ HP1.out).mono ?_; rintro e w2 ⟨rfl, hq⟩; have hp2 := PurseAt.quiet HP1.out hq; have HP2 := hid hp2; have HQ := hid hq; have c2 := (fun i => cell_row hp2 i); have f2 := (fun i => unfrozen_row hp2 i); clear hp2 hq)
    | (go_at_call 21; refine HL.out.mono ?_; rintro e w1 ⟨rfl, hp1, hl1, ht1⟩; have HP1 := hid hp1; have HL1 := hid hl1; have HT1 := hid ht1; have c1 := (fun i => cell_row hp1 i); clear hp1 hl1 ht1))
  refine leaves_cons (f := 22) (args := #[ptr s.lb]) (by simp) (by simp [go_sem]) ?_
  have t2 : Touch [b, s.lb] w w2 := (HT1.out.mono (by simp)).trans (Quiet.touch HQ.out []) (by simp)
  have t3 : Touch [b, s.lb] w w3 := ((t2.setCell (p := ⟨b, 4, none⟩) (by simp) _).setCell (p := ⟨b, 5, none⟩) (by simp) _).trans HT3.out (by simp)
  have hl2 : LockAt ((w2.setCell ⟨b, 4, none⟩ (.int .i64 (s.lent + n))).setCell ⟨b, 5, none⟩ (.int .i64 (s.parts + 1))) s.lb 1 :=
    (Below.heap_setCell _ _ _ s.lb (by simpa using HN.out.symm)).trans ((Below.heap_setCell w2 _ _ s.lb (by simpa using HN.out.symm)).trans (LockAt.touch HL1.out (Quiet.touch HQ.out []) (by simp)))
  have hl3 : LockAt w3 s.lb 1 := LockAt.touch hl2 HT3.out (by simpa using HN.out.symm)
  obtain ⟨X, hX⟩ : ∃ X, X = w3.alloc (.cells #[.int .i64 n, ptr s.lb, ptr b, .int .i64 0, .int .i64 0, .int .i64 0, .bool false, .int .i64 0] 60) := ⟨_, rfl⟩
  have tX : Touch [] w3 X := by rw [hX]; exact (Touch.refl [] w3).alloc _
  have qX : PurseAt X w3.heap.size (.part n s.lb b) := by rw [hX]; exact heap_new w3 _
  rw [← hX]
  have hqb : w3.heap.size ≠ s.lb := fun e => by have := lt_of_block hl3; omega
  refine (unlock_any .returning (HP3.out.touch tX (by simp)) (hl3.touch tX (by simp)) HN.out).mono ?_
  rintro e u' w4 ⟨rfl, rfl, hp4, hl4, ht4⟩
  exact ⟨_, results_tmp2 rfl _ _ _, w3.heap.size, rfl, t3.size, hp4, qX.touch ht4 (by simpa using hqb), hl4, (t3.trans tX (by simp)).trans ht4 (by simp)⟩

def isNil : Value → Bool
  | .pointer none => true
  | _ => false
def closeE (s : St) : Int := if s.closed then 6 else if isNil s.whole then 1 else if s.hand > 0 ∨ s.parts > 0 then 20 else 0

set_option maxRecDepth 100000 in
set_option maxHeartbeats 400000 in
theorem close_refused (h : PurseAt w b s) (hl : LockAt w s.lb 0) (hne : b ≠ s.lb) (hwh : s.whole = .pointer none ∨ ∃ p, s.whole = ptr p) (he : closeE s ≠ 0) :
    Calls Try.prog 17 #[ptr b] w fun e w' => e = .returned (.int .i64 (closeE s)) ∧ PurseAt w' b s ∧ LockAt w' s.lb 0 ∧ Touch [b, s.lb] w w' := by
  have c := fun i => cell_row h i
  have HL := hid (lock_any h hl hne)
  have HN := hid hne
  clear h hl hne
  by_cases hc : s.closed = true
  · have HE := hid (show closeE s = 6 by simp [closeE, hc])
    clear he hwh
    go_enter_defers Try.func17, Try.ntmps17
    go_wp2_with (first
      | (go_at_call 21; refine HL.out.mono ?_; rintro e w1 ⟨rfl, hp1, hl1, ht1⟩; have HP1 := hid hp1; have HL1 := hid hl1; have HT1 := hid ht1; have c1 := (fun i => cell_row hp1 i); clear hp1 hl1 ht1))
    refine leaves_cons (f := 22) (args := #[ptr s.lb]) (by simp) (by simp [go_sem]) ?_
    refine (unlock_any .returning HP1.out HL1.out HN.out).mono ?_
    rintro e u' w4 ⟨rfl, rfl, hp4, hl4, ht4⟩
    refine ⟨_, results_tmp rfl _ _ _, ?_⟩
    rw [HE.out]
    exact ⟨rfl, hp4, hl4, (HT1.out.mono (by simp)).trans ht4 (by simp)⟩
  · rcases hwh with hwh | ⟨p, hwh⟩
    · have HE := hid (show closeE s = 1 by simp [closeE, hc, hwh, isNil])
      clear he
      simp only [hwh, St.row] at c
      go_enter_defers Try.func17, Try.ntmps17
      go_wp2_with (first
        | (go_at_call 21; refine HL.out.mono ?_; rintro e w1 ⟨rfl, hp1, hl1, ht1⟩; have HP1 := hid hp1; have HL1 := hid hl1; have HT1 := hid ht1; have c1 := (fun i => cell_row hp1 i); clear hp1 hl1 ht1))
      refine leaves_cons (f := 22) (args := #[ptr s.lb]) (by simp) (by simp [go_sem]) ?_
      refine (unlock_any .returning HP1.out HL1.out HN.out).mono ?_
      rintro e u' w4 ⟨rfl, rfl, hp4, hl4, ht4⟩
      refine ⟨_, results_tmp rfl _ _ _, ?_⟩
      rw [HE.out]
      exact ⟨rfl, hp4, hl4, (HT1.out.mono (by simp)).trans ht4 (by simp)⟩
    · have hhp : s.hand > 0 ∨ s.parts > 0 := by
        apply Classical.byContradiction
        intro hn
        exact he (by simp only [closeE, hc, hwh, hn, isNil]; simp)
      have HE := hid (show closeE s = 20 by simp only [closeE, hc, hwh, hhp, isNil]; simp)
      clear he
      by_cases hh : s.hand > 0
      · clear hhp
        go_enter_defers Try.func17, Try.ntmps17
        go_wp2_with (first
          | (go_at_call 21; refine HL.out.mono ?_; rintro e w1 ⟨rfl, hp1, hl1, ht1⟩; have HP1 := hid hp1; have HL1 := hid hl1; have HT1 := hid ht1; have c1 := (fun i => cell_row hp1 i); clear hp1 hl1 ht1))
        refine leaves_cons (f := 22) (args := #[ptr s.lb]) (by simp) (by simp [go_sem]) ?_
        refine (unlock_any .returning HP1.out HL1.out HN.out).mono ?_
        rintro e u' w4 ⟨rfl, rfl, hp4, hl4, ht4⟩
        refine ⟨_, results_tmp rfl _ _ _, ?_⟩
        rw [HE.out]
        exact ⟨rfl, hp4, hl4, (HT1.out.mono (by simp)).trans ht4 (by simp)⟩
      · have hp' : s.parts > 0 := by omega
        clear hhp
        go_enter_defers Try.func17, Try.ntmps17
        go_wp2_with (first
          | (go_at_call 21; refine HL.out.mono ?_; rintro e w1 ⟨rfl, hp1, hl1, ht1⟩; have HP1 := hid hp1; have HL1 := hid hl1; have HT1 := hid ht1; have c1 := (fun i => cell_row hp1 i); clear hp1 hl1 ht1))
        refine leaves_cons (f := 22) (args := #[ptr s.lb]) (by simp) (by simp [go_sem]) ?_
        refine (unlock_any .returning HP1.out HL1.out HN.out).mono ?_
        rintro e u' w4 ⟨rfl, rfl, hp4, hl4, ht4⟩
        refine ⟨_, results_tmp rfl _ _ _, ?_⟩
        rw [HE.out]
        exact ⟨rfl, hp4, hl4, (HT1.out.mono (by simp)).trans ht4 (by simp)⟩
end
end Go.Proofs.Ytbanhpohnhjciaa
