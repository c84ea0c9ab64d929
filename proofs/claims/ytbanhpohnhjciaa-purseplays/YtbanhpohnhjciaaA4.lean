import Derived.Test.YtbanhpohnhjciaaA3
namespace Go.Proofs.Ytbanhpohnhjciaa
open Go.RowKit Go.MuLone

section
variable {w : World} {b : Nat} {s : St}

set_option maxRecDepth 100000 in
set_option maxHeartbeats 400000 in
theorem give_any (h : PurseAt w b s) (hl : LockAt w s.lb 0) (hne : b ≠ s.lb) (g : s.Good) (n : Int) :
    Calls Try.prog 9 #[ptr b, .int .i64 n] w fun e w' => e = .returned (.int .i64 (giveE s n)) ∧ PurseAt w' b (s.give n) ∧ LockAt w' s.lb 0 ∧ Touch [b, s.lb] w w' := by
  have c := fun i => cell_row h i
  have HL := hid (lock_any h hl hne)
  have HM := hid (fun W (hW : PurseAt W b s) => mayMove_any hW n)
  have HN := hid hne
  by_cases he : moveE s n = 0
  · rw [he] at HM
    have hn : s.closed = false ∧ 0 ≤ n := by
      unfold moveE at he
      split at he
      · simp at he
      split at he
      · simp at he
      rename_i h1 h2
      exact ⟨by simpa using h1, by omega⟩
    by_cases hg : n > s.hand
    · have HE := hid (show giveE s n = 20 by simp only [giveE, hn.1, hg]; simp; omega)
      have HTK := hid (show s.give n = s by simp [St.give, HE.out])
      clear h hl hne g he hn
      go_enter_defers Try.func9, Try.ntmps9
      go_wp2_with (first
        | (go_at_call 23; refine (HM.out _ HP1.out).mono ?_; rintro e w2 ⟨rfl, rfl⟩)
        | (go_at_call 21; refine HL.out.mono ?_; rintro e w1 ⟨rfl, hp1, hl1, ht1⟩; have HP1 := hid hp1; have HL1 := hid hl1; have HT1 := hid ht1; have c1 := (fun i => cell_row hp1 i); clear hp1 hl1 ht1))
      refine leaves_cons (f := 22) (args := #[ptr s.lb]) (by simp) (by simp [go_sem]) ?_
      refine (unlock_any .returning HP1.out HL1.out HN.out).mono ?_
      rintro e u' w4 ⟨rfl, rfl, hp4, hl4, ht4⟩
      refine ⟨_, results_tmp rfl _ _ _, ?_⟩
      rw [HE.out, HTK.out]
      exact ⟨rfl, hp4, hl4, (HT1.out.mono (by simp)).trans ht4 (by simp)⟩
    · have HE := hid (show giveE s n = 0 by simp only [giveE, hn.1, hg]; simp; omega)
      have HTK := hid (show s.give n = { s with hand := s.hand - n } by simp [St.give, HE.out])
      have hw : wrap64 (s.hand - n) = s.hand - n := IntWalk.wrap64_in _ ⟨by omega, by have := g.hand; have := g.lent; have := g.out; have := g.limit; omega⟩
      clear h hl hne g he hn
      go_enter_defers Try.func9, Try.ntmps9
      go_wp2_with (first
        | (go_at_call 23; refine (HM.out _ HP1.out).mono ?_; rintro e w2 ⟨rfl, rfl⟩)
        | (go_at_call 21; refine HL.out.mono ?_; rintro e w1 ⟨rfl, hp1, hl1, ht1⟩; have HP1 := hid hp1; have HL1 := hid hl1; have HT1 := hid ht1; have c1 := (fun i => cell_row hp1 i); have f1 := (fun i => unfrozen_row hp1 i); clear hp1 hl1 ht1))
      refine leaves_cons (f := 22) (args := #[ptr s.lb]) (by simp) (by simp [go_sem]) ?_
      have hp2 : PurseAt (w2.setCell ⟨b, 3, none⟩ (.int .i64 (s.hand - n))) b { s with hand := s.hand - n } := heap_setCell_row HP1.out 3 _
      have hl2 : LockAt (w2.setCell ⟨b, 3, none⟩ (.int .i64 (s.hand - n))) s.lb 1 := (Below.heap_setCell w2 _ _ s.lb (by simpa using HN.out.symm)).trans HL1.out
      refine (unlock_any .returning hp2 hl2 HN.out).mono ?_
      rintro e u' w4 ⟨rfl, rfl, hp4, hl4, ht4⟩
      refine ⟨_, results_tmp rfl _ _ _, ?_⟩
      rw [HE.out, HTK.out]
      exact ⟨rfl, hp4, hl4, ((HT1.out.mono (by simp)).setCell (by simp) _).trans ht4 (by simp)⟩
  · have HE := hid (show giveE s n = moveE s n by unfold moveE giveE at *; split at he <;> simp_all)
    have hne0 : giveE s n ≠ 0 := by rw [HE.out]; exact he
    have HTK := hid (show s.give n = s by simp [St.give, hne0])
    have hk : (moveE s n != 0) = true := by simpa using he
    clear h hl hne g he hne0
    go_enter_defers Try.func9, Try.ntmps9
    go_wp2_with (first
      | (go_at_call 23; refine (HM.out _ HP1.out).mono ?_; rintro e w2 ⟨rfl, rfl⟩)
      | (go_at_call 21; refine HL.out.mono ?_; rintro e w1 ⟨rfl, hp1, hl1, ht1⟩; have HP1 := hid hp1; have HL1 := hid hl1; have HT1 := hid ht1; have c1 := (fun i => cell_row hp1 i); clear hp1 hl1 ht1))
    refine leaves_cons (f := 22) (args := #[ptr s.lb]) (by simp) (by simp [go_sem]) ?_
    refine (unlock_any .returning HP1.out HL1.out HN.out).mono ?_
    rintro e u' w4 ⟨rfl, rfl, hp4, hl4, ht4⟩
    refine ⟨_, results_tmp rfl _ _ _, ?_⟩
    rw [HE.out, HTK.out]
    exact ⟨rfl, hp4, hl4, (HT1.out.mono (by simp)).trans ht4 (by simp)⟩

set_option maxRecDepth 100000 in
set_option maxHeartbeats 400000 in
theorem used_any (h : PurseAt w b s) (hl : LockAt w s.lb 0) (hne : b ≠ s.lb) (g : s.Good) :
    Calls Try.prog 11 #[ptr b] w fun e w' => e = .returned (.int .i64 (s.hand + s.lent)) ∧ PurseAt w' b s ∧ LockAt w' s.lb 0 ∧ Touch [b, s.lb] w w' := by
  have c := fun i => cell_row h i
  have HL := hid (lock_any h hl hne)
  have HO := hid (fun W (hW : PurseAt W b s) => out_any hW g)
  have HN := hid hne
  clear h hl hne g
  go_enter_defers Try.func11, Try.ntmps11
  go_wp2_with (first
    | (go_at_call 26; refine (HO.out _ HP1.out).mono ?_; rintro e w2 ⟨rfl, hq⟩; have hp2 := PurseAt.quiet HP1.out hq; have HP2 := hid hp2; have HQ := hid hq; clear hp2 hq)
    | (go_at_call 21; refine HL.out.mono ?_; rintro e w1 ⟨rfl, hp1, hl1, ht1⟩; have HP1 := hid hp1; have HL1 := hid hl1; have HT1 := hid ht1; have c1 := (fun i => cell_row hp1 i); clear hp1 hl1 ht1))
  refine leaves_cons (f := 22) (args := #[ptr s.lb]) (by simp) (by simp [go_sem]) ?_
  have t2 : Touch [b, s.lb] w w2 := (HT1.out.mono (by simp)).trans (Quiet.touch HQ.out []) (by simp)
  refine (unlock_any .returning HP2.out (LockAt.touch HL1.out (Quiet.touch HQ.out []) (by simp)) HN.out).mono ?_
  rintro e u' w4 ⟨rfl, rfl, hp4, hl4, ht4⟩
  refine ⟨_, results_tmp rfl _ _ _, ?_⟩
  exact ⟨rfl, hp4, hl4, t2.trans ht4 (by simp)⟩

def St.free (s : St) : Int := if s.closed then 0 else s.limit - (s.hand + s.lent)

set_option maxRecDepth 100000 in
set_option maxHeartbeats 400000 in
theorem Free_any (h : PurseAt w b s) (hl : LockAt w s.lb 0) (hne : b ≠ s.lb) (g : s.Good) :
    Calls Try.prog 12 #[ptr b] w fun e w' => e = .returned (.int .i64 s.free) ∧ PurseAt w' b s ∧ LockAt w' s.lb 0 ∧ Touch [b, s.lb] w w' := by
  have c := fun i => cell_row h i
  have HL := hid (lock_any h hl hne)
  have HO := hid (fun W (hW : PurseAt W b s) => free_any hW g)
  have HN := hid hne
  clear h hl hne g
  cases hc : s.closed with
  | true =>
    have HF := hid (show s.free = 0 by simp [St.free, hc])
    go_enter_defers Try.func12, Try.ntmps12
    go_wp2_with (first
      | (go_at_call 21; refine HL.out.mono ?_; rintro e w1 ⟨rfl, hp1, hl1, ht1⟩; have HP1 := hid hp1; have HL1 := hid hl1; have HT1 := hid ht1; have c1 := (fun i => cell_row hp1 i); clear hp1 hl1 ht1))
    refine leaves_cons (f := 22) (args := #[ptr s.lb]) (by simp) (by simp [go_sem]) ?_
    refine (unlock_any .returning HP1.out HL1.out HN.out).mono ?_
    rintro e u' w4 ⟨rfl, rfl, hp4, hl4, ht4⟩
    refine ⟨_, results_tmp rfl _ _ _, ?_⟩
    rw [HF.out]
    exact ⟨rfl, hp4, hl4, (HT1.out.mono (by simp)).trans ht4 (by simp)⟩
  | false =>
    have HF := hid (show s.free = s.limit - (s.hand + s.lent) by simp [St.free, hc])
    go_enter_defers Try.func12, Try.ntmps12
    go_wp2_with (first
      | (go_at_call 27; refine (HO.out _ HP1.out).mono ?_; rintro e w2 ⟨rfl, hq⟩; have hp2 := PurseAt.quiet HP1.out hq; have HP2 := hid hp2; have HQ := hid hq; clear hp2 hq)
      | (go_at_call 21; refine HL.out.mono ?_; rintro e w1 ⟨rfl, hp1, hl1, ht1⟩; have HP1 := hid hp1; have HL1 := hid hl1; have HT1 := hid ht1; have c1 := (fun i => cell_row hp1 i); clear hp1 hl1 ht1))
    refine leaves_cons (f := 22) (args := #[ptr s.lb]) (by simp) (by simp [go_sem]) ?_
    have t2 : Touch [b, s.lb] w w2 := (HT1.out.mono (by simp)).trans (Quiet.touch HQ.out []) (by simp)
    refine (unlock_any .returning HP2.out (LockAt.touch HL1.out (Quiet.touch HQ.out []) (by simp)) HN.out).mono ?_
    rintro e u' w4 ⟨rfl, rfl, hp4, hl4, ht4⟩
    refine ⟨_, results_tmp rfl _ _ _, ?_⟩
    rw [HF.out]
    exact ⟨rfl, hp4, hl4, t2.trans ht4 (by simp)⟩

set_option maxRecDepth 100000 in
set_option maxHeartbeats 400000 in
theorem peak_any (h : PurseAt w b s) : Calls Try.prog 13 #[ptr b] w fun e w' => e = .returned (.int .i64 s.peak) ∧ w' = w := by
  have HP := hid (load_any (w := w) (a := ⟨b, 7, none⟩) (x := s.peak) (cell_row h 7))
  clear h
  go_enter Try.func13, Try.ntmps13
  go_wp2_with (go_at_call 28; refine HP.out.mono ?_; rintro e w' ⟨rfl, rfl⟩)
  go_ret
  exact ⟨rfl, rfl⟩

set_option maxRecDepth 100000 in
set_option maxHeartbeats 400000 in
theorem limit_any (h : PurseAt w b s) : Calls Try.prog 14 #[ptr b] w fun e w' => e = .returned (.int .i64 s.limit) ∧ w' = w := by
  have c := fun i => cell_row h i
  clear h
  go_enter Try.func14, Try.ntmps14
  go_wp2
  go_ret
  exact ⟨rfl, rfl⟩

set_option maxRecDepth 100000 in
set_option maxHeartbeats 400000 in
theorem new_refused {n : Int} (hn : n < 0) (w : World) : Calls Try.prog 8 #[.int .i64 n] w fun e w' => e = .returned (.tuple #[.pointer none, .int .i64 1]) ∧ w' = w := by
  go_enter Try.func8, Try.ntmps8
  go_wp2
  go_ret2
  exact ⟨rfl, rfl⟩

theorem heap_new (w : World) (o : Obj) : (w.alloc o).heap[w.heap.size]? = some o := by show (w.heap.push o)[w.heap.size]? = some o; simp
theorem heap_two (w : World) (o p : Obj) : ((w.alloc o).alloc p).heap[w.heap.size]? = some o ∧ ((w.alloc o).alloc p).heap[w.heap.size + 1]? = some p := by
  have h1 : (w.alloc o).heap.size = w.heap.size + 1 := by simp
  refine ⟨(Below.heap_alloc _ p _ (by omega)).trans (heap_new w o), ?_⟩
  have := heap_new (w.alloc o) p
  rwa [h1] at this

abbrev St.new (n : Int) (lb : Nat) : St := ⟨n, lb, .pointer none, 0, 0, 0, false, 0⟩

set_option maxRecDepth 100000 in
set_option maxHeartbeats 400000 in
theorem new_any {n : Int} (hn : 0 ≤ n) (w : World) : Calls Try.prog 8 #[.int .i64 n] w fun e w' =>
    ∃ b lb, e = .returned (.tuple #[ptr b, .int .i64 0]) ∧ w.heap.size ≤ b ∧ w.heap.size ≤ lb ∧ b ≠ lb ∧ PurseAt w' b (.new n lb) ∧ LockAt w' lb 0 ∧ Touch [] w w' := by
  go_enter Try.func8, Try.ntmps8
  go_wp2
  go_ret2
  refine ⟨w.heap.size + 1, w.heap.size, rfl, by omega, Nat.le_refl _, by omega, ?_, ?_, ((Touch.refl [] w).alloc _).alloc _⟩
  · exact (heap_two w _ _).2
  · exact (heap_two w _ _).1
end
end Go.Proofs.Ytbanhpohnhjciaa
