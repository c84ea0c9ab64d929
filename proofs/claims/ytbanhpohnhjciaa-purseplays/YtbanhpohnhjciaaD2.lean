import Derived.Test.YtbanhpohnhjciaaD1
namespace Go.Proofs.Ytbanhpohnhjciaa
open Go.RowKit Go.MuLone

section
variable {w : World} {b p : Nat} {s t : St}

abbrev St.shut (s : St) : St := { s with whole := .pointer none, closed := true }
abbrev St.back (t : St) (n : Int) : St := { t with lent := t.lent - n, parts := t.parts - 1 }

set_option maxRecDepth 100000 in
set_option maxHeartbeats 400000 in
theorem close_any (h : PurseAt w b s) (hp : PurseAt w p t) (hl : LockAt w s.lb 0) (hne : b ≠ s.lb) (hpl : p ≠ s.lb) (hbp : b ≠ p) (hwh : s.whole = ptr p) (he : closeE s = 0) (g1 : 0 ≤ s.limit) (g2 : s.limit ≤ t.lent) (g3 : t.lent ≤ 9223372036854775807) (g4 : 1 ≤ t.parts) (g5 : t.parts ≤ 4611686018427387904) :
    Calls Try.prog 17 #[ptr b] w fun e w' => e = .returned (.int .i64 0) ∧ PurseAt w' b s.shut ∧ PurseAt w' p (t.back s.limit) ∧ LockAt w' s.lb 0 ∧ Touch [b, p, s.lb] w w' := by
  obtain ⟨hc, hh, hps⟩ : s.closed = false ∧ ¬ s.hand > 0 ∧ ¬ s.parts > 0 := by
    unfold closeE at he
    split at he
    · simp at he
    split at he
    · simp at he
    split at he
    · simp at he
    rename_i h1 _ h3
    exact ⟨by simpa using h1, by omega, by omega⟩
  have c := fun i => cell_row h i
  have HL := hid (lock_any h hl hne)
  have HP := hid hp
  have HN := hid (And.intro hne (And.intro hpl hbp))
  have hw1 : IntKind.i64.wrap (t.lent - s.limit) = t.lent - s.limit := (IntWalk.i64_left _).trans <| IntWalk.wrap64_in _ ⟨by omega, by omega⟩
  have hw2 : wrap64 (t.parts - 1) = t.parts - 1 := IntWalk.wrap64_in _ ⟨by omega, by omega⟩
  have nb : ∀ i j : Nat, (⟨p, i, none⟩ : Addr) ≠ ⟨b, j, none⟩ := fun i j e => hbp (congrArg Addr.block e).symm
  clear h hl hne hp hpl he g1 g2 g3 g4 g5
  go_enter_defers Try.func17, Try.ntmps17
  go_wp2_with (first
    | (go_at_call 21; refine HL.out.mono ?_; rintro e w1 ⟨rfl, hp1, hl1, ht1⟩; have HP1 := hid hp1; have HL1 := hid hl1; have HT1 := hid ht1; have c1 := (fun i => cell_row hp1 i); have f1 := (fun i => unfrozen_row hp1 i); have hpp := HP.out.touch ht1 (by simpa using HN.out.2.1); have HPP := hid hpp; have c2 := (fun i => cell_row hpp i); have f2 := (fun i => unfrozen_row hpp i); clear hp1 hl1 ht1 hpp))
  go_region
  obtain ⟨X, hX⟩ : ∃ X, X = (w1.setCell ⟨p, 4, none⟩ (.int .i64 (t.lent - s.limit))).drew := ⟨_, rfl⟩
  have pX : PurseAt X p { t with lent := t.lent - s.limit } := by rw [hX]; exact heap_setCell_row HPP.out 4 _
  have bX : PurseAt X b s := by rw [hX]; exact (Below.heap_setCell w1 _ _ b HN.out.2.2).trans HP1.out
  have lX : LockAt X s.lb 1 := by rw [hX]; exact (Below.heap_setCell w1 _ _ s.lb HN.out.2.1.symm).trans HL1.out
  have tX : Touch [b, p, s.lb] w X := by rw [hX]; exact ((HT1.out.mono (by simp)).setCell (by simp) _).drew
  rw [← hX]
  have x1 := fun i => cell_row pX i
  have x2 := fun i => unfrozen_row pX i
  have x3 := fun i => cell_row bX i
  have x4 := fun i => unfrozen_row bX i
  have PX := hid pX
  have BX := hid bX
  have LX := hid lX
  have TX := hid tX
  clear hX pX bX lX tX c1 c2 f1 f2
  go_wp2
  refine leaves_cons (f := 22) (args := #[ptr s.lb]) (by simp) (by simp [go_sem]) ?_
  have pY : PurseAt (X.setCell ⟨p, 5, none⟩ (.int .i64 (t.parts - 1))) p (t.back s.limit) := heap_setCell_row PX.out 5 _
  have bY : PurseAt (((X.setCell ⟨p, 5, none⟩ (.int .i64 (t.parts - 1))).setCell ⟨b, 2, none⟩ (.pointer none)).setCell ⟨b, 6, none⟩ (.bool true)) b s.shut := heap_setCell_row (heap_setCell_row ((Below.heap_setCell X _ _ b HN.out.2.2).trans BX.out) 2 _) 6 _
  have pZ : PurseAt (((X.setCell ⟨p, 5, none⟩ (.int .i64 (t.parts - 1))).setCell ⟨b, 2, none⟩ (.pointer none)).setCell ⟨b, 6, none⟩ (.bool true)) p (t.back s.limit) := (Below.heap_setCell _ _ _ p HN.out.2.2.symm).trans ((Below.heap_setCell _ _ _ p HN.out.2.2.symm).trans pY)
  have lZ : LockAt (((X.setCell ⟨p, 5, none⟩ (.int .i64 (t.parts - 1))).setCell ⟨b, 2, none⟩ (.pointer none)).setCell ⟨b, 6, none⟩ (.bool true)) s.lb 1 := (Below.heap_setCell _ _ _ s.lb HN.out.1.symm).trans ((Below.heap_setCell _ _ _ s.lb HN.out.1.symm).trans ((Below.heap_setCell _ _ _ s.lb HN.out.2.1.symm).trans LX.out))
  have tZ : Touch [b, p, s.lb] w (((X.setCell ⟨p, 5, none⟩ (.int .i64 (t.parts - 1))).setCell ⟨b, 2, none⟩ (.pointer none)).setCell ⟨b, 6, none⟩ (.bool true)) := ((TX.out.setCell (by simp) _).setCell (by simp) _).setCell (by simp) _
  refine (unlock_any .returning bY lZ HN.out.1).mono ?_
  rintro e u' w4 ⟨rfl, rfl, hp4, hl4, ht4⟩
  refine ⟨_, results_tmp rfl _ _ _, rfl, hp4, pZ.touch ht4 (by simpa using HN.out.2.1), hl4, tZ.trans ht4 (by simp)⟩
end
end Go.Proofs.Ytbanhpohnhjciaa
