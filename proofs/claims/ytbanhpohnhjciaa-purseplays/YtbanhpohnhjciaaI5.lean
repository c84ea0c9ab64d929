/-
  step: Take, Give and Close of both sides.
-/
import Derived.Test.YtbanhpohnhjciaaI4
namespace Go.Proofs.Ytbanhpohnhjciaa
open Go.RowKit Go.MuLone

/-- A block of some node (its lists aside). -/
def InF (n : Nat) (f : Nat → Nd) (b : Nat) : Prop := ∃ j, j < n ∧ (b = (f j).pb ∨ b = (f j).s.lb ∨ b = (f j).rb)

/-- The nodes lie where they lay. -/
def Same (f f' : Nat → Nd) : Prop := ∀ j, (f' j).pb = (f j).pb ∧ (f' j).rb = (f j).rb ∧ (f' j).r.pv = (f j).r.pv

section
variable {w w' : World} {base n : Nat} {f : Nat → Nd} {i p : Nat}

theorem InF.pp (hi : i < n) : InF n f (f i).pb := ⟨i, hi, .inl rfl⟩
theorem InF.l (hi : i < n) : InF n f (f i).s.lb := ⟨i, hi, .inr (.inl rfl)⟩
theorem InF.r (hi : i < n) : InF n f (f i).rb := ⟨i, hi, .inr (.inr rfl)⟩

theorem Mem.typed (M : Mem w base n f) {b : Nat} (h : InF n f b) : ∃ c t, w.heap[b]? = some (.cells c t (0, 0)) ∧ (t = 60 ∨ t = 54 ∨ t = 69) := by
  obtain ⟨j, hj, rfl | rfl | rfl⟩ := h
  · exact ⟨_, _, M.pur j hj, .inl rfl⟩
  · exact ⟨_, _, M.lock j hj, .inr (.inl rfl)⟩
  · exact ⟨_, _, M.row j hj, .inr (.inr rfl)⟩

/-- What a step of one node leaves. -/
def Stepped (w : World) (base n : Nat) (f : Nat → Nd) (w' : World) : Prop :=
  ∃ f' F, Mem w' base n f' ∧ Laws n f' ∧ Same f f' ∧ Touch F w w' ∧ ∀ b ∈ F, InF n f b

theorem Same.take (s : St) (r : Rf) (h : r.pv = (f i).r.pv) : Same f (updR (updS f i s) i r) := fun j => by
  refine ⟨by rw [updR_pb, updS_pb], by rw [updR_rb, updS_rb], ?_⟩
  by_cases e : j = i
  · subst e; rw [updR_at, h]
  · rw [updR_ne _ i r j e, updS_r]

theorem Same.close (s t : St) (r : Rf) (h : r.pv = (f i).r.pv) : Same f (updR (updS (updS f i s) p t) i r) := fun j => by
  refine ⟨by rw [updR_pb, updS_pb, updS_pb], by rw [updR_rb, updS_rb, updS_rb], ?_⟩
  by_cases e : j = i
  · subst e; rw [updR_at, h]
  · rw [updR_ne _ i r j e, updS_r, updS_r]

theorem Same.refl (f : Nat → Nd) : Same f f := fun _ => ⟨rfl, rfl, rfl⟩

/-- Two calls, one behind the other, each with one number: the document answers as the program did. -/
structure Two (base n : Nat) (f : Nat → Nd) (pb rb : Nat) (fp fr : Nat) (args : List Value) (W : World) (x : Int) : Prop where
  first : Calls Try.prog fp (ptr pb :: args).toArray W fun e w1 => e = .returned (.int .i64 x) ∧ (∃ F, Touch F W w1 ∧ ∀ b ∈ F, InF n f b) ∧
    Calls Try.prog fr (ptr rb :: args).toArray w1 fun e w2 => e = .returned (.int .i64 x) ∧ Stepped W base n f w2

theorem two_take (M : Mem w base n f) (L : Laws n f) (hn : n ≤ 9223372036854775807) (hi : i < n) (m : Int) : Two base n f (f i).pb (f i).rb 10 31 [.int .i64 m] w (leaveE (f i).s m) := by
  refine ⟨(M.takeP hi (L.good i hi) m).mono ?_⟩
  rintro _ w1 ⟨rfl, m1, t1⟩
  refine ⟨rfl, ⟨_, t1, by simp; exact ⟨InF.pp hi, InF.l hi⟩⟩, ?_⟩
  have hR := m1.takeR (L.ref.updS _) hn hi m
  rw [updS_rb, updS_r, updS_kids, kl_updS] at hR
  refine hR.mono ?_
  rintro _ w2 ⟨rfl, m2, t2⟩
  refine ⟨by rw [L.leave hi m], _, [(f i).pb, (f i).s.lb, (f i).rb], m2, L.take hi m, Same.take _ _ (Rf.take_pv _ _ _), ?_, by simp; exact ⟨InF.pp hi, InF.l hi, InF.r hi⟩⟩
  exact (t1.mono (by simp)).trans t2 (by simp)

theorem two_give (M : Mem w base n f) (L : Laws n f) (hn : n ≤ 9223372036854775807) (hi : i < n) (m : Int) : Two base n f (f i).pb (f i).rb 9 32 [.int .i64 m] w (giveE (f i).s m) := by
  refine ⟨(M.giveP hi (L.good i hi) m).mono ?_⟩
  rintro _ w1 ⟨rfl, m1, t1⟩
  refine ⟨rfl, ⟨_, t1, by simp; exact ⟨InF.pp hi, InF.l hi⟩⟩, ?_⟩
  have hR := m1.giveR (L.ref.updS _) hn hi m
  rw [updS_rb, updS_r] at hR
  refine hR.mono ?_
  rintro _ w2 ⟨rfl, m2, t2⟩
  refine ⟨by rw [L.giveEq hi m], _, [(f i).pb, (f i).s.lb, (f i).rb], m2, L.give hi m, Same.take _ _ (Rf.give_pv _ _), ?_, by simp; exact ⟨InF.pp hi, InF.l hi, InF.r hi⟩⟩
  exact (t1.mono (by simp)).trans t2 (by simp)

theorem two_close (M : Mem w base n f) (L : Laws n f) (hn : n ≤ 9223372036854775807) (hi : i < n) : Two base n f (f i).pb (f i).rb 17 33 [] w (closeE (f i).s) := by
  by_cases he : closeE (f i).s = 0
  · obtain ⟨ho, p, hp, hpi, him, hw, hl⟩ := L.whole hi he
    refine ⟨(M.closeP L hi hp hpi him hw hl he ho).mono ?_⟩
    rintro _ w1 ⟨rfl, m1, t1⟩
    refine ⟨by rw [he], ⟨_, t1, by simp; exact ⟨InF.pp hi, InF.pp hp, InF.l hi⟩⟩, ?_⟩
    have hR := m1.closeR ((L.ref.updS _).updS _) hn hi
    rw [updS_rb, updS_rb, updS_r, updS_r, updS_kids, updS_kids, kl_updS, kl_updS] at hR
    have e0 : closeR (f i).r (kl f (f i).kids) = 0 := by rw [← L.closeEq hi, he]
    have e1 : (f i).r.shut (kl f (f i).kids) = { (f i).r with opn := false } := by rw [Rf.shut, if_pos e0]
    rw [e0, e1] at hR
    refine hR.mono ?_
    rintro _ w2 ⟨rfl, m2, t2⟩
    refine ⟨by rw [he], _, [(f i).pb, (f p).pb, (f i).s.lb, (f i).rb], m2, L.close hi hp hpi him he ho, Same.close _ _ _ rfl, ?_, by simp; exact ⟨InF.pp hi, InF.pp hp, InF.l hi, InF.r hi⟩⟩
    exact (t1.mono (by simp)).trans t2 (by simp)
  · refine ⟨(M.closeNo L hi he).mono ?_⟩
    rintro _ w1 ⟨rfl, m1, t1⟩
    refine ⟨rfl, ⟨_, t1, by simp; exact ⟨InF.pp hi, InF.l hi⟩⟩, ?_⟩
    have hR := m1.closeR L.ref hn hi
    have e0 : ¬ closeR (f i).r (kl f (f i).kids) = 0 := by rw [← L.closeEq hi]; exact he
    have e1 : (f i).r.shut (kl f (f i).kids) = (f i).r := by rw [Rf.shut, if_neg e0]
    rw [e1, updR_same] at hR
    refine hR.mono ?_
    rintro _ w2 ⟨rfl, m2, t2⟩
    refine ⟨by rw [L.closeEq hi], _, [(f i).pb, (f i).s.lb, (f i).rb], m2, L, Same.refl f, ?_, by simp; exact ⟨InF.pp hi, InF.l hi, InF.r hi⟩⟩
    exact (t1.mono (by simp)).trans t2 (by simp)

/-- A block that is none of the nodes' stands as it stood. -/
theorem Touch.old {F : List Nat} (t : Touch F w w') (h : ∀ b ∈ F, InF n f b) {b : Nat} (hb : b < w.heap.size) (hne : ¬ InF n f b) : w'.heap[b]? = w.heap[b]? := t.block b hb fun hf => hne (h b hf)

theorem Stepped.of_alloc {O : Obj} (h : Stepped (w.alloc O) base n f w') : Stepped w base n f w' := by
  obtain ⟨f', F, m, l, s, t, hF⟩ := h
  exact ⟨f', F, m, l, s, ((Touch.refl F w).alloc O).trans t (fun b hb => .inl hb), hF⟩

theorem Mem.inLt (M : Mem w base n f) {b : Nat} (h : InF n f b) : b < w.heap.size := by
  obtain ⟨c, t, h, _⟩ := M.typed h
  exact lt_of_block h

theorem Mem.alloc (M : Mem w base n f) (O : Obj) : Mem (w.alloc O) base n f := M.keep (F := []) ((Touch.refl [] w).alloc O) (by simp)

set_option maxHeartbeats 1000000 in
theorem step_any (M : Mem w base n f) (L : Laws n f) (hn : n ≤ 9223372036854775807) (hi : i < n) (o k m : Int) :
    Calls Try.prog 19 #[.agg #[.int .i64 o, .int .i64 k, .int .i64 m], ptr (f i).pb, ptr (f i).rb] w fun e w' => e = .returned (.bool true) ∧ Stepped w base n f w' := by
  have M1 := M.alloc (.cells #[.int .i64 o, .int .i64 k, .int .i64 m] 29)
  have HT := hid (two_take M1 L hn hi m).first
  have HG := hid (two_give M1 L hn hi m).first
  have HC := hid (two_close M1 L hn hi).first
  have HK : Hid (∀ F w1, Touch F (w.alloc (.cells #[.int .i64 o, .int .i64 k, .int .i64 m] 29)) w1 → (∀ b ∈ F, InF n f b) → w1.heap[w.heap.size]? = some (.cells #[.int .i64 o, .int .i64 k, .int .i64 m] 29 (0, 0))) := hid fun F w1 t hF => by
    rw [t.old hF (by simp) (fun h => by have := M.inLt h; omega)]
    exact heap_new w _
  have HS : Hid (Stepped w base n f (w.alloc (.cells #[.int .i64 o, .int .i64 k, .int .i64 m] 29))) := hid ⟨f, [], M1, L, Same.refl f, (Touch.refl [] w).alloc _, by simp⟩
  have HO := hid (fun w' => Stepped.of_alloc (w := w) (w' := w') (base := base) (n := n) (f := f) (O := .cells #[.int .i64 o, .int .i64 k, .int .i64 m] 29))
  obtain ⟨pb, hpb⟩ : ∃ pb, pb = (f i).pb := ⟨_, rfl⟩
  obtain ⟨rb, hrb⟩ : ∃ rb, rb = (f i).rb := ⟨_, rfl⟩
  obtain ⟨x1, hx1⟩ : ∃ x, x = leaveE (f i).s m := ⟨_, rfl⟩
  obtain ⟨x2, hx2⟩ : ∃ x, x = giveE (f i).s m := ⟨_, rfl⟩
  obtain ⟨x3, hx3⟩ : ∃ x, x = closeE (f i).s := ⟨_, rfl⟩
  rw [← hpb, ← hrb, ← hx1] at HT
  rw [← hpb, ← hrb, ← hx2] at HG
  rw [← hpb, ← hrb, ← hx3] at HC
  rw [← hpb, ← hrb]
  clear M M1 L hi hpb hrb hx1 hx2 hx3
  by_cases k2 : k = 2
  · subst k2
    go_enter Try.func19, Try.ntmps19
    go_wp2_with (first
      | (go_at_call 31; with_reducible refine Calls.mono HN.out ?_; rintro _ w2 ⟨rfl, hS2⟩; have HS2 := hid hS2; clear hS2)
      | (go_at_call 10; with_reducible refine Calls.mono HT.out ?_; rintro _ w1 ⟨rfl, ⟨F, tF, hF⟩, hN⟩; have r1 := HK.out F w1 tF hF; have c1 := cell_row r1 2; simp at c1; have HN := hid hN; clear hN r1 tF hF))
    go_ret
    exact ⟨rfl, HO.out _ HS2.out⟩
  · have k2' : (k == 2) = false := by simp [k2]
    by_cases k3 : k = 3
    · subst k3
      go_enter Try.func19, Try.ntmps19
      go_wp2_with (first
        | (go_at_call 32; with_reducible refine Calls.mono HN.out ?_; rintro _ w2 ⟨rfl, hS2⟩; have HS2 := hid hS2; clear hS2)
        | (go_at_call 9; with_reducible refine Calls.mono HG.out ?_; rintro _ w1 ⟨rfl, ⟨F, tF, hF⟩, hN⟩; have r1 := HK.out F w1 tF hF; have c1 := cell_row r1 2; simp at c1; have HN := hid hN; clear hN r1 tF hF))
      go_ret
      exact ⟨rfl, HO.out _ HS2.out⟩
    · have k3' : (k == 3) = false := by simp [k3]
      by_cases k5 : k = 5
      · subst k5
        go_enter Try.func19, Try.ntmps19
        go_wp2_with (first
          | (go_at_call 33; with_reducible refine Calls.mono HN.out ?_; rintro _ w2 ⟨rfl, hS2⟩; have HS2 := hid hS2; clear hS2)
          | (go_at_call 17; with_reducible refine Calls.mono HC.out ?_; rintro _ w1 ⟨rfl, ⟨F, tF, hF⟩, hN⟩; have HN := hid hN; clear hN tF hF))
        go_ret
        exact ⟨rfl, HO.out _ HS2.out⟩
      · have k5' : (k == 5) = false := by simp [k5]
        go_enter Try.func19, Try.ntmps19
        go_wp2
        go_ret
        exact ⟨rfl, HS.out⟩
end

end Go.Proofs.Ytbanhpohnhjciaa
