import Derived.Test.YtfmmmhcpdinhgabGreatDoorZ11
/-
  The search of the program: a part comes out; back from a line.
-/
namespace Go.Proofs.YtfmmmhcpdinhgabGreatDoor
open Go.RowKit Go.Deep PureNet ShfKit
set_option maxRecDepth 100000

/-- a row cut short. -/
theorem own_cut {W : World} {B e size n m c : Nat} {sa : Option Addr} {xs : List Value} (h : W.ownsRow B e size (.slice sa n c) n xs) (hm : m ≤ n) : W.ownsRow B e size (.slice sa m c) m (xs.take (m * size)) := by
  rcases h.2 with ⟨hv, h0⟩ | ⟨g, cap, cur, hv, hb, hr, hnc, hcm, hcs, htk⟩
  · simp only [Value.slice.injEq] at hv
    obtain ⟨rfl, _, rfl⟩ := hv
    obtain rfl : m = 0 := by omega
    rw [Nat.zero_mul, List.take_zero]
    exact World.ownsRow_nil _ _ _ _
  · simp only [Value.slice.injEq] at hv
    obtain ⟨rfl, _, rfl⟩ := hv
    have hl := h.1
    have hms : m * size ≤ n * size := Nat.mul_le_mul_right _ hm
    refine ⟨by rw [List.length_take, hl]; omega, .inr ⟨g, c, cur, rfl, hb, hr, by omega, hcm, hcs, ?_⟩⟩
    rw [← htk, List.take_take, Nat.min_eq_left hms]
theorem places_len (L : List Nat) : (placesV L).length = L.length := by unfold placesV; rw [rowF_len]
theorem places_cut (pre : List Nat) (x : Nat) : (placesV (pre ++ [x])).take (pre.length * 1) = placesV pre := by
  rw [← places_snoc, Nat.mul_one]
  have : pre.length = (placesV pre).length := (places_len pre).symm
  rw [this, List.take_left']
  rfl
theorem places_at (L : List Nat) (j x : Nat) (h : L[j]? = some x) : (placesV L)[j]? = some (.int .i64 (x : Int)) := by
  have hj := (List.getElem?_eq_some_iff.1 h).1
  unfold placesV
  rw [rowF_at _ _ _ hj, List.getD_eq_getElem?_getD, h]
  rfl
section
variable {w W W' : World} {p n : Nat} {gv mv rv pv wv tv ov : Value} {s : Ps} {rs : List (Value × Rw)}
/-- what waits is cut short by one, and lies in the box. -/
theorem Se.cutWait {st : Option Addr} {ct : Nat} {pre : List Nat} {x : Nat} (h : Se w W p gv n s mv rv pv wv (.slice st s.waiting.length ct) ov rs) (hw : s.waiting = pre ++ [x]) :
    Se w (W.setCell ⟨p, 5, none⟩ (.slice st pre.length ct)) p gv n ⟨s.met, s.reached, s.part, s.way, pre, s.out⟩ mv rv pv wv (.slice st pre.length ct) ov rs := by
  refine h.waits (wt := pre) ?_ h.below (fun _ _ _ _ hk _ => hk)
  have ho := h.fam.own 3 (.slice st s.waiting.length ct, s.waiting.length, placesV s.waiting) rfl
  have hc := own_cut ho (m := pre.length) (by rw [hw]; simp)
  rw [hw, places_cut] at hc
  exact h.fam.turn (i := 3) (x := (.slice st s.waiting.length ct, s.waiting.length, placesV s.waiting)) (y := (.slice st pre.length ct, pre.length, placesV pre)) rfl hc (.inl ⟨by rcases st with _ | ⟨b, o, sp⟩ <;> simp [Value.ownBlock], World.grownBy.refl _ _⟩)
theorem Se.lastWait {st : Option Addr} {ct : Nat} {pre : List Nat} {x : Nat} (h : Se w W p gv n s mv rv pv wv (.slice st s.waiting.length ct) ov rs) (hw : s.waiting = pre ++ [x]) :
    ∃ g, st = some ⟨g, 0, none⟩ ∧ g < W.heap.size ∧ W.cell? ⟨g, pre.length, none⟩ = some (.int .i64 (x : Int)) := by
  have ho := h.fam.own 3 (.slice st s.waiting.length ct, s.waiting.length, placesV s.waiting) rfl
  obtain ⟨g, c, hv, _, hg, hc, _⟩ := own_cell ho (places_at s.waiting pre.length x (by rw [hw]; simp))
  simp only [Value.slice.injEq] at hv
  exact ⟨g, hv.1, hg, hc⟩
end

set_option maxHeartbeats 2000000 in
theorem comeOut_any (gv : Value) (n p x : Nat) (w W : World) (s : Ps) (mv rv pv wv tv ov : Value) (rs : List (Value × Rw)) (pre : List Nat) (hfew : n ≤ 65536) (hx : x < n) (hs : Se w W p gv n s mv rv pv wv tv ov rs) (ho : s.out.length + s.waiting.length ≤ n)
    (hw : s.waiting = pre ++ [x]) (hp : s.part x = 0) (hm : s.met x ≠ 0) :
    Calls Tryz.prog 60 #[.pointer (some ⟨p, 0, none⟩), .int .i64 (x : Int)] W fun e W' => (∃ v, e = .returned v) ∧ ∃ tv' ov', Se w W' p gv n (s.comeOut pre [] x) mv rv pv wv tv' ov' rs := by
  have SE := hid hs
  obtain ⟨gp, cp, rfl, hgp, hgps, _, _, _, hgpr⟩ := hs.row (i := 2) (by omega) rfl hx
  obtain ⟨gm, cm, rfl, hgm, hgms, _, _, _, hgmr⟩ := hs.row (i := 0) (by omega) rfl hx
  have hn2 : p ≠ gp := fun e => by
    obtain ⟨cs, h1⟩ := hgpr
    rw [← e, hs.box] at h1
    simp at h1
  have hn3 : gm ≠ gp := fun e => hs.fam.apart 0 2 _ _ gm rfl rfl (by decide) rfl (by rw [e]; rfl)
  have HW := hid hw
  have HP := hid hp
  have HM := hid hm
  have hwl : s.waiting.length = pre.length + 1 := by rw [hw]; simp
  clear hs hw hp hm hgpr hgmr
  go_enter Tryz.func60, Tryz.ntmps60
  go_wp2
  go_loopg [] 1 (fun k W => Hid ((k = 1 ∧ Se w W p gv n s (.slice (some ⟨gm, 0, none⟩) n cm) rv (.slice (some ⟨gp, 0, none⟩) n cp) wv tv ov rs) ∨ (k = 0 ∧ ∃ tv' ov', Se w W p gv n (s.comeOut pre [] x) (.slice (some ⟨gm, 0, none⟩) n cm) rv (.slice (some ⟨gp, 0, none⟩) n cp) wv tv' ov' rs)))
  case atStart => exact .inl ⟨rfl, SE.out⟩
  case round =>
    clear SE
    rcases hrel.out with ⟨rfl, hs⟩ | ⟨rfl, tv', ov', hs⟩
    · have SE := hid hs
      obtain ⟨st, ct, rfl⟩ := hs.tv
      obtain ⟨so, co, rfl⟩ := hs.ov
      have c0 := hs.cell
      have f0 := fun j => unfrozen_row hs.box j
      have hp0 := hs.size
      obtain ⟨_, _, e9, _, hgpW, hcp, _⟩ := hs.row (i := 2) (by omega) rfl hx
      simp only [Value.slice.injEq, Option.some.injEq, Addr.mk.injEq, and_true, true_and] at e9
      obtain ⟨rfl, rfl⟩ := e9
      rw [HP.out] at hcp
      obtain ⟨gt, rfl, hgt, hct⟩ := hs.lastWait HW.out
      have SE1 := hid (hs.cutWait HW.out)
      obtain ⟨W1, hW1⟩ : ∃ W1, W1 = wr.setCell ⟨p, 5, none⟩ (.slice (some ⟨gt, 0, none⟩) pre.length ct) := ⟨_, rfl⟩
      rw [← hW1] at SE1
      have HW1 := hid hW1
      have v1 : IntKind.i64.wrap ((s.waiting.length : Int) - 1) = (pre.length : Int) := by rw [IntKind.wrap_i64]; omega
      have v2 : (pre.length : Int) < (s.waiting.length : Int) := by omega
      have v3 : pre.length < s.waiting.length := by omega
      have hctw : pre.length ≤ ct := by
        have ho := SE1.out.fam.own 3 (.slice (some ⟨gt, 0, none⟩) pre.length ct, pre.length, placesV pre) rfl
        rcases ho.2 with ⟨hv, _⟩ | ⟨_, _, _, hv, _, _, hnc, _⟩
        · simp at hv
        · simp only [Value.slice.injEq] at hv
          rw [hv.2.2]
          exact hnc
      clear hs hrel hW1
      go_wp2_with (first | (rw [← HW1.out]))
      clear c0 f0 hp0 hcp hct HW1 v1 v2 v3
      obtain ⟨_, _, e9, _, _, hcm1, _⟩ := SE1.out.row (i := 0) (by omega) rfl hx
      simp only [Value.slice.injEq, Option.some.injEq, Addr.mk.injEq, and_true, true_and] at e9
      obtain ⟨rfl, rfl⟩ := e9
      obtain ⟨_, _, e9, _, _, _, hfp1, _, hgpr1⟩ := SE1.out.row (i := 2) (by omega) rfl hx
      simp only [Value.slice.injEq, Option.some.injEq, Addr.mk.injEq, and_true, true_and] at e9
      obtain ⟨rfl, rfl⟩ := e9
      have e3 : W1.drew.cell? ⟨p, 3, none⟩ = some (.slice (some ⟨gp, 0, none⟩) n cp) := SE1.out.cell 3
      have e1 : W1.drew.cell? ⟨p, 1, none⟩ = some (.slice (some ⟨gm, 0, none⟩) n cm) := SE1.out.cell 1
      have em : W1.drew.cell? ⟨gm, x, none⟩ = some (.int .i64 (s.met x)) := hcm1
      have hfp2 : W1.drew.frozen? ⟨gp, x, none⟩ = false := hfp1
      refine wp_region_noPanic ?_
      refine wp_region_held_drew (S := fun W => W.cell? ⟨p, 3, none⟩ = some (.slice (some ⟨gp, 0, none⟩) n cp) ∧ W.cell? ⟨p, 1, none⟩ = some (.slice (some ⟨gm, 0, none⟩) n cm) ∧ W.cell? ⟨gm, x, none⟩ = some (.int .i64 (s.met x))) (by kernel_rfl) ⟨e3, e1, em⟩ (fun hHeld => ?_)
      refine wpAnyH_take (i := 0) (v := ?_) (by simp only [List.getElem?_toArray, List.getElem?_cons_zero]; rfl) (by kernel_rfl) (by kernel_rfl) (by kernel_rfl) (fun _ _ _ h => h) (Or.inl ⟨by rfl, ?_⟩) (by assumption) ?_
      rotate_left 1
      · intro w hSw; (try dsimp only at hSw); go_simp; (try with_reducible rfl)
      try simp only [Act.put, List.setIfInBounds_toArray, List.set_cons_zero, List.set_cons_succ]
      refine wpAnyH_take (i := 1) (v := ?_) (by simp only [List.getElem?_toArray, List.getElem?_cons_succ, List.getElem?_cons_zero]; rfl) (by kernel_rfl) (by kernel_rfl) (by kernel_rfl) (fun _ _ _ h => h) (Or.inl ⟨by rfl, ?_⟩) (by assumption) ?_
      rotate_left 1
      · intro w hSw; (try dsimp only at hSw); go_simp; (try with_reducible rfl)
      try simp only [Act.put, List.setIfInBounds_toArray, List.set_cons_zero, List.set_cons_succ]
      refine wpAnyH_take (i := 2) (v := ?_) (by simp only [List.getElem?_toArray, List.getElem?_cons_succ, List.getElem?_cons_zero]; rfl) (by kernel_rfl) (by kernel_rfl) (by kernel_rfl) (fun _ _ _ h => h) (Or.inl ⟨by rfl, ?_⟩) (by assumption) ?_
      rotate_left 1
      · intro w hSw; (try dsimp only at hSw); go_simp; (try with_reducible rfl)
      try simp only [Act.put, List.setIfInBounds_toArray, List.set_cons_zero, List.set_cons_succ]
      refine wpAnyH_take (i := 3) (v := ?_) (by simp only [List.getElem?_toArray, List.getElem?_cons_succ, List.getElem?_cons_zero]; rfl) (by kernel_rfl) (by kernel_rfl) (by kernel_rfl) (fun _ _ _ h => h) (Or.inl ⟨by rfl, ?_⟩) (by assumption) ?_
      rotate_left 1
      · intro w hSw; (try dsimp only at hSw); go_simp; (try with_reducible rfl)
      try simp only [Act.put, List.setIfInBounds_toArray, List.set_cons_zero, List.set_cons_succ]
      refine wpAnyH_take (i := 4) (v := ?_) (by simp only [List.getElem?_toArray, List.getElem?_cons_succ, List.getElem?_cons_zero]; rfl) (by kernel_rfl) (by kernel_rfl) (by kernel_rfl) (fun _ _ _ h => h) (Or.inl ⟨by rfl, ?_⟩) (by assumption) ?_
      rotate_left 1
      · intro w hSw; (try dsimp only at hSw); go_simp; (try with_reducible rfl)
      try simp only [Act.put, List.setIfInBounds_toArray, List.set_cons_zero, List.set_cons_succ]
      refine wpAnyH_take (i := 5) (v := ?_) (by simp only [List.getElem?_toArray, List.getElem?_cons_succ, List.getElem?_cons_zero]; rfl) (by kernel_rfl) (by kernel_rfl) (by kernel_rfl) (fun _ _ _ h => h) (Or.inl ⟨by rfl, ?_⟩) (by assumption) ?_
      rotate_left 1
      · intro w hSw; (try dsimp only at hSw); go_simp; (try with_reducible rfl)
      try simp only [Act.put, List.setIfInBounds_toArray, List.set_cons_zero, List.set_cons_succ]
      refine wpAnyH_take (i := 6) (v := ?_) (by simp only [List.getElem?_toArray, List.getElem?_cons_succ, List.getElem?_cons_zero]; rfl) (by kernel_rfl) (by kernel_rfl) (by kernel_rfl) (fun _ _ _ h => h) (Or.inl ⟨by rfl, ?_⟩) (by assumption) ?_
      rotate_left 1
      · intro w hSw; (try dsimp only at hSw); go_simp; (try with_reducible rfl)
      try simp only [Act.put, List.setIfInBounds_toArray, List.set_cons_zero, List.set_cons_succ]
      refine wpAnyH_take (i := 7) (v := ?_) (by simp only [List.getElem?_toArray, List.getElem?_cons_succ, List.getElem?_cons_zero]; rfl) (by kernel_rfl) (by kernel_rfl) (by kernel_rfl) (fun _ _ _ h => h) (Or.inl ⟨by rfl, ?_⟩) (by assumption) ?_
      rotate_left 1
      · intro w hSw; (try dsimp only at hSw); go_simp; (try with_reducible rfl)
      try simp only [Act.put, List.setIfInBounds_toArray, List.set_cons_zero, List.set_cons_succ]
      refine wpAnyH_take (i := 8) (v := ?_) (by simp only [List.getElem?_toArray, List.getElem?_cons_succ, List.getElem?_cons_zero]; rfl) (by kernel_rfl) (by kernel_rfl) (by kernel_rfl) (fun _ _ _ h => h) (Or.inl ⟨by rfl, ?_⟩) (by assumption) ?_
      rotate_left 1
      · intro w hSw; (try dsimp only at hSw); go_simp; (try with_reducible rfl)
      try simp only [Act.put, List.setIfInBounds_toArray, List.set_cons_zero, List.set_cons_succ]
      refine wpAnyH_take (i := 9) (v := ?_) (by simp only [List.getElem?_toArray, List.getElem?_cons_succ, List.getElem?_cons_zero]; rfl) (by kernel_rfl) (by kernel_rfl) (by kernel_rfl) (fun _ _ _ h => h) (Or.inl ⟨by rfl, ?_⟩) (by assumption) ?_
      rotate_left 1
      · intro w hSw; (try dsimp only at hSw); go_simp; (try with_reducible rfl)
      try simp only [Act.put, List.setIfInBounds_toArray, List.set_cons_zero, List.set_cons_succ]
      refine wpAnyH_take (i := 10) (v := .pointer (some ⟨gm, x, none⟩)) (by simp only [List.getElem?_toArray, List.getElem?_cons_succ, List.getElem?_cons_zero]; rfl) (by kernel_rfl) (by kernel_rfl) (by kernel_rfl) (fun _ _ _ h => h) (Or.inl ⟨by rfl, ?_⟩) (by assumption) ?_
      · intro w hSw; (try dsimp only at hSw); (try go_simp); ((try rw [if_pos (by omega)]); (try simp); (try (intro h9; omega)))
      try simp only [Act.put, List.setIfInBounds_toArray, List.set_cons_zero, List.set_cons_succ]
      refine wpAnyH_take (i := 11) (v := ?_) (by simp only [List.getElem?_toArray, List.getElem?_cons_succ, List.getElem?_cons_zero]; rfl) (by kernel_rfl) (by kernel_rfl) (by kernel_rfl) (fun _ _ _ h => h) (Or.inl ⟨by rfl, ?_⟩) (by assumption) ?_
      rotate_left 1
      · intro w hSw; (try dsimp only at hSw); go_simp; (try with_reducible rfl)
      try simp only [Act.put, List.setIfInBounds_toArray, List.set_cons_zero, List.set_cons_succ]
      refine wpAnyH_take (i := 12) (v := .pointer (some ⟨gp, x, none⟩)) (by simp only [List.getElem?_toArray, List.getElem?_cons_succ, List.getElem?_cons_zero]; rfl) (by kernel_rfl) (by kernel_rfl) (by kernel_rfl) (fun _ _ _ h => h) (Or.inl ⟨by rfl, ?_⟩) (by assumption) ?_
      · intro w hSw; (try dsimp only at hSw); (try go_simp); ((try rw [if_pos (by omega)]); (try simp); (try (intro h9; omega)))
      try simp only [Act.put, List.setIfInBounds_toArray, List.set_cons_zero, List.set_cons_succ]
      refine wpAnyH_ready (rs := [13]) (by kernel_rfl) (by simp) ?_
      refine AllReadyH.cons (by simp only [List.getElem?_toArray, List.getElem?_cons_succ, List.getElem?_cons_zero]; rfl) (fun K hK => ?_) AllReadyH.nil
      go_simp
      clear hHeld
      refine hK.out _ _ ⟨(World.cell?_setCell_far _ _ _ _ (Ne.symm hn2)).trans e3, (World.cell?_setCell_far _ _ _ _ (Ne.symm hn2)).trans e1, (World.cell?_setCell_far _ _ _ _ (Ne.symm hn3)).trans em⟩ (fun hHeld => ?_)
      clear hK K
      try simp only [Act.put, List.setIfInBounds_toArray, List.set_cons_zero, List.set_cons_succ]
      refine wpAnyH_done (by kernel_rfl) ?_ _
      refine NoPanic.normal ?_
      obtain ⟨W2, hW2⟩ : ∃ W2, W2 = (W1.setCell ⟨gp, x, none⟩ (.int .i64 (s.met x))).drew := ⟨_, rfl⟩
      rw [← hW2]
      have SE2 : Hid (Se w W2 p gv n ⟨s.met, s.reached, upd s.part x (s.met x), s.way, pre, s.out⟩ (.slice (some ⟨gm, 0, none⟩) n cm) rv (.slice (some ⟨gp, 0, none⟩) n cp) wv (.slice (some ⟨gt, 0, none⟩) pre.length ct) (.slice so s.out.length co) rs) := by
        rw [hW2]
        exact (SE1.out.setPart rfl hgp _ hgpr1).on (Below.refl _ _).drew
      have c2 := SE2.out.cell
      have hp2 := SE2.out.size
      clear hW2 e3 e1 em hfp1 hfp2 hgpr1 hcm1 hHeld
      go_wp2_with (first
        | (rw [← HW4.out])
        | (at_builtin; refine fam_app rfl _ _ rfl SE2.out.fam SE2.out.below 4 _ rfl (x : Int) 3 _ rfl rfl rfl (by show s.out.length ≤ 1099511627776; omega) ?_; intro sx cx w3 hF3 hB3 hk3; have hbx3 := hk3 p _ _ _ SE2.out.box (by decide); have c3 := fun j => cell_row hbx3 j; have f3 := fun j => unfrozen_row hbx3 j; have hb3 := (Array.getElem?_eq_some_iff.1 hbx3).1; obtain ⟨W4, hW4⟩ : ∃ W4, W4 = w3.setCell ⟨p, 6, none⟩ (.slice sx (s.out.length + 1) cx) := ⟨_, rfl⟩; have SE4 : Hid (Se w W4 p gv n ⟨s.met, s.reached, upd s.part x (s.met x), s.way, pre, s.out ++ [x]⟩ (.slice (some ⟨gm, 0, none⟩) n cm) rv (.slice (some ⟨gp, 0, none⟩) n cp) wv (.slice (some ⟨gt, 0, none⟩) pre.length ct) (.slice sx (s.out.length + 1) cx) rs) := (by rw [hW4]; refine SE2.out.outs (ot := s.out ++ [x]) ?_ hB3 hk3; rw [← places_snoc, List.length_append, List.length_singleton]; exact hF3); have HW4 := hid hW4; clear hF3 hB3 hk3 hbx3 hW4))
      go_roundg 0
      case measure => exact Nat.zero_lt_one
      case rel =>
        have e5 : (s.comeOut pre [] x) = ⟨s.met, s.reached, upd s.part x (s.met x), s.way, pre, s.out ++ [x]⟩ := by
          unfold Ps.comeOut upd
          simp
        have h5 := SE4.out
        rw [← e5] at h5
        exact .inr ⟨rfl, _, _, h5⟩
    · have SE := hid hs
      have c0 := hs.cell
      have hp0 := hs.size
      obtain ⟨_, _, e9, _, hgpW, hcp, _⟩ := hs.row (i := 2) (by omega) rfl hx
      simp only [Value.slice.injEq, Option.some.injEq, Addr.mk.injEq, and_true, true_and] at e9
      obtain ⟨rfl, rfl⟩ := e9
      have hcp2 : wr.cell? ⟨gp, x, none⟩ = some (.int .i64 (s.met x)) := by
        rw [hcp]
        simp [Ps.comeOut]
      have hmb : (s.met x == 0) = false := beq_eq_false_iff_ne.2 HM.out
      clear hs hrel hcp
      go_wp2
      exact bodyPost_end (results_none rfl _ _ _) rfl ⟨⟨_, rfl⟩, _, _, SE.out⟩
end Go.Proofs.YtfmmmhcpdinhgabGreatDoor
/-
  The search of the program: back from a line.
-/
namespace Go.Proofs.YtfmmmhcpdinhgabGreatDoor
open Go.RowKit Go.Deep PureNet ShfKit
set_option maxRecDepth 100000

theorem list_last {α : Type} (l : List α) (m : Nat) (h : l.length = m + 1) : ∃ k r, l = k ++ [r] ∧ k.length = m := by
  have hne : l ≠ [] := fun e => by rw [e] at h; simp at h
  exact ⟨l.dropLast, l.getLast hne, (List.dropLast_concat_getLast hne).symm, by rw [List.length_dropLast]; omega⟩
section
variable {w W W' : World} {p n : Nat} {gv mv rv pv wv tv ov : Value} {s : Ps} {rs : List (Value × Rw)}
theorem Se.lastWay {sw : Option Addr} {cw : Nat} {ws : List (Nat × List Nat)} {a : Nat × List Nat} (h : Se w W p gv n s mv rv pv (.slice sw s.way.length cw) tv ov rs) (hw : s.way = ws ++ [a]) :
    ∃ gw k r, sw = some ⟨gw, 0, none⟩ ∧ rs = k ++ [r] ∧ k.length = ws.length ∧ w.heap.size ≤ gw ∧ gw < W.heap.size ∧ W.cell? ⟨gw, ws.length * 2, none⟩ = some (.int .i64 (a.1 : Int)) ∧ W.cell? ⟨gw, ws.length * 2 + 1, none⟩ = some r.1 ∧ W.frozen? ⟨gw, ws.length * 2 + 1, none⟩ = false ∧ Lf r.1 r.2 a.2 ∧ s.way.length ≤ cw ∧ ∃ cs, W.heap[gw]? = some (.cells cs 81 (0, 0)) := by
  have hl : rs.length = ws.length + 1 := by rw [h.rsn, hw]; simp
  obtain ⟨k, r, hrs, hk⟩ := list_last rs ws.length hl
  have hst : stopsV s.way rs = stopsV ws k ++ [.int .i64 (a.1 : Int), r.1] := by rw [hw, hrs]; exact stopsV_snoc ws k a r hk
  have hsl := stopsV_len ws k hk
  have e0 : (stopsV s.way rs)[ws.length * 2]? = some (.int .i64 (a.1 : Int)) := by
    rw [hst, List.getElem?_append_right (by omega), hsl, Nat.sub_self]; rfl
  have e1 : (stopsV s.way rs)[ws.length * 2 + 1]? = some r.1 := by
    rw [hst, List.getElem?_append_right (by omega), hsl, Nat.add_sub_cancel_left]; rfl
  have ho := h.way
  rcases ho.2 with ⟨hv, h0⟩ | ⟨g, cap, cur, hv, hb, hr, hnc, _⟩
  · rw [hw] at h0; simp at h0
  · obtain ⟨g1, c1, hv1, _, hg1, hc1, _⟩ := own_cell ho e0
    obtain ⟨g2, c2, hv2, _, _, hc2, hf2⟩ := own_cell ho e1
    simp only [Value.slice.injEq] at hv hv1 hv2
    obtain ⟨e1, _, e3⟩ := hv
    rw [e1] at hv1 hv2
    simp only [Option.some.injEq, Addr.mk.injEq, and_true] at hv1 hv2
    obtain ⟨rfl, _⟩ := hv1
    obtain ⟨rfl, _⟩ := hv2
    exact ⟨g, k, r, e1, hrs, hk, hb, hg1, hc1, hc2, hf2, h.lf ws.length a r (by rw [hw]; simp) (by rw [hrs, ← hk]; simp), by rw [e3]; exact hnc, _, hr⟩
theorem Se.cutWay {sw : Option Addr} {cw : Nat} {ws : List (Nat × List Nat)} {a : Nat × List Nat} {k : List (Value × Rw)} {r : Value × Rw} (h : Se w W p gv n s mv rv pv (.slice sw s.way.length cw) tv ov rs) (hw : s.way = ws ++ [a]) (hrs : rs = k ++ [r]) (hk : k.length = ws.length) :
    Se w (W.setCell ⟨p, 4, none⟩ (.slice sw ws.length cw)) p gv n (s.goes ws) mv rv pv (.slice sw ws.length cw) tv ov k := by
  have k2 : Kp 55 W (W.setCell ⟨p, 4, none⟩ (.slice sw ws.length cw)) := Kp.setCell h.box _
  have hst : stopsV s.way rs = stopsV ws k ++ [.int .i64 (a.1 : Int), r.1] := by rw [hw, hrs]; exact stopsV_snoc ws k a r hk
  have hc := own_cut h.way (m := ws.length) (by rw [hw]; simp)
  rw [hst, show (stopsV ws k ++ [.int .i64 (a.1 : Int), r.1]).take (ws.length * 2) = stopsV ws k by rw [← stopsV_len ws k hk]; exact List.take_left' rfl] at hc
  refine ⟨h.below.setCell h.pb _, h.pb, row_set h.box, ?_, k2.own hc (by decide), hk, fun j b q hb hq => ?_⟩
  · have hF := Fam.take h.fam (5 + k.length)
    have e : ([(mv, n, rowF n s.met), (rv, n, rowF n s.reached), (pv, n, rowF n s.part), (tv, s.waiting.length, placesV s.waiting), (ov, s.out.length, placesV s.out)] ++ rs.map Prod.snd).take (5 + k.length) = [(mv, n, rowF n s.met), (rv, n, rowF n s.reached), (pv, n, rowF n s.part), (tv, s.waiting.length, placesV s.waiting), (ov, s.out.length, placesV s.out)] ++ k.map Prod.snd := by
      rw [hrs, List.map_append, ← List.append_assoc]
      exact List.take_left' (by simp; omega)
    rw [e] at hF
    exact k2.fam hF (by decide)
  · have hb : ws[j]? = some b := hb
    have hj := (List.getElem?_eq_some_iff.1 hb).1
    refine h.lf j b q (by rw [hw, List.getElem?_append_left hj]; exact hb) ?_
    rw [hrs, List.getElem?_append_left (by omega)]
    exact hq
end

set_option maxHeartbeats 2000000 in
theorem goBack_any (gv : Value) (n p x : Nat) (w W : World) (s : Ps) (mv rv pv wv tv ov : Value) (rs : List (Value × Rw)) (ws : List (Nat × List Nat)) (pre : List Nat) (hfew : n ≤ 65536) (hx : x < n) (hs : Se w W p gv n s mv rv pv wv tv ov rs) (ho : s.out.length + s.waiting.length ≤ n)
    (hway : s.way = ws ++ [(x, [])]) (hwn : s.way.length ≤ n) (hre : s.reached x = s.met x) (hw : s.waiting = pre ++ [x]) (hp : s.part x = 0) (hm : s.met x ≠ 0) :
    Calls Tryz.prog 37 #[.pointer (some ⟨p, 0, none⟩)] W fun e W' => (∃ v, e = .returned v) ∧ ∃ wv' tv' ov' rs', Se w W' p gv n ((s.goes ws).comeOut pre [] x) mv rv pv wv' tv' ov' rs' := by
  obtain ⟨sw, cw, rfl⟩ := hs.wv
  obtain ⟨gw, k, r, rfl, hrs, hk, hgw, hgws, a0, _, _, _, hcw, _⟩ := hs.lastWay hway
  have c0 := hs.cell
  have f0 := fun j => unfrozen_row hs.box j
  have hp0 := hs.size
  obtain ⟨W1, hW1⟩ : ∃ W1, W1 = W.setCell ⟨p, 4, none⟩ (.slice (some ⟨gw, 0, none⟩) ws.length cw) := ⟨_, rfl⟩
  have SE1 : Hid (Se w W1 p gv n (s.goes ws) mv rv pv (.slice (some ⟨gw, 0, none⟩) ws.length cw) tv ov k) := by rw [hW1]; exact hs.cutWay hway hrs hk
  obtain ⟨gr, cr, hrv, _, hgrs, hcr, _⟩ := SE1.out.row (i := 1) (by omega) rfl hx
  obtain ⟨gm, cm, hmv, _, hgms, hcm, _⟩ := SE1.out.row (i := 0) (by omega) rfl hx
  have CO : Hid (∀ Y, Below W1.heap.size W1 Y → _) := fun Y hY => comeOut_any gv n p x w Y (s.goes ws) mv rv pv _ tv ov k pre hfew hx (SE1.out.on hY) ho hw hp hm
  have hcr2 : W1.cell? ⟨gr, x, none⟩ = some (.int .i64 (s.met x)) := by rw [← hre]; exact hcr
  have hcm2 : W1.cell? ⟨gm, x, none⟩ = some (.int .i64 (s.met x)) := hcm
  have c1 := SE1.out.cell
  have hp1 := SE1.out.size
  have hwl : s.way.length = ws.length + 1 := by rw [hway]; simp
  have v1 : IntKind.i64.wrap ((s.way.length : Int) - 1) = (ws.length : Int) := by rw [IntKind.wrap_i64]; omega
  have v2 : (ws.length : Int) < (s.way.length : Int) := by omega
  have v3 : ws.length < s.way.length := by omega
  have v4 : ws.length ≤ cw := by omega
  subst hrv
  subst hmv
  have HW1 := hid hW1
  clear hs hway hrs hre hw hp hm hW1 hcr hcm
  go_enter Tryz.func37, Tryz.ntmps37
  go_wp2_with (first | (rw [← HW1.out]))
  refine wp_region_noPanic ?_
  refine wp_region_held_drew (S := fun W => W.cell? ⟨p, 2, none⟩ = some (.slice (some ⟨gr, 0, none⟩) n cr) ∧ W.cell? ⟨p, 1, none⟩ = some (.slice (some ⟨gm, 0, none⟩) n cm) ∧ W.cell? ⟨gr, x, none⟩ = some (.int .i64 (s.met x)) ∧ W.cell? ⟨gm, x, none⟩ = some (.int .i64 (s.met x))) (by kernel_rfl) ⟨c1 2, c1 1, hcr2, hcm2⟩ (fun hHeld => ?_)
  refine wpAnyH_take (i := 0) (v := ?_) (by simp only [List.getElem?_toArray, List.getElem?_cons_zero]; rfl) (by kernel_rfl) (by kernel_rfl) (by kernel_rfl) (fun _ _ _ h => h) (Or.inl ⟨by rfl, ?_⟩) (by assumption) ?_
  rotate_left 1
  · intro w hSw; (try dsimp only at hSw); go_simp; (try with_reducible rfl)
  try simp only [Act.put, List.setIfInBounds_toArray, List.set_cons_zero, List.set_cons_succ]
  refine wpAnyH_take (i := 1) (v := ?_) (by simp only [List.getElem?_toArray, List.getElem?_cons_succ, List.getElem?_cons_zero]; rfl) (by kernel_rfl) (by kernel_rfl) (by kernel_rfl) (fun _ _ _ h => h) (Or.inl ⟨by rfl, ?_⟩) (by assumption) ?_
  rotate_left 1
  · intro w hSw; (try dsimp only at hSw); go_simp; (try with_reducible rfl)
  try simp only [Act.put, List.setIfInBounds_toArray, List.set_cons_zero, List.set_cons_succ]
  refine wpAnyH_take (i := 2) (v := ?_) (by simp only [List.getElem?_toArray, List.getElem?_cons_succ, List.getElem?_cons_zero]; rfl) (by kernel_rfl) (by kernel_rfl) (by kernel_rfl) (fun _ _ _ h => h) (Or.inl ⟨by rfl, ?_⟩) (by assumption) ?_
  rotate_left 1
  · intro w hSw; (try dsimp only at hSw); go_simp; (try with_reducible rfl)
  try simp only [Act.put, List.setIfInBounds_toArray, List.set_cons_zero, List.set_cons_succ]
  refine wpAnyH_take (i := 3) (v := ?_) (by simp only [List.getElem?_toArray, List.getElem?_cons_succ, List.getElem?_cons_zero]; rfl) (by kernel_rfl) (by kernel_rfl) (by kernel_rfl) (fun _ _ _ h => h) (Or.inl ⟨by rfl, ?_⟩) (by assumption) ?_
  rotate_left 1
  · intro w hSw; (try dsimp only at hSw); go_simp; (try with_reducible rfl)
  try simp only [Act.put, List.setIfInBounds_toArray, List.set_cons_zero, List.set_cons_succ]
  refine wpAnyH_take (i := 4) (v := ?_) (by simp only [List.getElem?_toArray, List.getElem?_cons_succ, List.getElem?_cons_zero]; rfl) (by kernel_rfl) (by kernel_rfl) (by kernel_rfl) (fun _ _ _ h => h) (Or.inl ⟨by rfl, ?_⟩) (by assumption) ?_
  rotate_left 1
  · intro w hSw; (try dsimp only at hSw); go_simp; (try with_reducible rfl)
  try simp only [Act.put, List.setIfInBounds_toArray, List.set_cons_zero, List.set_cons_succ]
  refine wpAnyH_take (i := 5) (v := .pointer (some ⟨gr, x, none⟩)) (by simp only [List.getElem?_toArray, List.getElem?_cons_succ, List.getElem?_cons_zero]; rfl) (by kernel_rfl) (by kernel_rfl) (by kernel_rfl) (fun _ _ _ h => h) (Or.inl ⟨by rfl, ?_⟩) (by assumption) ?_
  · intro w hSw; (try dsimp only at hSw); (try go_simp); ((try rw [if_pos (by omega)]); (try simp); (try (intro h9; omega)))
  try simp only [Act.put, List.setIfInBounds_toArray, List.set_cons_zero, List.set_cons_succ]
  refine wpAnyH_take (i := 6) (v := ?_) (by simp only [List.getElem?_toArray, List.getElem?_cons_succ, List.getElem?_cons_zero]; rfl) (by kernel_rfl) (by kernel_rfl) (by kernel_rfl) (fun _ _ _ h => h) (Or.inl ⟨by rfl, ?_⟩) (by assumption) ?_
  rotate_left 1
  · intro w hSw; (try dsimp only at hSw); go_simp; (try with_reducible rfl)
  try simp only [Act.put, List.setIfInBounds_toArray, List.set_cons_zero, List.set_cons_succ]
  refine wpAnyH_take (i := 7) (v := ?_) (by simp only [List.getElem?_toArray, List.getElem?_cons_succ, List.getElem?_cons_zero]; rfl) (by kernel_rfl) (by kernel_rfl) (by kernel_rfl) (fun _ _ _ h => h) (Or.inl ⟨by rfl, ?_⟩) (by assumption) ?_
  rotate_left 1
  · intro w hSw; (try dsimp only at hSw); go_simp; (try with_reducible rfl)
  try simp only [Act.put, List.setIfInBounds_toArray, List.set_cons_zero, List.set_cons_succ]
  refine wpAnyH_take (i := 8) (v := ?_) (by simp only [List.getElem?_toArray, List.getElem?_cons_succ, List.getElem?_cons_zero]; rfl) (by kernel_rfl) (by kernel_rfl) (by kernel_rfl) (fun _ _ _ h => h) (Or.inl ⟨by rfl, ?_⟩) (by assumption) ?_
  rotate_left 1
  · intro w hSw; (try dsimp only at hSw); go_simp; (try with_reducible rfl)
  try simp only [Act.put, List.setIfInBounds_toArray, List.set_cons_zero, List.set_cons_succ]
  refine wpAnyH_take (i := 9) (v := ?_) (by simp only [List.getElem?_toArray, List.getElem?_cons_succ, List.getElem?_cons_zero]; rfl) (by kernel_rfl) (by kernel_rfl) (by kernel_rfl) (fun _ _ _ h => h) (Or.inl ⟨by rfl, ?_⟩) (by assumption) ?_
  rotate_left 1
  · intro w hSw; (try dsimp only at hSw); go_simp; (try with_reducible rfl)
  try simp only [Act.put, List.setIfInBounds_toArray, List.set_cons_zero, List.set_cons_succ]
  refine wpAnyH_take (i := 10) (v := ?_) (by simp only [List.getElem?_toArray, List.getElem?_cons_succ, List.getElem?_cons_zero]; rfl) (by kernel_rfl) (by kernel_rfl) (by kernel_rfl) (fun _ _ _ h => h) (Or.inl ⟨by rfl, ?_⟩) (by assumption) ?_
  rotate_left 1
  · intro w hSw; (try dsimp only at hSw); go_simp; (try with_reducible rfl)
  try simp only [Act.put, List.setIfInBounds_toArray, List.set_cons_zero, List.set_cons_succ]
  refine wpAnyH_take (i := 11) (v := ?_) (by simp only [List.getElem?_toArray, List.getElem?_cons_succ, List.getElem?_cons_zero]; rfl) (by kernel_rfl) (by kernel_rfl) (by kernel_rfl) (fun _ _ _ h => h) (Or.inl ⟨by rfl, ?_⟩) (by assumption) ?_
  rotate_left 1
  · intro w hSw; (try dsimp only at hSw); go_simp; (try with_reducible rfl)
  try simp only [Act.put, List.setIfInBounds_toArray, List.set_cons_zero, List.set_cons_succ]
  refine wpAnyH_take (i := 12) (v := .pointer (some ⟨gm, x, none⟩)) (by simp only [List.getElem?_toArray, List.getElem?_cons_succ, List.getElem?_cons_zero]; rfl) (by kernel_rfl) (by kernel_rfl) (by kernel_rfl) (fun _ _ _ h => h) (Or.inl ⟨by rfl, ?_⟩) (by assumption) ?_
  · intro w hSw; (try dsimp only at hSw); (try go_simp); ((try rw [if_pos (by omega)]); (try simp); (try (intro h9; omega)))
  try simp only [Act.put, List.setIfInBounds_toArray, List.set_cons_zero, List.set_cons_succ]
  refine wpAnyH_take (i := 13) (v := ?_) (by simp only [List.getElem?_toArray, List.getElem?_cons_succ, List.getElem?_cons_zero]; rfl) (by kernel_rfl) (by kernel_rfl) (by kernel_rfl) (fun _ _ _ h => h) (Or.inl ⟨by rfl, ?_⟩) (by assumption) ?_
  rotate_left 1
  · intro w hSw; (try dsimp only at hSw); go_simp; (try with_reducible rfl)
  try simp only [Act.put, List.setIfInBounds_toArray, List.set_cons_zero, List.set_cons_succ]
  refine wpAnyH_take (i := 14) (v := .bool true) (by simp only [List.getElem?_toArray, List.getElem?_cons_succ, List.getElem?_cons_zero]; rfl) (by kernel_rfl) (by kernel_rfl) (by kernel_rfl) (fun _ _ _ h => h) (Or.inl ⟨by rfl, ?_⟩) (by assumption) ?_
  · intro w hSw; (try dsimp only at hSw); (try go_simp); (try simp)
  try simp only [Act.put, List.setIfInBounds_toArray, List.set_cons_zero, List.set_cons_succ]
  refine wpAnyH_done (by kernel_rfl) ?_ _
  refine NoPanic.normal ?_
  go_wp2_with (first | (go_at_call 60; refine Calls.mono (CO.out _ (by exact (Below.refl _ _).drew)) ?_; rintro e w2 ⟨⟨v, rfl⟩, tv2, ov2, hs2⟩; have SE2 := hid hs2; clear hs2))
  exact bodyPost_ret (results_none rfl _ _ _) rfl ⟨⟨_, rfl⟩, _, _, _, _, SE2.out⟩
end Go.Proofs.YtfmmmhcpdinhgabGreatDoor
