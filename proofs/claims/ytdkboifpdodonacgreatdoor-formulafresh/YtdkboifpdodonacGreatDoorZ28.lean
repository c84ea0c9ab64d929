import Derived.Test.YtdkboifpdodonacGreatDoorZ27
set_option linter.unusedSimpArgs false
/-
 The document's own head.
-/
namespace Go.Proofs.YtdkboifpdodonacGreatDoor.Cn
open Go.RowKit Go.Deep PureCnf
set_option maxRecDepth 100000

/-- pieces that can be read there. -/
structure PAt (W : World) (sa : Option Addr) (l : List Piece) : Prop where
 at_ : ∀ k (hk : k < l.length), ∃ g, sa = some ⟨g, 0, none⟩ ∧ g < W.heap.size ∧ W.cell? ⟨g, k * 3, none⟩ = some (str l[k].w) ∧ W.cell? ⟨g, k * 3 + 1, none⟩ = some (.int .i64 (l[k].at_ : Int)) ∧ W.cell? ⟨g, k * 3 + 2, none⟩ = some (.int .i64 (l[k].line : Int))
theorem PAt.below {w W : World} {sa : Option Addr} {l : List Piece} (h : PAt w sa l) (hb : Below w.heap.size w W) : PAt W sa l := ⟨fun k hk => by
 obtain ⟨g, e, hg, c0, c1, c2⟩ := h.at_ k hk
 exact ⟨g, e, Nat.lt_of_lt_of_le hg hb.size, below_cell hb hg c0, below_cell hb hg c1, below_cell hb hg c2⟩⟩

theorem pcs_at (l : List Piece) (k j : Nat) (hk : k < l.length) (hj : j < 3) : (pcs l)[k * 3 + j]? = (pc l[k])[j]? := by
 induction l generalizing k with
 | nil => simp at hk
 | cons p t ih =>
  have e : pcs (p :: t) = pc p ++ pcs t := by simp [pcs]
  have hl : (pc p).length = 3 := rfl
  rw [e]
  cases k with
  | zero => rw [List.getElem?_append_left (by omega)]; simp
  | succ k =>
   rw [List.getElem?_append_right (by omega), hl, show (k + 1) * 3 + j - 3 = k * 3 + j by omega, ih k (by simpa using hk)]
   simp

theorem Pcs.at {w W : World} {l : List Piece} {v : Value} (h : Pcs w l v W) : ∃ sa c, v = .slice sa l.length c ∧ PAt W sa l := by
 rcases h.own.2 with ⟨hv, h0⟩ | ⟨g, cap, cur, hv, hb, hg, hn, hm, hsz, ht⟩
 ·have : l = [] := List.eq_nil_of_length_eq_zero h0
  subst this
  exact ⟨none, 0, hv, ⟨fun k hk => by simp at hk⟩⟩
 ·refine ⟨_, _, hv, ⟨fun k hk => ⟨g, rfl, (Array.getElem?_eq_some_iff.1 hg).1, ?_, ?_, ?_⟩⟩⟩
  all_goals rw [cell_row hg]
  all_goals
   have one : ∀ j, j < 3 → cur[k * 3 + j]? = (pc l[k])[j]? := fun j hj => by
    rw [← pcs_at l k j hk hj, ← ht, List.getElem?_take_of_lt (by omega)]; simp
  ·exact one 0 (by omega)
  ·exact one 1 (by omega)
  ·exact one 2 (by omega)

def headV (n : Nat) (l : List Piece) : Value := match headN n l with
 | some f => .tuple #[.int .i64 0, .int .i64 0, .int .i64 f.1, .int .i64 (f.2 : Int)]
 | none => .tuple #[.int .i64 (numOf l 2), .int .i64 (numOf l 3), .int .i64 0, .int .i64 0]

set_option maxHeartbeats 1000000 in
theorem head_nil (s : ByteArray) (sa : Option Addr) (c : Nat) (w : World) : Calls Tryz.prog 28 #[.string s, .slice sa 0 c] w fun e w' => e = .returned (headV s.size []) ∧ Below w.heap.size w w' := by
 have HV : Hid (headV s.size [] = .tuple #[.int .i64 0, .int .i64 0, .int .i64 135, .int .i64 (s.size : Int)]) := rfl
 go_enter Tryz.func28, Tryz.ntmps28
 go_wp2
 rw [HV.out]
 exact bodyPost_ret (v := .tuple #[.int .i64 0, .int .i64 0, .int .i64 135, .int .i64 (s.size : Int)]) (by simp [results, Tryz.results28, go_sem]) rfl ⟨rfl, Below.refl _ _⟩

/-- what the head's loop has in hand. -/
structure HBox (w W : World) (x2 x3 : Int) : Prop where
 r0 : W.heap[w.heap.size]? = some (.cells #[.int .i64 0, .int .i64 0, .int .i64 65536, .int .i64 65536] 3 (0, 0))
 r1 : W.heap[w.heap.size + 1]? = some (.cells #[.int .i64 0, .int .i64 0, .int .i64 x2, .int .i64 x3] 110 (0, 0))
 below : Below w.heap.size w W
theorem HBox.store2 {w W : World} {x2 x3 : Int} (h : HBox w W x2 x3) (y : Int) : HBox w (W.setCell ⟨w.heap.size + 1, 2, none⟩ (.int .i64 y)) y x3 := by
 refine ⟨(Below.heap_setCell W _ _ _ (by simp)).trans h.r0, ?_, h.below.setCell (by simp) _⟩
 have hb := (Array.getElem?_eq_some_iff.1 h.r1).1
 simp [World.setCell, Array.getElem?_modify, h.r1]
theorem HBox.store3 {w W : World} {x2 x3 : Int} (h : HBox w W x2 x3) (y : Int) : HBox w (W.setCell ⟨w.heap.size + 1, 3, none⟩ (.int .i64 y)) x2 y := by
 refine ⟨(Below.heap_setCell W _ _ _ (by simp)).trans h.r0, ?_, h.below.setCell (by simp) _⟩
 have hb := (Array.getElem?_eq_some_iff.1 h.r1).1
 simp [World.setCell, Array.getElem?_modify, h.r1]

theorem below_drewN {B : Nat} {w W : World} (h : Below B w W) (n : Nat) : Below B w (W.drewN n) := ⟨h.os, h.tape, h.output, h.size, h.block⟩
theorem HBox.drewN {w W : World} {x2 x3 : Int} (h : HBox w W x2 x3) (n : Nat) : HBox w (W.drewN n) x2 x3 := ⟨h.r0, h.r1, below_drewN h.below n⟩

theorem headV_fault {n : Nat} {l : List Piece} {f : Int × Nat} (h : headN n l = some f) : headV n l = .tuple #[.int .i64 0, .int .i64 0, .int .i64 f.1, .int .i64 (f.2 : Int)] := by unfold headV; rw [h]
theorem headV_fine {n : Nat} {l : List Piece} (h : headN n l = none) : headV n l = .tuple #[.int .i64 (numOf l 2), .int .i64 (numOf l 3), .int .i64 0, .int .i64 0] := by unfold headV; rw [h]
theorem headFrom_fault {l : List Piece} {d i : Nat} {f : Int × Nat} (h : headStep l i = some f) : headFrom l (d + 1) i = some f := by rw [headFrom, h]
theorem headFrom_on {l : List Piece} {d i : Nat} (h : headStep l i = none) : headFrom l (d + 1) i = headFrom l d (i + 1) := by rw [headFrom, h]

set_option maxHeartbeats 2000000 in
set_option maxRecDepth 100000 in
theorem head_cons (s : ByteArray) (sa : Option Addr) (n c : Nat) (l : List Piece) (w : World) (hp : PAt w sa l) (hln : l.length = n) (hne : 0 < n) (hll : n ≤ 1048576) (hat : ∀ k (hk : k < l.length), l[k].at_ + l[k].w.length ≤ 1048576) :
  Calls Tryz.prog 28 #[.string s, .slice sa n c] w fun e w' => e = .returned (headV s.size l) ∧ Below w.heap.size w w' := by
 have HN : Hid (headN s.size l = headFrom l 4 0) := by
  show _ = _
  unfold headN; rw [if_neg (fun e => by rw [e] at hln; simp at hln; omega)]
 have HP := hid hp
 have HAT := hid hat
 have hne2 : ((n : Int) == 0) = false := by rw [beq_eq_false_iff_ne]; omega
 have HLN := hid hln
 have hl0 : 0 < l.length := by rw [hln]; exact hne
 clear hp hat hln
 go_enter Tryz.func28, Tryz.ntmps28
 go_wp2
 go_loopw [10] (fun i W => ∃ k : Nat, k ≤ 4 ∧ k ≤ n ∧ i = .int .i64 k ∧ Hid (headFrom l 4 0 = headFrom l (4 - k) k ∧ HBox w W (if 2 < k then numOf l 2 else 0) (if 3 < k then numOf l 3 else 0))) (fun i _ => 4 - (intOf i).toNat)
 case atStart =>
  refine ⟨0, Nat.zero_le _, Nat.zero_le _, rfl, rfl, ?_, ?_, ((Below.refl _ _).alloc (Nat.le_refl _) _).alloc (by simp) _⟩
  ·exact (Below.heap_alloc _ _ _ (by simp)).trans (heap_alloc_new w _)
  ·have := heap_alloc_new (w.alloc (Obj.cells #[.int .i64 0, .int .i64 0, .int .i64 65536, .int .i64 65536] 3 (0, 0))) (Obj.cells #[.int .i64 0, .int .i64 0, .int .i64 0, .int .i64 0] 110 (0, 0))
   simpa using this
 case round =>
  obtain ⟨k, hk, hkn, rfl, HH⟩ := hrel
  obtain ⟨h1, h2⟩ := HH.out
  have hk5 : k = 4 ∨ k = 0 ∨ k = 1 ∨ k = 2 ∨ k = 3 := by omega
  rcases hk5 with rfl | rfl | rfl | rfl | rfl
  ·simp only [show (2 : Nat) < 4 by omega, show (3 : Nat) < 4 by omega, if_true] at h2
   have r0 := fun j => cell_row h2.r1 j
   obtain ⟨g, rfl, hg, c0, c1, c2⟩ := HP.out.at_ 0 hl0
   have d2 := below_cell h2.below hg c2
   simp only [Nat.zero_mul, Nat.zero_add] at d2
   have HB2 := hid h2
   have hln0 : lineOf l 0 = l[0].line := by simp [lineOf, List.getElem?_eq_getElem hl0]
   have HLN0 := hid hln0
   have HFR : Hid (headN s.size l = headFrom l 0 4) := by show _ = _; rw [HN.out, h1]
   clear c0 c1 c2 h1 h2 HH hln0
   by_cases hin : 4 < n
   ·have hin' : 4 < l.length := by rw [HLN.out]; exact hin
    obtain ⟨g', eg, hg', a0, a1, a2⟩ := HP.out.at_ 4 hin'
    cases eg
    have b1 := below_cell HB2.out.below hg' a1
    have b2 := below_cell HB2.out.below hg' a2
    simp only [show 4 * 3 + 1 = 13 by rfl, show 4 * 3 + 2 = 14 by rfl] at b1 b2
    have hgt : decide ((4 : Int) < (n : Int)) = true := decide_eq_true (by omega)
    clear a0 a1 a2
    by_cases hli : (l[4].line : Int) = (l[0].line : Int)
    ·have hlb : ((l[4].line : Int) == (l[0].line : Int)) = true := by rw [beq_iff_eq]; exact hli
     have HF : Hid (headN s.size l = some ((135 : Int), l[4].at_)) := by
      show _ = _
      rw [HFR.out]
      unfold headFrom
      rw [List.getElem?_eq_getElem hin']
      simp only [HLN0.out]
      rw [if_pos (by omega)]
     clear hli
     go_wp2
     go_quiet (fail)
     go_wp2
     go_quiet (fail)
     go_wp2
     rw [headV_fault HF.out]
     exact bodyPost_ret (v := .tuple #[.int .i64 0, .int .i64 0, .int .i64 135, .int .i64 (l[4].at_ : Int)]) (by simp [results, Tryz.results28, go_sem]) rfl ⟨rfl, below_drewN (below_drewN HB2.out.below _) _⟩
    ·have hlb : ((l[4].line : Int) == (l[0].line : Int)) = false := by rw [beq_eq_false_iff_ne]; exact hli
     have HF : Hid (headN s.size l = none) := by
      show _ = _
      rw [HFR.out]
      unfold headFrom
      rw [List.getElem?_eq_getElem hin']
      simp only [HLN0.out]
      rw [if_neg (by omega)]
     clear hli
     go_wp2
     go_quiet (fail)
     go_wp2
     go_quiet (fail)
     go_wp2
     rw [headV_fine HF.out]
     exact bodyPost_ret (v := .tuple #[.int .i64 (numOf l 2), .int .i64 (numOf l 3), .int .i64 0, .int .i64 0]) (by simp [results, Tryz.results28, go_sem]) rfl ⟨rfl, below_drewN (below_drewN HB2.out.below _) _⟩
   ·have hgt : decide ((4 : Int) < (n : Int)) = false := decide_eq_false (by omega)
    have HF : Hid (headN s.size l = none) := by
     show _ = _
     rw [HFR.out]
     unfold headFrom
     rw [List.getElem?_eq_none (by rw [HLN.out]; omega)]
    go_wp2
    go_quiet (fail)
    go_wp2
    go_quiet (fail)
    go_wp2
    rw [headV_fine HF.out]
    exact bodyPost_ret (v := .tuple #[.int .i64 (numOf l 2), .int .i64 (numOf l 3), .int .i64 0, .int .i64 0]) (by simp [results, Tryz.results28, go_sem]) rfl ⟨rfl, below_drewN (below_drewN HB2.out.below _) _⟩
  ·simp only [show ¬ (2 : Nat) < 0 by omega, show ¬ (3 : Nat) < 0 by omega, if_false] at h2
   obtain ⟨g, rfl, hg, c0, c1, c2⟩ := HP.out.at_ 0 hl0
   have d0 := below_cell h2.below hg c0
   have d1 := below_cell h2.below hg c1
   have d2 := below_cell h2.below hg c2
   simp only [Nat.zero_mul, Nat.zero_add] at d0 d1 d2
   have HB2 := hid h2
   have HFR : Hid (headFrom l 4 0 = headFrom l (3 + 1) 0) := h1
   have HLN0 : Hid (lineOf l 0 = l[0].line) := by show _ = _; simp [lineOf, List.getElem?_eq_getElem hl0]
   clear c0 c1 c2 h1 h2 HH
   clear HFR
   have hge : decide (n = 0) = false := decide_eq_false (by omega)
   have hll0 : ((l[0].line : Int) != (l[0].line : Int)) = false := by simp
   by_cases hw : l[0].w = [112]
   ·rw [hw] at d0
    have HST : Hid (headStep l 0 = none) := by
     show _ = _
     unfold headStep
     rw [List.getElem?_eq_getElem hl0]
     simp [HLN0.out, hw]
    clear hw
    go_wp2
    go_quiet (fail)
    go_wp2
    refine ⟨⟨1, by omega, by omega, rfl, ?_, ?_⟩, by simp [intOf]⟩
    ·exact headFrom_on HST.out
    ·exact HB2.out.drewN _
   ·have HWN := hid hw
    have hwb : (l[0].w == [112]) = false := by rw [beq_eq_false_iff_ne]; exact hw
    have HF : Hid (headN s.size l = some ((135 : Int), l[0].at_)) := by
     show _ = _
     rw [HN.out]
     refine headFrom_fault ?_
     unfold headStep
     rw [List.getElem?_eq_getElem hl0]
     simp [HLN0.out, HWN.out]
    go_wp2
    go_quiet (fail)
    go_wp2
    go_quiet (fail)
    go_wp2
    rw [headV_fault HF.out]
    exact bodyPost_ret (v := .tuple #[.int .i64 0, .int .i64 0, .int .i64 135, .int .i64 (l[0].at_ : Int)]) (by simp [results, Tryz.results28, go_sem]) rfl ⟨rfl, below_drewN (below_drewN HB2.out.below _) _⟩
  ·simp only [show ¬ (2 : Nat) < 1 by omega, show ¬ (3 : Nat) < 1 by omega, if_false] at h2
   obtain ⟨g, rfl, hg, c0, c1, c2⟩ := HP.out.at_ 0 hl0
   have d0 := below_cell h2.below hg c0
   have d1 := below_cell h2.below hg c1
   have d2 := below_cell h2.below hg c2
   simp only [Nat.zero_mul, Nat.zero_add] at d0 d1 d2
   have HB2 := hid h2
   have HFR : Hid (headFrom l 4 0 = headFrom l (2 + 1) 1) := h1
   have HLN0 : Hid (lineOf l 0 = l[0].line) := by show _ = _; simp [lineOf, List.getElem?_eq_getElem hl0]
   clear c0 c1 c2 h1 h2 HH
   have hpl : 0 < l.length := by rw [HLN.out]; omega
   by_cases hin : 1 < n
   ·have hin' : 1 < l.length := by rw [HLN.out]; exact hin
    obtain ⟨g', eg, hg', a0, a1, a2⟩ := HP.out.at_ 1 hin'
    cases eg
    have b0 := below_cell HB2.out.below hg' a0
    have b1 := below_cell HB2.out.below hg' a1
    have b2 := below_cell HB2.out.below hg' a2
    simp only [show 1 * 3 = 3 by rfl, show 3 + 1 = 4 by rfl, show 3 + 2 = 5 by rfl] at b0 b1 b2
    have hge : decide ((n : Int) ≤ 1) = false := decide_eq_false (by omega)
    clear a0 a1 a2
    by_cases hli : (l[1].line : Int) = (l[0].line : Int)
    ·have hlb : ((l[1].line : Int) != (l[0].line : Int)) = false := by simp; omega
     have hle : l[1].line = l[0].line := by omega
     have HLE := hid hle
     clear hli hle
     by_cases hw : l[1].w = [99, 110, 102]
     ·rw [hw] at b0
      have HST : Hid (headStep l 1 = none) := by
       show _ = _
       unfold headStep
       rw [List.getElem?_eq_getElem hin']
       simp [HLN0.out, HLE.out, hw]
      clear hw
      go_wp2
      go_quiet (fail)
      go_wp2
      refine ⟨⟨2, by omega, by omega, rfl, ?_, ?_⟩, by simp [intOf]⟩
      ·show headFrom l 4 0 = headFrom l 2 2
       rw [HFR.out, headFrom_on HST.out]
      ·exact HB2.out.drewN _
     ·have HWN := hid hw
      have hwb : (l[1].w == [99, 110, 102]) = false := by rw [beq_eq_false_iff_ne]; exact hw
      have HF : Hid (headN s.size l = some ((135 : Int), l[1].at_)) := by
       show _ = _
       rw [HN.out]
       rw [HFR.out]
       refine headFrom_fault ?_
       unfold headStep
       rw [List.getElem?_eq_getElem hin']
       simp [HLN0.out, HLE.out, HWN.out]
      go_wp2
      go_quiet (fail)
      go_wp2
      go_quiet (fail)
      go_wp2
      rw [headV_fault HF.out]
      exact bodyPost_ret (v := .tuple #[.int .i64 0, .int .i64 0, .int .i64 135, .int .i64 (l[1].at_ : Int)]) (by simp [results, Tryz.results28, go_sem]) rfl ⟨rfl, below_drewN (below_drewN HB2.out.below _) _⟩
    ·have hlb : ((l[1].line : Int) != (l[0].line : Int)) = true := by simp; omega
     have hle : ¬ l[1].line = l[0].line := by omega
     have HLE := hid hle
     clear hli hle
     have HF : Hid (headN s.size l = some ((135 : Int), l[0].at_ + l[0].w.length)) := by
      show _ = _
      rw [HN.out]
      rw [HFR.out]
      refine headFrom_fault ?_
      unfold headStep
      rw [List.getElem?_eq_getElem hin']
      simp [HLN0.out, HLE.out, prevEnd, List.getElem?_eq_getElem hpl]
     obtain ⟨g2, eg2, hg2, p0, p1, p2⟩ := HP.out.at_ 0 hpl
     cases eg2
     have q0 := below_cell HB2.out.below hg2 p0
     have q1 := below_cell HB2.out.below hg2 p1
     have q2 := below_cell HB2.out.below hg2 p2
     simp only [show 0 * 3 = 0 by rfl, show 0 + 1 = 1 by rfl, show 0 + 2 = 2 by rfl] at q0 q1 q2
     have hpv := HAT.out 0 hpl
     clear p0 p1 p2
     go_wp2
     go_quiet (fail)
     obtain ⟨wx, hwx⟩ : ∃ wx, wx = wr.drewN nq := ⟨_, rfl⟩
     rw [← hwx]
     have e0 : wx.cell? ⟨g, 0, none⟩ = some (str l[0].w) := by rw [hwx]; exact q0
     have e1 : wx.cell? ⟨g, 1, none⟩ = some (.int .i64 (l[0].at_ : Int)) := by rw [hwx]; exact q1
     have e2 : wx.cell? ⟨g, 2, none⟩ = some (.int .i64 (l[0].line : Int)) := by rw [hwx]; exact q2
     have HBX : Hid (Below w.heap.size w wx) := by rw [hwx]; exact below_drewN HB2.out.below _
     have HSZ := hid HBX.out.size
     clear hwx q0 q1 q2
     go_wp2
     go_quiet (fail)
     go_wp2
     rw [headV_fault HF.out]
     exact bodyPost_ret (v := .tuple #[.int .i64 0, .int .i64 0, .int .i64 135, .int .i64 ((l[0].at_ : Int) + (l[0].w.length : Int))]) (by simp [results, Tryz.results28, go_sem]) rfl ⟨by simp, below_drewN (HBX.out.alloc HSZ.out _) _⟩
   ·have hge : decide ((n : Int) ≤ 1) = true := decide_eq_true (by omega)
    have HF : Hid (headN s.size l = some ((135 : Int), l[0].at_ + l[0].w.length)) := by
     show _ = _
     rw [HN.out]
     rw [HFR.out]
     refine headFrom_fault ?_
     unfold headStep
     rw [List.getElem?_eq_none (by rw [HLN.out]; omega)]
     simp [prevEnd, List.getElem?_eq_getElem hpl]
    obtain ⟨g2, eg2, hg2, p0, p1, p2⟩ := HP.out.at_ 0 hpl
    cases eg2
    have q0 := below_cell HB2.out.below hg2 p0
    have q1 := below_cell HB2.out.below hg2 p1
    have q2 := below_cell HB2.out.below hg2 p2
    simp only [show 0 * 3 = 0 by rfl, show 0 + 1 = 1 by rfl, show 0 + 2 = 2 by rfl] at q0 q1 q2
    have hpv := HAT.out 0 hpl
    clear p0 p1 p2
    go_wp2
    go_quiet (fail)
    obtain ⟨wx, hwx⟩ : ∃ wx, wx = wr.drewN nq := ⟨_, rfl⟩
    rw [← hwx]
    have e0 : wx.cell? ⟨g, 0, none⟩ = some (str l[0].w) := by rw [hwx]; exact q0
    have e1 : wx.cell? ⟨g, 1, none⟩ = some (.int .i64 (l[0].at_ : Int)) := by rw [hwx]; exact q1
    have e2 : wx.cell? ⟨g, 2, none⟩ = some (.int .i64 (l[0].line : Int)) := by rw [hwx]; exact q2
    have HBX : Hid (Below w.heap.size w wx) := by rw [hwx]; exact below_drewN HB2.out.below _
    have HSZ := hid HBX.out.size
    clear hwx q0 q1 q2
    go_wp2
    go_quiet (fail)
    go_wp2
    rw [headV_fault HF.out]
    exact bodyPost_ret (v := .tuple #[.int .i64 0, .int .i64 0, .int .i64 135, .int .i64 ((l[0].at_ : Int) + (l[0].w.length : Int))]) (by simp [results, Tryz.results28, go_sem]) rfl ⟨by simp, below_drewN (HBX.out.alloc HSZ.out _) _⟩
  ·simp only [show ¬ (2 : Nat) < 2 by omega, show ¬ (3 : Nat) < 2 by omega, if_false] at h2
   obtain ⟨g, rfl, hg, c0, c1, c2⟩ := HP.out.at_ 0 hl0
   have d0 := below_cell h2.below hg c0
   have d1 := below_cell h2.below hg c1
   have d2 := below_cell h2.below hg c2
   simp only [Nat.zero_mul, Nat.zero_add] at d0 d1 d2
   have HB2 := hid h2
   have HFR : Hid (headFrom l 4 0 = headFrom l (1 + 1) 2) := h1
   have HLN0 : Hid (lineOf l 0 = l[0].line) := by show _ = _; simp [lineOf, List.getElem?_eq_getElem hl0]
   clear c0 c1 c2 h1 h2 HH
   have hpl : 1 < l.length := by rw [HLN.out]; omega
   by_cases hin : 2 < n
   ·have hin' : 2 < l.length := by rw [HLN.out]; exact hin
    obtain ⟨g', eg, hg', a0, a1, a2⟩ := HP.out.at_ 2 hin'
    cases eg
    have b0 := below_cell HB2.out.below hg' a0
    have b1 := below_cell HB2.out.below hg' a1
    have b2 := below_cell HB2.out.below hg' a2
    simp only [show 2 * 3 = 6 by rfl, show 6 + 1 = 7 by rfl, show 6 + 2 = 8 by rfl] at b0 b1 b2
    have hge : decide ((n : Int) ≤ 2) = false := decide_eq_false (by omega)
    clear a0 a1 a2
    by_cases hli : (l[2].line : Int) = (l[0].line : Int)
    ·have hlb : ((l[2].line : Int) != (l[0].line : Int)) = false := by simp; omega
     have hle : l[2].line = l[0].line := by omega
     have HLE := hid hle
     clear hli hle
     obtain ⟨v, hv⟩ : ∃ v, v = numB l[2].w 2147483647 := ⟨_, rfl⟩
     have HV := hid hv
     have HNO : Hid (numOf l 2 = v) := by show _ = _; simp [numOf, List.getElem?_eq_getElem hin', hv]
     have hvr := numB_range l[2].w 2147483647
     rw [← hv] at hvr
     have HNB : Hid (∀ W, Calls Tryz.prog 48 #[str l[2].w, .int .i64 2147483647] W fun e w' => e = .returned (.int .i64 v) ∧ w' = W) := fun W => by
      have := number_any ⟨l[2].w.toArray⟩ 2147483647 W (by have := HAT.out 2 hin'; show l[2].w.length ≤ _; omega) (by omega)
      rw [hv]
      simpa using this
     obtain ⟨hv1, hv2⟩ := hvr
     have hv3 : v ≤ 2147483647 := by omega
     have r1 := fun j => cell_row HB2.out.r1 j
     have f1 := fun j => unfrozen_row HB2.out.r1 j
     have r0 := fun j => cell_row HB2.out.r0 j
     clear hv hv2
     by_cases hneg : v < 0
     ·have HNG := hid hneg
      have HF : Hid (headN s.size l = some ((133 : Int), l[2].at_)) := by
       show _ = _
       rw [HN.out]
       rw [HFR.out]
       refine headFrom_fault ?_
       unfold headStep
       rw [List.getElem?_eq_getElem hin']
       simp [HLN0.out, HLE.out, ← HV.out, HNG.out]
      go_wp2
      go_quiet (fail)
      go_wp2_with (go_at_call 48; refine (HNB.out _).mono ?_; rintro e w' ⟨rfl, rfl⟩)
      go_quiet (fail)
      go_wp2
      rw [headV_fault HF.out]
      exact bodyPost_ret (v := .tuple #[.int .i64 0, .int .i64 0, .int .i64 133, .int .i64 (l[2].at_ : Int)]) (by simp [results, Tryz.results28, go_sem]) rfl ⟨rfl, below_drewN ((below_drewN HB2.out.below _).setCell (p := ⟨w.heap.size + 1, 2, none⟩) (by simp) _) _⟩
     ·have hnn : ¬ v < 0 := hneg
      by_cases hbig : 65536 < v
      ·have HBG := hid hbig
       have HF : Hid (headN s.size l = some ((8 : Int), l[2].at_)) := by
        show _ = _
        rw [HN.out]
        rw [HFR.out]
        refine headFrom_fault ?_
        unfold headStep
        rw [List.getElem?_eq_getElem hin']
        simp [HLN0.out, HLE.out, ← HV.out, hneg, HBG.out]
       go_wp2
       go_quiet (fail)
       go_wp2_with (go_at_call 48; refine (HNB.out _).mono ?_; rintro e w' ⟨rfl, rfl⟩)
       go_quiet (fail)
       go_wp2
       go_quiet (fail)
       go_wp2
       rw [headV_fault HF.out]
       exact bodyPost_ret (v := .tuple #[.int .i64 0, .int .i64 0, .int .i64 8, .int .i64 (l[2].at_ : Int)]) (by simp [results, Tryz.results28, go_sem]) rfl ⟨rfl, below_drewN (below_drewN ((below_drewN HB2.out.below _).setCell (p := ⟨w.heap.size + 1, 2, none⟩) (by simp) _) _) _⟩
      ·have HST : Hid (headStep l 2 = none) := by
        show _ = _
        unfold headStep
        rw [List.getElem?_eq_getElem hin']
        simp [HLN0.out, HLE.out, ← HV.out, hneg, hbig]
       go_wp2
       go_quiet (fail)
       go_wp2_with (go_at_call 48; refine (HNB.out _).mono ?_; rintro e w' ⟨rfl, rfl⟩)
       go_quiet (fail)
       go_wp2
       refine ⟨⟨3, by omega, by omega, rfl, ?_, ?_⟩, by simp [intOf]⟩
       ·show headFrom l 4 0 = headFrom l 1 3
        rw [HFR.out, headFrom_on HST.out]
       ·show HBox w _ (numOf l 2) 0
        rw [HNO.out]
        exact ((HB2.out.drewN _).store2 v).drewN _
    ·have hlb : ((l[2].line : Int) != (l[0].line : Int)) = true := by simp; omega
     have hle : ¬ l[2].line = l[0].line := by omega
     have HLE := hid hle
     clear hli hle
     have HF : Hid (headN s.size l = some ((135 : Int), l[1].at_ + l[1].w.length)) := by
      show _ = _
      rw [HN.out]
      rw [HFR.out]
      refine headFrom_fault ?_
      unfold headStep
      rw [List.getElem?_eq_getElem hin']
      simp [HLN0.out, HLE.out, prevEnd, List.getElem?_eq_getElem hpl]
     obtain ⟨g2, eg2, hg2, p0, p1, p2⟩ := HP.out.at_ 1 hpl
     cases eg2
     have q0 := below_cell HB2.out.below hg2 p0
     have q1 := below_cell HB2.out.below hg2 p1
     have q2 := below_cell HB2.out.below hg2 p2
     simp only [show 1 * 3 = 3 by rfl, show 3 + 1 = 4 by rfl, show 3 + 2 = 5 by rfl] at q0 q1 q2
     have hpv := HAT.out 1 hpl
     clear p0 p1 p2
     go_wp2
     go_quiet (fail)
     obtain ⟨wx, hwx⟩ : ∃ wx, wx = wr.drewN nq := ⟨_, rfl⟩
     rw [← hwx]
     have e0 : wx.cell? ⟨g, 3, none⟩ = some (str l[1].w) := by rw [hwx]; exact q0
     have e1 : wx.cell? ⟨g, 4, none⟩ = some (.int .i64 (l[1].at_ : Int)) := by rw [hwx]; exact q1
     have e2 : wx.cell? ⟨g, 5, none⟩ = some (.int .i64 (l[1].line : Int)) := by rw [hwx]; exact q2
     have HBX : Hid (Below w.heap.size w wx) := by rw [hwx]; exact below_drewN HB2.out.below _
     have HSZ := hid HBX.out.size
     clear hwx q0 q1 q2
     go_wp2
     go_quiet (fail)
     go_wp2
     rw [headV_fault HF.out]
     exact bodyPost_ret (v := .tuple #[.int .i64 0, .int .i64 0, .int .i64 135, .int .i64 ((l[1].at_ : Int) + (l[1].w.length : Int))]) (by simp [results, Tryz.results28, go_sem]) rfl ⟨by simp, below_drewN (HBX.out.alloc HSZ.out _) _⟩
   ·have hge : decide ((n : Int) ≤ 2) = true := decide_eq_true (by omega)
    have HF : Hid (headN s.size l = some ((135 : Int), l[1].at_ + l[1].w.length)) := by
     show _ = _
     rw [HN.out]
     rw [HFR.out]
     refine headFrom_fault ?_
     unfold headStep
     rw [List.getElem?_eq_none (by rw [HLN.out]; omega)]
     simp [prevEnd, List.getElem?_eq_getElem hpl]
    obtain ⟨g2, eg2, hg2, p0, p1, p2⟩ := HP.out.at_ 1 hpl
    cases eg2
    have q0 := below_cell HB2.out.below hg2 p0
    have q1 := below_cell HB2.out.below hg2 p1
    have q2 := below_cell HB2.out.below hg2 p2
    simp only [show 1 * 3 = 3 by rfl, show 3 + 1 = 4 by rfl, show 3 + 2 = 5 by rfl] at q0 q1 q2
    have hpv := HAT.out 1 hpl
    clear p0 p1 p2
    go_wp2
    go_quiet (fail)
    obtain ⟨wx, hwx⟩ : ∃ wx, wx = wr.drewN nq := ⟨_, rfl⟩
    rw [← hwx]
    have e0 : wx.cell? ⟨g, 3, none⟩ = some (str l[1].w) := by rw [hwx]; exact q0
    have e1 : wx.cell? ⟨g, 4, none⟩ = some (.int .i64 (l[1].at_ : Int)) := by rw [hwx]; exact q1
    have e2 : wx.cell? ⟨g, 5, none⟩ = some (.int .i64 (l[1].line : Int)) := by rw [hwx]; exact q2
    have HBX : Hid (Below w.heap.size w wx) := by rw [hwx]; exact below_drewN HB2.out.below _
    have HSZ := hid HBX.out.size
    clear hwx q0 q1 q2
    go_wp2
    go_quiet (fail)
    go_wp2
    rw [headV_fault HF.out]
    exact bodyPost_ret (v := .tuple #[.int .i64 0, .int .i64 0, .int .i64 135, .int .i64 ((l[1].at_ : Int) + (l[1].w.length : Int))]) (by simp [results, Tryz.results28, go_sem]) rfl ⟨by simp, below_drewN (HBX.out.alloc HSZ.out _) _⟩
  ·simp only [show (2 : Nat) < 3 by omega, show ¬ (3 : Nat) < 3 by omega, if_true, if_false] at h2
   obtain ⟨g, rfl, hg, c0, c1, c2⟩ := HP.out.at_ 0 hl0
   have d0 := below_cell h2.below hg c0
   have d1 := below_cell h2.below hg c1
   have d2 := below_cell h2.below hg c2
   simp only [Nat.zero_mul, Nat.zero_add] at d0 d1 d2
   have HB2 := hid h2
   have HFR : Hid (headFrom l 4 0 = headFrom l (0 + 1) 3) := h1
   have HLN0 : Hid (lineOf l 0 = l[0].line) := by show _ = _; simp [lineOf, List.getElem?_eq_getElem hl0]
   clear c0 c1 c2 h1 h2 HH
   have hpl : 2 < l.length := by rw [HLN.out]; omega
   by_cases hin : 3 < n
   ·have hin' : 3 < l.length := by rw [HLN.out]; exact hin
    obtain ⟨g', eg, hg', a0, a1, a2⟩ := HP.out.at_ 3 hin'
    cases eg
    have b0 := below_cell HB2.out.below hg' a0
    have b1 := below_cell HB2.out.below hg' a1
    have b2 := below_cell HB2.out.below hg' a2
    simp only [show 3 * 3 = 9 by rfl, show 9 + 1 = 10 by rfl, show 9 + 2 = 11 by rfl] at b0 b1 b2
    have hge : decide ((n : Int) ≤ 3) = false := decide_eq_false (by omega)
    clear a0 a1 a2
    by_cases hli : (l[3].line : Int) = (l[0].line : Int)
    ·have hlb : ((l[3].line : Int) != (l[0].line : Int)) = false := by simp; omega
     have hle : l[3].line = l[0].line := by omega
     have HLE := hid hle
     clear hli hle
     obtain ⟨v, hv⟩ : ∃ v, v = numB l[3].w 2147483647 := ⟨_, rfl⟩
     have HV := hid hv
     have HNO : Hid (numOf l 3 = v) := by show _ = _; simp [numOf, List.getElem?_eq_getElem hin', hv]
     have hvr := numB_range l[3].w 2147483647
     rw [← hv] at hvr
     have HNB : Hid (∀ W, Calls Tryz.prog 48 #[str l[3].w, .int .i64 2147483647] W fun e w' => e = .returned (.int .i64 v) ∧ w' = W) := fun W => by
      have := number_any ⟨l[3].w.toArray⟩ 2147483647 W (by have := HAT.out 3 hin'; show l[3].w.length ≤ _; omega) (by omega)
      rw [hv]
      simpa using this
     obtain ⟨hv1, hv2⟩ := hvr
     have hv3 : v ≤ 2147483647 := by omega
     have r1 := fun j => cell_row HB2.out.r1 j
     have f1 := fun j => unfrozen_row HB2.out.r1 j
     have r0 := fun j => cell_row HB2.out.r0 j
     clear hv hv2
     by_cases hneg : v < 0
     ·have HNG := hid hneg
      have HF : Hid (headN s.size l = some ((133 : Int), l[3].at_)) := by
       show _ = _
       rw [HN.out]
       rw [HFR.out]
       refine headFrom_fault ?_
       unfold headStep
       rw [List.getElem?_eq_getElem hin']
       simp [HLN0.out, HLE.out, ← HV.out, HNG.out]
      go_wp2
      go_quiet (fail)
      go_wp2_with (go_at_call 48; refine (HNB.out _).mono ?_; rintro e w' ⟨rfl, rfl⟩)
      go_quiet (fail)
      go_wp2
      rw [headV_fault HF.out]
      exact bodyPost_ret (v := .tuple #[.int .i64 0, .int .i64 0, .int .i64 133, .int .i64 (l[3].at_ : Int)]) (by simp [results, Tryz.results28, go_sem]) rfl ⟨rfl, below_drewN ((below_drewN HB2.out.below _).setCell (p := ⟨w.heap.size + 1, 3, none⟩) (by simp) _) _⟩
     ·have hnn : ¬ v < 0 := hneg
      by_cases hbig : 65536 < v
      ·have HBG := hid hbig
       have HF : Hid (headN s.size l = some ((8 : Int), l[3].at_)) := by
        show _ = _
        rw [HN.out]
        rw [HFR.out]
        refine headFrom_fault ?_
        unfold headStep
        rw [List.getElem?_eq_getElem hin']
        simp [HLN0.out, HLE.out, ← HV.out, hneg, HBG.out]
       go_wp2
       go_quiet (fail)
       go_wp2_with (go_at_call 48; refine (HNB.out _).mono ?_; rintro e w' ⟨rfl, rfl⟩)
       go_quiet (fail)
       go_wp2
       go_quiet (fail)
       go_wp2
       rw [headV_fault HF.out]
       exact bodyPost_ret (v := .tuple #[.int .i64 0, .int .i64 0, .int .i64 8, .int .i64 (l[3].at_ : Int)]) (by simp [results, Tryz.results28, go_sem]) rfl ⟨rfl, below_drewN (below_drewN ((below_drewN HB2.out.below _).setCell (p := ⟨w.heap.size + 1, 3, none⟩) (by simp) _) _) _⟩
      ·have HST : Hid (headStep l 3 = none) := by
        show _ = _
        unfold headStep
        rw [List.getElem?_eq_getElem hin']
        simp [HLN0.out, HLE.out, ← HV.out, hneg, hbig]
       go_wp2
       go_quiet (fail)
       go_wp2_with (go_at_call 48; refine (HNB.out _).mono ?_; rintro e w' ⟨rfl, rfl⟩)
       go_quiet (fail)
       go_wp2
       refine ⟨⟨4, by omega, by omega, rfl, ?_, ?_⟩, by simp [intOf]⟩
       ·show headFrom l 4 0 = headFrom l 0 4
        rw [HFR.out, headFrom_on HST.out]
       ·show HBox w _ (numOf l 2) (numOf l 3)
        rw [HNO.out]
        exact ((HB2.out.drewN _).store3 v).drewN _
    ·have hlb : ((l[3].line : Int) != (l[0].line : Int)) = true := by simp; omega
     have hle : ¬ l[3].line = l[0].line := by omega
     have HLE := hid hle
     clear hli hle
     have HF : Hid (headN s.size l = some ((135 : Int), l[2].at_ + l[2].w.length)) := by
      show _ = _
      rw [HN.out]
      rw [HFR.out]
      refine headFrom_fault ?_
      unfold headStep
      rw [List.getElem?_eq_getElem hin']
      simp [HLN0.out, HLE.out, prevEnd, List.getElem?_eq_getElem hpl]
     obtain ⟨g2, eg2, hg2, p0, p1, p2⟩ := HP.out.at_ 2 hpl
     cases eg2
     have q0 := below_cell HB2.out.below hg2 p0
     have q1 := below_cell HB2.out.below hg2 p1
     have q2 := below_cell HB2.out.below hg2 p2
     simp only [show 2 * 3 = 6 by rfl, show 6 + 1 = 7 by rfl, show 6 + 2 = 8 by rfl] at q0 q1 q2
     have hpv := HAT.out 2 hpl
     clear p0 p1 p2
     go_wp2
     go_quiet (fail)
     obtain ⟨wx, hwx⟩ : ∃ wx, wx = wr.drewN nq := ⟨_, rfl⟩
     rw [← hwx]
     have e0 : wx.cell? ⟨g, 6, none⟩ = some (str l[2].w) := by rw [hwx]; exact q0
     have e1 : wx.cell? ⟨g, 7, none⟩ = some (.int .i64 (l[2].at_ : Int)) := by rw [hwx]; exact q1
     have e2 : wx.cell? ⟨g, 8, none⟩ = some (.int .i64 (l[2].line : Int)) := by rw [hwx]; exact q2
     have HBX : Hid (Below w.heap.size w wx) := by rw [hwx]; exact below_drewN HB2.out.below _
     have HSZ := hid HBX.out.size
     clear hwx q0 q1 q2
     go_wp2
     go_quiet (fail)
     go_wp2
     rw [headV_fault HF.out]
     exact bodyPost_ret (v := .tuple #[.int .i64 0, .int .i64 0, .int .i64 135, .int .i64 ((l[2].at_ : Int) + (l[2].w.length : Int))]) (by simp [results, Tryz.results28, go_sem]) rfl ⟨by simp, below_drewN (HBX.out.alloc HSZ.out _) _⟩
   ·have hge : decide ((n : Int) ≤ 3) = true := decide_eq_true (by omega)
    have HF : Hid (headN s.size l = some ((135 : Int), l[2].at_ + l[2].w.length)) := by
     show _ = _
     rw [HN.out]
     rw [HFR.out]
     refine headFrom_fault ?_
     unfold headStep
     rw [List.getElem?_eq_none (by rw [HLN.out]; omega)]
     simp [prevEnd, List.getElem?_eq_getElem hpl]
    obtain ⟨g2, eg2, hg2, p0, p1, p2⟩ := HP.out.at_ 2 hpl
    cases eg2
    have q0 := below_cell HB2.out.below hg2 p0
    have q1 := below_cell HB2.out.below hg2 p1
    have q2 := below_cell HB2.out.below hg2 p2
    simp only [show 2 * 3 = 6 by rfl, show 6 + 1 = 7 by rfl, show 6 + 2 = 8 by rfl] at q0 q1 q2
    have hpv := HAT.out 2 hpl
    clear p0 p1 p2
    go_wp2
    go_quiet (fail)
    obtain ⟨wx, hwx⟩ : ∃ wx, wx = wr.drewN nq := ⟨_, rfl⟩
    rw [← hwx]
    have e0 : wx.cell? ⟨g, 6, none⟩ = some (str l[2].w) := by rw [hwx]; exact q0
    have e1 : wx.cell? ⟨g, 7, none⟩ = some (.int .i64 (l[2].at_ : Int)) := by rw [hwx]; exact q1
    have e2 : wx.cell? ⟨g, 8, none⟩ = some (.int .i64 (l[2].line : Int)) := by rw [hwx]; exact q2
    have HBX : Hid (Below w.heap.size w wx) := by rw [hwx]; exact below_drewN HB2.out.below _
    have HSZ := hid HBX.out.size
    clear hwx q0 q1 q2
    go_wp2
    go_quiet (fail)
    go_wp2
    rw [headV_fault HF.out]
    exact bodyPost_ret (v := .tuple #[.int .i64 0, .int .i64 0, .int .i64 135, .int .i64 ((l[2].at_ : Int) + (l[2].w.length : Int))]) (by simp [results, Tryz.results28, go_sem]) rfl ⟨by simp, below_drewN (HBX.out.alloc HSZ.out _) _⟩
end Go.Proofs.YtdkboifpdodonacGreatDoor.Cn
/-
 Clauses in the making: a box with two lists that are owned.
-/
namespace Go.Proofs.YtdkboifpdodonacGreatDoor.Cn
open Go.RowKit Go.Deep PureCnf
set_option maxRecDepth 100000

theorem ci_append (a b : List Int) : ci (a ++ b) = ci a ++ ci b := by simp [ci]

theorem run_append_int (w : World) (base : Nat) (ty : TypeId) (v : Value) (l : List Int) (hown : w.ownsRow base 3 1 v l.length (ci l)) (ad : Addr) (x : Int) (hu : w.cell? ad = some (.int .i64 x)) (hn : l.length ≤ 1099511627776) (hbase : base ≤ w.heap.size) :
  ∃ v' w', (Builtin.append_ #[31, 31] ty #[v, .slice (some ad) 1 1]).run Tryz.prog w = .ok v' w' ∧ w'.ownsRow base 3 1 v' (l ++ [x]).length (ci (l ++ [x])) ∧ w.grownBy w' v.ownBlock ∧ (v'.ownBlock = v.ownBlock ∨ v'.ownBlock = some w.heap.size) := by
 obtain ⟨i, hi, hz0, hz1, hz2⟩ := info_parts info3
 have hnews : ∀ j y, [Value.int .i64 x][j]? = some y → w.cell? (ad.add j) = some y := by
  intro j y hy
  cases j with
  | zero => simp at hy; subst hy; simpa [Addr.add] using hu
  | succ j => simp at hy
 have h1' : ∀ y ∈ [Value.int .i64 x], y.oneCell' = true := by intro y hy; simp at hy; subst hy; rfl
 obtain ⟨v', w', hr, ho, hg, hnil⟩ := run_append_own (P := Tryz.prog) w base 31 ty 3 i (.int .i64 0) 1 8 Tryz.underlying31 hi hz0 hz1 hz2 rfl (by decide) v l.length (ci l) hown ad 1 1 [.int .i64 x] rfl hnews h1' (by unfold maxLen; omega) (by omega) hbase
 refine ⟨v', w', hr, ?_, hg, ?_⟩
 ·rw [ci_append, List.length_append]
  exact ho
 ·rcases hown.2 with ⟨rfl, h0⟩ | ⟨g, cap, cur, rfl, hbg, hgg, hnc, hcm, hcs, htake⟩
  ·have hx : l = [] := List.eq_nil_of_length_eq_zero h0
   subst hx
   have hr' := run_append_nil (P := Tryz.prog) w 31 ty 3 i (.int .i64 0) Tryz.underlying31 hi hz0 ad 1 1 [.int .i64 x] (by rw [hz1]; rfl) hnews (by omega) (by omega) (by rw [hz2]; omega)
   have e : (Builtin.append_ #[31, 31] ty #[.slice none 0 0, .slice (some ad) 1 1]).run Tryz.prog w = .ok v' w' := hr
   rw [e] at hr'
   simp only [Result.ok.injEq] at hr'
   right
   rw [hr'.1]
   rfl
  ·by_cases hroom : l.length + 1 ≤ cap
   ·have hr' := run_append_room (P := Tryz.prog) w 31 ty 3 i Tryz.underlying31 hi g l.length cap cur hgg ad 1 1 [.int .i64 x] (by rw [hz1]; rfl) hnews h1' hroom (by rw [hz1, hcs]; simp; omega)
    rw [hr] at hr'
    simp only [Result.ok.injEq] at hr'
    left
    rw [hr'.1]
    rfl
   ·have hr' := run_append_grow (P := Tryz.prog) w 31 ty 3 i (.int .i64 0) Tryz.underlying31 hi hz0 ⟨g, 0, none⟩ l.length cap (ci l) (by rw [hz1]; exact hown.1) (hown.cells (g := g) rfl) ad 1 1 [.int .i64 x] (by rw [hz1]; rfl) hnews (by omega) (by omega) (by rw [hz2]; exact growslice_fits (by omega) (by omega))
    rw [hr] at hr'
    simp only [Result.ok.injEq] at hr'
    right
    rw [hr'.1]
    rfl

/-- clauses in the making: their box at b; the lists lie behind it. -/
structure Out (w0 W : World) (b : Nat) (V : Int) (E L : List Int) (ve vl : Value) : Prop where
 row : W.heap[b]? = some (.cells #[.int .i64 V, ve, vl] 33 (0, 0))
 oe : W.ownsRow (b + 1) 3 1 ve E.length (ci E)
 ol : W.ownsRow (b + 1) 3 1 vl L.length (ci L)
 apart : ve.ownBlock = none ∨ ve.ownBlock ≠ vl.ownBlock
 below : Below b w0 W

theorem Out.size {w0 W : World} {b : Nat} {V : Int} {E L : List Int} {ve vl : Value} (h : Out w0 W b V E L ve vl) : b + 1 ≤ W.heap.size := (Array.getElem?_eq_some_iff.1 h.row).1

theorem ownsRow_below {w W : World} {base e size n : Nat} {v : Value} {xs : List Value} (h : w.ownsRow base e size v n xs) (hb : Below w.heap.size w W) : W.ownsRow base e size v n xs := by
 refine ⟨h.1, ?_⟩
 rcases h.2 with hn | ⟨g, cap, cur, hv, hB, hg, rest⟩
 ·exact .inl hn
 ·exact .inr ⟨g, cap, cur, hv, hB, (hb.block g (Array.getElem?_eq_some_iff.1 hg).1).trans hg, rest⟩

theorem Out.on {w0 W W' : World} {b : Nat} {V : Int} {E L : List Int} {ve vl : Value} (h : Out w0 W b V E L ve vl) (hb : Below W.heap.size W W') : Out w0 W' b V E L ve vl :=
 ⟨(hb.block _ h.size).trans h.row, ownsRow_below h.oe hb, ownsRow_below h.ol hb, h.apart, h.below.trans (hb.mono (by have := h.size; omega))⟩

theorem ownsRow_store {W : World} {base e size n b i : Nat} {v u : Value} {xs : List Value} (h : W.ownsRow base e size v n xs) (hb : b < base) : (W.setCell ⟨b, i, none⟩ u).ownsRow base e size v n xs := by
 refine ⟨h.1, ?_⟩
 rcases h.2 with hn | ⟨g, cap, cur, hv, hB, hg, rest⟩
 ·exact .inl hn
 ·exact .inr ⟨g, cap, cur, hv, hB, (Below.heap_setCell W _ _ _ (by simp; omega)).trans hg, rest⟩

/-- the Ends grow. -/
theorem Out.ends {w0 W : World} {b : Nat} {V : Int} {E L : List Int} {ve vl : Value} (h : Out w0 W b V E L ve vl) {W' : World} {ve' : Value} {x : Int}
  (ho : W'.ownsRow (b + 1) 3 1 ve' (E ++ [x]).length (ci (E ++ [x]))) (hg : W.grownBy W' ve.ownBlock) (hf : ve'.ownBlock = ve.ownBlock ∨ ve'.ownBlock = some W.heap.size) : Out w0 (W'.setCell ⟨b, 1, none⟩ ve') b V (E ++ [x]) L ve' vl := by
 have hs := h.size
 have hvl : W'.ownsRow (b + 1) 3 1 vl L.length (ci L) := h.ol.kept hg (by
  rcases h.apart with ha | ha
  ·rw [ha]; cases vl.ownBlock <;> simp
  ·exact .inr (Ne.symm ha))
 have hrow : W'.heap[b]? = some (.cells #[.int .i64 V, ve, vl] 33 (0, 0)) := by
  rw [← h.row]
  refine hg.block b hs (fun e => ?_)
  have := (h.oe.lt b e.symm).1
  omega
 refine ⟨?_, ownsRow_store ho (by omega), ownsRow_store hvl (by omega), ?_, ?_⟩
 ·have hb := (Array.getElem?_eq_some_iff.1 hrow).1
  simp [World.setCell, Array.getElem?_modify, hrow]
 ·rcases hf with hf | hf
  ·rw [hf]; exact h.apart
  ·right
   rw [hf]
   intro e
   have := (h.ol.lt _ e.symm).2
   omega
 ·exact (h.below.grown hg (by omega) (fun k hk => by have := (h.oe.lt k hk).1; omega)).setCell (by simp) _
/-- the Lits grow. -/
theorem Out.lits {w0 W : World} {b : Nat} {V : Int} {E L : List Int} {ve vl : Value} (h : Out w0 W b V E L ve vl) {W' : World} {vl' : Value} {x : Int}
  (ho : W'.ownsRow (b + 1) 3 1 vl' (L ++ [x]).length (ci (L ++ [x]))) (hg : W.grownBy W' vl.ownBlock) (hf : vl'.ownBlock = vl.ownBlock ∨ vl'.ownBlock = some W.heap.size) : Out w0 (W'.setCell ⟨b, 2, none⟩ vl') b V E (L ++ [x]) ve vl' := by
 have hs := h.size
 have hve : W'.ownsRow (b + 1) 3 1 ve E.length (ci E) := h.oe.kept hg (by
  rcases h.apart with ha | ha
  ·exact .inl ha
  ·exact .inr ha)
 have hrow : W'.heap[b]? = some (.cells #[.int .i64 V, ve, vl] 33 (0, 0)) := by
  rw [← h.row]
  refine hg.block b hs (fun e => ?_)
  have := (h.ol.lt b e.symm).1
  omega
 refine ⟨?_, ownsRow_store hve (by omega), ownsRow_store ho (by omega), ?_, ?_⟩
 ·have hb := (Array.getElem?_eq_some_iff.1 hrow).1
  simp [World.setCell, Array.getElem?_modify, hrow]
 ·rcases hf with hf | hf
  ·rw [hf]; exact h.apart
  ·rw [hf]
   cases hv : ve.ownBlock with
   | none => exact .inl rfl
   | some k =>
    right
    intro e
    have := (h.oe.lt k hv).2
    simp at e
    omega
 ·exact (h.below.grown hg (by omega) (fun k hk => by have := (h.ol.lt k hk).1; omega)).setCell (by simp) _

theorem Out.alloc {w0 W : World} {b : Nat} {V : Int} {E L : List Int} {ve vl : Value} (h : Out w0 W b V E L ve vl) (o : Obj) : Out w0 (W.alloc o) b V E L ve vl := h.on ((Below.refl _ _).alloc (Nat.le_refl _) o)

theorem app_end {ops : Array Oper} {rest : List Oper} {o : Oper} {a : Act} {Q : Exit → Act → World → Prop} {w0 W : World} {b : Nat} {V : Int} {E L : List Int} {ve vl : Value} (hgd : o.guard = none) (s x : Operand)
  (hop : o.op = .call { callee := .builtin .append, args := #[s, x], argTypes := #[31, 31] }) (h : Out w0 W b V E L ve vl) (y : Int) (hs : a.eval s = ve) (hx : a.eval x = .slice (some ⟨W.heap.size, 0, none⟩) 1 1) (hn : E.length ≤ 1099511627776)
  (hK : ∀ v' w', Out w0 (w'.setCell ⟨b, 1, none⟩ v') b V (E ++ [y]) L v' vl → w'.heap[b]? = some (.cells #[.int .i64 V, ve, vl] 33 (0, 0)) → wpList Tryz.prog ops Q rest (a.put o.dst v') w') : wpList Tryz.prog ops Q (o :: rest) a (W.alloc (.cells #[.int .i64 y] 3)) := by
 refine wpList_plain hgd fun K' hK' => ?_
 have h' := h.alloc (.cells #[.int .i64 y] 3)
 obtain ⟨v', w', hrun, h1, h2, h3⟩ := run_append_int _ (b + 1) o.type ve E h'.oe ⟨W.heap.size, 0, none⟩ y (by rw [cell_row (heap_alloc_new W _)]; rfl) hn h'.size
 unfold Oper.wp
 simp [execOp, hop, resolve, invoke, builtin, hs, hx, hrun, Result.andThen]
 refine hK' _ _ (hK v' w' (h'.ends h1 h2 h3) ?_)
 rw [← h'.row]
 refine h2.block b h'.size (fun e => ?_)
 have := (h'.oe.lt b e.symm).1
 omega

theorem app_lit {ops : Array Oper} {rest : List Oper} {o : Oper} {a : Act} {Q : Exit → Act → World → Prop} {w0 W : World} {b : Nat} {V : Int} {E L : List Int} {ve vl : Value} (hgd : o.guard = none) (s x : Operand)
  (hop : o.op = .call { callee := .builtin .append, args := #[s, x], argTypes := #[31, 31] }) (h : Out w0 W b V E L ve vl) (y : Int) (hs : a.eval s = vl) (hx : a.eval x = .slice (some ⟨W.heap.size, 0, none⟩) 1 1) (hn : L.length ≤ 1099511627776)
  (hK : ∀ v' w', Out w0 (w'.setCell ⟨b, 2, none⟩ v') b V E (L ++ [y]) ve v' → w'.heap[b]? = some (.cells #[.int .i64 V, ve, vl] 33 (0, 0)) → wpList Tryz.prog ops Q rest (a.put o.dst v') w') : wpList Tryz.prog ops Q (o :: rest) a (W.alloc (.cells #[.int .i64 y] 3)) := by
 refine wpList_plain hgd fun K' hK' => ?_
 have h' := h.alloc (.cells #[.int .i64 y] 3)
 obtain ⟨v', w', hrun, h1, h2, h3⟩ := run_append_int _ (b + 1) o.type vl L h'.ol ⟨W.heap.size, 0, none⟩ y (by rw [cell_row (heap_alloc_new W _)]; rfl) hn h'.size
 unfold Oper.wp
 simp [execOp, hop, resolve, invoke, builtin, hs, hx, hrun, Result.andThen]
 refine hK' _ _ (hK v' w' (h'.lits h1 h2 h3) ?_)
 rw [← h'.row]
 refine h2.block b h'.size (fun e => ?_)
 have := (h'.ol.lt b e.symm).1
 omega

theorem Out.ints {w0 W : World} {b : Nat} {V : Int} {E L : List Int} {ve vl : Value} (h : Out w0 W b V E L ve vl) : (∃ sa c, ve = .slice sa E.length c ∧ E.length ≤ c) ∧ ∃ sa c, vl = .slice sa L.length c ∧ L.length ≤ c := by
 constructor
 ·rcases h.oe.2 with ⟨hv, h0⟩ | ⟨g, cap, cur, hv, _, _, hn, _⟩
  ·exact ⟨none, 0, by rw [hv, h0], by omega⟩
  ·exact ⟨_, _, hv, hn⟩
 ·rcases h.ol.2 with ⟨hv, h0⟩ | ⟨g, cap, cur, hv, _, _, hn, _⟩
  ·exact ⟨none, 0, by rw [hv, h0], by omega⟩
  ·exact ⟨_, _, hv, hn⟩
end Go.Proofs.YtdkboifpdodonacGreatDoor.Cn
