import Derived.Test.YtfmmmhcpdinhgabDoorZ09
/-
  The document's reading: an item, ahead of its words.
-/
namespace Go.Proofs.YtfmmmhcpdinhgabDoor
open Go.RowKit Go.Deep PureNet PureRd
set_option maxRecDepth 100000

set_option maxHeartbeats 8000000 in
theorem item1 (T : Nat → List UInt8) (w W : World) (r : Nat) (text : List UInt8) (s : Rs) (x : Dx) (y : Wd) (t : List Wd) (v e1 e2 : Value) (h : Dr w W r text (dOf s) x) (hv : WA W w.heap.size text (y :: t) v) (hf : s.fault = none) (hm : s.mode = 1) (hy : y.1 ≠ endW) (hw : formW y.1 = []) :
    Calls Tryd.prog 21 #[.pointer (some ⟨r, 0, none⟩), .agg #[v, e1, e2]] W (LineIs w W r text (lineF T (y :: t) s)) := by
  obtain ⟨a0, ha0⟩ : ∃ a0 : Int, a0 = ((spotN (text.take y.2)).1 : Int) := ⟨_, rfl⟩
  obtain ⟨b0, hb0⟩ : ∃ b0 : Int, b0 = ((spotN (text.take y.2)).2 : Int) := ⟨_, rfl⟩
  obtain ⟨g, c, rfl, hgM, hgW, wc⟩ := hv.word
  obtain ⟨WB, hWB, bb, hd, hv2, r53, r30, r71⟩ := pre_line (z1 := .slice (some ⟨g, 0, none⟩) (t.length + 1) c) (z2 := e1) (z3 := e2) h hv (str y.1) (.int .i64 a0) (.int .i64 b0)
  obtain ⟨k0, k1, k2⟩ := wc 0 y rfl
  rw [← ha0] at k1
  rw [← hb0] at k2
  have hrB := hd.size
  have hsz : W.heap.size + 1 + 1 < WB.heap.size := (Array.getElem?_eq_some_iff.1 r71).1
  have HW : Hid (w.heap.size ≤ W.heap.size) := h.below.size
  have BB := hid bb
  have HBX := hid h.box
  have DD := hid hd
  have c53 := fun j => cell_row r53 j
  have c71 := fun j => cell_row r71 j
  have R30 := hid r30
  have cr1 := cell_row hd.box 1
  have cr2 := cell_row hd.box 2
  obtain ⟨g', c', hgc, _, _, wc2⟩ := hv2.word
  simp only [Value.slice.injEq, Option.some.injEq, Addr.mk.injEq, and_true, true_and] at hgc
  obtain ⟨rfl, rfl⟩ := hgc
  rw [List.length_cons]
  have HWB := hid hWB
  have FC := hid (fun W a b => fault_any 140 a b W)
  have FM := hid (fun W => form_any y.1 W)
  have hm61 : (rcells (dOf s) x)[1]? = some x.gv := rfl
  rw [hm61] at cr1
  have hm62 : (rcells (dOf s) x)[2]? = some x.ov := rfl
  rw [hm62] at cr2
  obtain ⟨sg, cg, hgv⟩ := own_shape h.gates
  obtain ⟨so, co, hov⟩ := own_shape h.outs
  rw [hgv] at cr1
  rw [hov] at cr2
  obtain ⟨ng, hng⟩ : ∃ ng, ng = (dOf s).gs.length := ⟨_, rfl⟩
  rw [← hng] at cr1
  obtain ⟨no, hno⟩ : ∃ no, no = (dOf s).outs := ⟨_, rfl⟩
  rw [← hno] at cr2
  have HFL : Hid ((lineF T (y :: t) s).fault = some (140, y.2)) := line_odd T hf hm hy hw
  have HFV : Hid (faV text (140, y.2) = .agg #[.int .i64 140, .int .i64 a0, .int .i64 b0]) := by show _ = _; rw [ha0, hb0]; rfl
  rw [hw] at FM
  clear ha0 hb0 wc wc2 hm hy hw hng hno
  clear h hv hd hv2 bb hWB r53 r30 r71 hgv hov hm61 hm62
  go_enter Tryd.func21, Tryd.ntmps21
  go_wp2_with (first
    | (rw [← HWB.out])
    | (go_at_call 39; refine (FM.out _).mono ?_; rintro e w1 ⟨rfl, hw1⟩; rw [hw1]; clear hw1)
    | (go_at_call 10; refine (FC.out _ _ _).mono ?_; rintro e w4 ⟨rfl, b4⟩; have B4 : Hid (Below W.heap.size W w4) := BB.out.trans (b4.mono BB.out.size); have r4 := (b4.block _ (by omega)).trans R30.out; have c4 := fun j => cell_row r4 j; have f4 := fun j => unfrozen_row r4 j; have hs4 : W.heap.size + 1 < w4.heap.size := (Array.getElem?_eq_some_iff.1 r4).1; clear b4 r4))
  exact bodyPost_ret (v := .agg #[.int .i64 140, .int .i64 a0, .int .i64 b0]) (by simp [results, Tryd.results21, go_sem, c4]) rfl ⟨ans_below (by have := HW.out; omega) (B4.out.mono HW.out) _ _ _, (kp_below B4.out).ans (by omega), .inl ⟨_, HFL.out, congrArg _ HFV.out.symm⟩⟩
set_option maxHeartbeats 8000000 in
theorem item2 (T : Nat → List UInt8) (w W : World) (r : Nat) (text : List UInt8) (s : Rs) (x : Dx) (y : Wd) (t : List Wd) (v e1 e2 : Value) (h : Dr w W r text (dOf s) x) (hv : WA W w.heap.size text (y :: t) v) (hf : s.fault = none) (hm : s.mode = 1) (hy : y.1 = outW) (ho : s.outs = 65536) :
    Calls Tryd.prog 21 #[.pointer (some ⟨r, 0, none⟩), .agg #[v, e1, e2]] W (LineIs w W r text (lineF T (y :: t) s)) := by
  obtain ⟨a0, ha0⟩ : ∃ a0 : Int, a0 = ((spotN (text.take y.2)).1 : Int) := ⟨_, rfl⟩
  obtain ⟨b0, hb0⟩ : ∃ b0 : Int, b0 = ((spotN (text.take y.2)).2 : Int) := ⟨_, rfl⟩
  obtain ⟨g, c, rfl, hgM, hgW, wc⟩ := hv.word
  obtain ⟨WB, hWB, bb, hd, hv2, r53, r30, r71⟩ := pre_line (z1 := .slice (some ⟨g, 0, none⟩) (t.length + 1) c) (z2 := e1) (z3 := e2) h hv (str y.1) (.int .i64 a0) (.int .i64 b0)
  obtain ⟨k0, k1, k2⟩ := wc 0 y rfl
  rw [← ha0] at k1
  rw [← hb0] at k2
  have hrB := hd.size
  have hsz : W.heap.size + 1 + 1 < WB.heap.size := (Array.getElem?_eq_some_iff.1 r71).1
  have HW : Hid (w.heap.size ≤ W.heap.size) := h.below.size
  have BB := hid bb
  have HBX := hid h.box
  have DD := hid hd
  have c53 := fun j => cell_row r53 j
  have c71 := fun j => cell_row r71 j
  have R30 := hid r30
  have cr1 := cell_row hd.box 1
  have cr2 := cell_row hd.box 2
  obtain ⟨g', c', hgc, _, _, wc2⟩ := hv2.word
  simp only [Value.slice.injEq, Option.some.injEq, Addr.mk.injEq, and_true, true_and] at hgc
  obtain ⟨rfl, rfl⟩ := hgc
  rw [List.length_cons]
  have HWB := hid hWB
  have FC := hid (fun W a b => fault_any 8 a b W)
  have FM := hid (fun W => form_any y.1 W)
  have hm61 : (rcells (dOf s) x)[1]? = some x.gv := rfl
  rw [hm61] at cr1
  have hm62 : (rcells (dOf s) x)[2]? = some x.ov := rfl
  rw [hm62] at cr2
  obtain ⟨sg, cg, hgv⟩ := own_shape h.gates
  obtain ⟨so, co, hov⟩ := own_shape h.outs
  rw [hgv] at cr1
  rw [hov] at cr2
  obtain ⟨ng, hng⟩ : ∃ ng, ng = (dOf s).gs.length := ⟨_, rfl⟩
  rw [← hng] at cr1
  obtain ⟨no, hno⟩ : ∃ no, no = (dOf s).outs := ⟨_, rfl⟩
  rw [← hno] at cr2
  have HFL : Hid ((lineF T (y :: t) s).fault = some (8, y.2)) := line_out_many T hf hm hy ho
  have HFV : Hid (faV text (8, y.2) = .agg #[.int .i64 8, .int .i64 a0, .int .i64 b0]) := by show _ = _; rw [ha0, hb0]; rfl
  have hw : formW y.1 = [117] := by rw [hy]; rfl
  rw [hw] at FM
  have hy1 : (y.1 == [111, 117, 116, 112, 117, 116]) = true := by rw [hy]; rfl
  have ho1 : no = 65536 := by rw [hno]; exact ho
  subst ho1
  clear ha0 hb0 wc wc2 hm hy hw hng hno ho
  clear h hv hd hv2 bb hWB r53 r30 r71 hgv hov hm61 hm62
  go_enter Tryd.func21, Tryd.ntmps21
  go_wp2_with (first
    | (rw [← HWB.out])
    | (go_at_call 39; refine (FM.out _).mono ?_; rintro e w1 ⟨rfl, hw1⟩; rw [hw1]; clear hw1)
    | (go_at_call 10; refine (FC.out _ _ _).mono ?_; rintro e w4 ⟨rfl, b4⟩; have B4 : Hid (Below W.heap.size W w4) := BB.out.trans (b4.mono BB.out.size); have r4 := (b4.block _ (by omega)).trans R30.out; have c4 := fun j => cell_row r4 j; have f4 := fun j => unfrozen_row r4 j; have hs4 : W.heap.size + 1 < w4.heap.size := (Array.getElem?_eq_some_iff.1 r4).1; clear b4 r4))
  exact bodyPost_ret (v := .agg #[.int .i64 8, .int .i64 a0, .int .i64 b0]) (by simp [results, Tryd.results21, go_sem, c4]) rfl ⟨ans_below (by have := HW.out; omega) (B4.out.mono HW.out) _ _ _, (kp_below B4.out).ans (by omega), .inl ⟨_, HFL.out, congrArg _ HFV.out.symm⟩⟩
set_option maxHeartbeats 8000000 in
theorem item3 (T : Nat → List UInt8) (w W : World) (r : Nat) (text : List UInt8) (s : Rs) (x : Dx) (y : Wd) (t : List Wd) (v e1 e2 : Value) (h : Dr w W r text (dOf s) x) (hv : WA W w.heap.size text (y :: t) v) (hf : s.fault = none) (hm : s.mode = 1) (hy : y.1 ≠ outW) (hw : formW y.1 ≠ []) (hg : (gatesOf s.lines).length = s.names.length) (ho : s.names.length = 65536) :
    Calls Tryd.prog 21 #[.pointer (some ⟨r, 0, none⟩), .agg #[v, e1, e2]] W (LineIs w W r text (lineF T (y :: t) s)) := by
  obtain ⟨a0, ha0⟩ : ∃ a0 : Int, a0 = ((spotN (text.take y.2)).1 : Int) := ⟨_, rfl⟩
  obtain ⟨b0, hb0⟩ : ∃ b0 : Int, b0 = ((spotN (text.take y.2)).2 : Int) := ⟨_, rfl⟩
  obtain ⟨g, c, rfl, hgM, hgW, wc⟩ := hv.word
  obtain ⟨WB, hWB, bb, hd, hv2, r53, r30, r71⟩ := pre_line (z1 := .slice (some ⟨g, 0, none⟩) (t.length + 1) c) (z2 := e1) (z3 := e2) h hv (str y.1) (.int .i64 a0) (.int .i64 b0)
  obtain ⟨k0, k1, k2⟩ := wc 0 y rfl
  rw [← ha0] at k1
  rw [← hb0] at k2
  have hrB := hd.size
  have hsz : W.heap.size + 1 + 1 < WB.heap.size := (Array.getElem?_eq_some_iff.1 r71).1
  have HW : Hid (w.heap.size ≤ W.heap.size) := h.below.size
  have BB := hid bb
  have HBX := hid h.box
  have DD := hid hd
  have c53 := fun j => cell_row r53 j
  have c71 := fun j => cell_row r71 j
  have R30 := hid r30
  have cr1 := cell_row hd.box 1
  have cr2 := cell_row hd.box 2
  obtain ⟨g', c', hgc, _, _, wc2⟩ := hv2.word
  simp only [Value.slice.injEq, Option.some.injEq, Addr.mk.injEq, and_true, true_and] at hgc
  obtain ⟨rfl, rfl⟩ := hgc
  rw [List.length_cons]
  have HWB := hid hWB
  have FC := hid (fun W a b => fault_any 8 a b W)
  have FM := hid (fun W => form_any y.1 W)
  have hm61 : (rcells (dOf s) x)[1]? = some x.gv := rfl
  rw [hm61] at cr1
  have hm62 : (rcells (dOf s) x)[2]? = some x.ov := rfl
  rw [hm62] at cr2
  obtain ⟨sg, cg, hgv⟩ := own_shape h.gates
  obtain ⟨so, co, hov⟩ := own_shape h.outs
  rw [hgv] at cr1
  rw [hov] at cr2
  obtain ⟨ng, hng⟩ : ∃ ng, ng = (dOf s).gs.length := ⟨_, rfl⟩
  rw [← hng] at cr1
  obtain ⟨no, hno⟩ : ∃ no, no = (dOf s).outs := ⟨_, rfl⟩
  rw [← hno] at cr2
  have HFL : Hid ((lineF T (y :: t) s).fault = some (8, y.2)) := (line_gate T hf hm hy hw).1 ho
  have HFV : Hid (faV text (8, y.2) = .agg #[.int .i64 8, .int .i64 a0, .int .i64 b0]) := by show _ = _; rw [ha0, hb0]; rfl
  obtain ⟨fw, hfw⟩ : ∃ fw, fw = formW y.1 := ⟨_, rfl⟩
  rw [← hfw] at FM hw
  have hw1 : (fw == []) = false := by simpa using hw
  have hy1 : (y.1 == [111, 117, 116, 112, 117, 116]) = false := by simpa [outW] using hy
  have ho1 : ng = 65536 := by rw [hng]; exact hg.trans ho
  subst ho1
  clear ha0 hb0 wc wc2 hm hy hw hng hno ho hfw
  clear h hv hd hv2 bb hWB r53 r30 r71 hgv hov hm61 hm62
  go_enter Tryd.func21, Tryd.ntmps21
  go_wp2_with (first
    | (rw [← HWB.out])
    | (go_at_call 39; refine (FM.out _).mono ?_; rintro e w1 ⟨rfl, hw1⟩; rw [hw1]; clear hw1)
    | (go_at_call 10; refine (FC.out _ _ _).mono ?_; rintro e w4 ⟨rfl, b4⟩; have B4 : Hid (Below W.heap.size W w4) := BB.out.trans (b4.mono BB.out.size); have r4 := (b4.block _ (by omega)).trans R30.out; have c4 := fun j => cell_row r4 j; have f4 := fun j => unfrozen_row r4 j; have hs4 : W.heap.size + 1 < w4.heap.size := (Array.getElem?_eq_some_iff.1 r4).1; clear b4 r4))
  exact bodyPost_ret (v := .agg #[.int .i64 8, .int .i64 a0, .int .i64 b0]) (by simp [results, Tryd.results21, go_sem, c4]) rfl ⟨ans_below (by have := HW.out; omega) (B4.out.mono HW.out) _ _ _, (kp_below B4.out).ans (by omega), .inl ⟨_, HFL.out, congrArg _ HFV.out.symm⟩⟩
end Go.Proofs.YtfmmmhcpdinhgabDoor
/-
  The reader connects its lines: what is said of it, and a fault told at any block of the reader.
-/
namespace Go.Proofs.YtfmmmhcpdinhgabDoor
open Go.RowKit Go.Deep PureNet PureRd ShfKit
set_option maxRecDepth 100000

/-- the place that a line's word means. -/
def plcI (s : Rs) (ws : List Wd) (i : Nat) : Int := match ws[i]? with | some y => (((placeOf s y.1).getD 0 : Nat) : Int) | none => 0
def unk (s : Rs) (ws : List Wd) : Option Wd := ws.find? (fun y => (placeOf s y.1).isNone)
def gaOf (s : Rs) (l : Ln) : Ga := ⟨l.kind, ⟨l.name.toArray⟩, l.op, plcI s l.uses 0, plcI s l.uses 1, plcI s l.uses 2⟩
/-- lines are connected: a word that no line has, the gates, the outs. -/
def connF (s : Rs) : List Ln → List Ga → List Int → Option Wd × List Ga × List Int
  | [], gs, os => (none, gs, os)
  | l :: t, gs, os => match unk s l.uses with
    | some y => (some y, gs, os)
    | none => if l.kind = 0 then connF s t gs (os ++ [plcI s l.uses 0]) else connF s t (gs ++ [gaOf s l]) os
/-- the reader's block with a circuit's gates and outs. -/
def boxC (text : List UInt8) (s : Rs) (x : Bx) (gv ov : Value) : Array Value := #[str text, x.rm, x.lf, str s.last.1, .int .i64 (s.last.2 : Int), x.ln, .int .i64 (s.outs : Int), .map (some x.pm), x.nv, str s.cname, gv, ov, .int .i64 (fcode s.fault), .int .i64 (fline text s.fault), .int .i64 (fcol text s.fault)]
/-- connected so far. -/
structure Cn (w W : World) (b : Nat) (text : List UInt8) (s : Rs) (x : Bx) (gv ov : Value) (gs : List Ga) (os : List Int) : Prop where
  size : w.heap.size ≤ W.heap.size
  kept : ∀ k, k < w.heap.size → k ≠ b → W.heap[k]? = w.heap[k]?
  bl : b < w.heap.size
  box : W.heap[b]? = some (.cells (boxC text s x gv ov) 67 (0, 0))
  gates : W.ownsRow w.heap.size 57 6 gv gs.length (gas gs)
  outs : W.ownsRow w.heap.size 3 1 ov os.length (nu os)
  b0 : Below 0 w W
theorem Cn.start {W : World} {B b : Nat} {text : List UInt8} {s : Rs} {x : Bx} (h : Rt W B b text s x) : Cn W W b text s x (.slice none 0 0) (.slice none 0 0) [] [] :=
  ⟨Nat.le_refl _, fun _ _ _ => rfl, (Array.getElem?_eq_some_iff.1 h.box).1, h.box, ⟨rfl, .inl ⟨rfl, rfl⟩⟩, ⟨rfl, .inl ⟨rfl, rfl⟩⟩, Below.refl _ _⟩
/-- new blocks come. -/
theorem Cn.on {w W W' : World} {b : Nat} {text : List UInt8} {s : Rs} {x : Bx} {gv ov : Value} {gs : List Ga} {os : List Int} (h : Cn w W b text s x gv ov gs os) (hb : Below W.heap.size W W') : Cn w W' b text s x gv ov gs os :=
  ⟨Nat.le_trans h.size hb.size, fun k hk hn => (hb.block k (Nat.lt_of_lt_of_le hk h.size)).trans (h.kept k hk hn), h.bl, (hb.block b (Nat.lt_of_lt_of_le h.bl h.size)).trans h.box, ownsRow_below h.gates hb, ownsRow_below h.outs hb, h.b0.trans (hb.mono (Nat.zero_le _))⟩
/-- a block that is neither the reader's nor a row of gates or outs is written over. -/
theorem Cn.put {w W W' : World} {b k : Nat} {text : List UInt8} {s : Rs} {x : Bx} {gv ov : Value} {gs : List Ga} {os : List Int} {c : Array Value} {t : Nat} {fz : Nat × Nat} (h : Cn w W b text s x gv ov gs os) (hk : W.heap[k]? = some (.cells c t fz)) (hw : w.heap.size ≤ k) (h3 : t ≠ 3) (h42 : t ≠ 57) (hs : W.heap.size ≤ W'.heap.size) (hj : ∀ j, j ≠ k → j < W.heap.size → W'.heap[j]? = W.heap[j]?) (h0 : Below 0 W W') : Cn w W' b text s x gv ov gs os := by
  have hb := h.bl
  have hsz := h.size
  have own : ∀ {e size n : Nat} {v : Value} {xs : List Value}, e ≠ t → W.ownsRow w.heap.size e size v n xs → W'.ownsRow w.heap.size e size v n xs := fun he ho => by
    refine ⟨ho.1, ?_⟩
    rcases ho.2 with hn | ⟨g, cap, cur, hv, hb2, hr, rest⟩
    · exact .inl hn
    · refine .inr ⟨g, cap, cur, hv, hb2, (hj g (fun e2 => ?_) (Array.getElem?_eq_some_iff.1 hr).1).trans hr, rest⟩
      rw [e2, hk] at hr
      simp only [Option.some.injEq, Obj.cells.injEq] at hr
      exact he hr.2.1.symm
  exact ⟨by omega, fun j h1 h2 => (hj j (by omega) (by omega)).trans (h.kept j h1 h2), h.bl, (hj b (by omega) (by omega)).trans h.box, own (Ne.symm h42) h.gates, own (Ne.symm h3) h.outs, h.b0.trans h0⟩

set_option maxHeartbeats 4000000 in
/-- the first fault, told at a reader's block. -/
theorem refuse_box (b : Nat) (text : List UInt8) (s : Rs) (x : Bx) (gv ov : Value) (code : Int) (at_ : Nat) (w : World) (h : w.heap[b]? = some (.cells (boxC text s x gv ov) 67 (0, 0))) (hs : text.length ≤ 1048576) (ha : at_ ≤ text.length) (hfa : s.fault = none) :
    Calls Tryd.prog 36 #[.pointer (some ⟨b, 0, none⟩), .int .i64 code, .int .i64 (at_ : Int)] w fun e w' => (∃ y, e = .returned y) ∧ w'.heap[b]? = some (.cells (boxC text (refuse s code at_) x gv ov) 67 (0, 0)) ∧ w.heap.size ≤ w'.heap.size ∧ (∀ k, k ≠ b → k < w.heap.size → w'.heap[k]? = w.heap[k]?) ∧ Below 0 w w' := by
  have hbl := (Array.getElem?_eq_some_iff.1 h).1
  have HP : Hid (∀ W, Calls Tryd.prog 55 #[str text, .int .i64 (at_ : Int)] W fun e w' => e = .returned (.agg #[.int .i64 ((spotN (text.take at_)).1 : Int), .int .i64 ((spotN (text.take at_)).2 : Int)]) ∧ Below W.heap.size W w') := fun W => place_any ⟨text.toArray⟩ at_ W (by show text.toArray.size ≤ _; simp; omega) (by show at_ ≤ text.toArray.size; simpa using ha)
  have hr : refuse s code at_ = { s with fault := some (code, at_) } := by simp [refuse, hfa]
  have q := fun j => cell_row h j
  have FIN : Hid (∀ W, Below w.heap.size w W → (∃ z12 z13 z14, W.cell? ⟨b, 12, none⟩ = some (.int .i64 z12) ∧ W.cell? ⟨b, 13, none⟩ = some (.int .i64 z13) ∧ W.cell? ⟨b, 14, none⟩ = some (.int .i64 z14)) ∧ (∀ j, W.frozen? ⟨b, j, none⟩ = false) ∧ b < W.heap.size ∧ ((((W.setCell ⟨b, 12, none⟩ (.int .i64 code)).setCell ⟨b, 13, none⟩ (.int .i64 ((spotN (text.take at_)).1 : Int))).setCell ⟨b, 14, none⟩ (.int .i64 ((spotN (text.take at_)).2 : Int))).heap[b]? = some (.cells (boxC text (refuse s code at_) x gv ov) 67 (0, 0)) ∧ w.heap.size ≤ (((W.setCell ⟨b, 12, none⟩ (.int .i64 code)).setCell ⟨b, 13, none⟩ (.int .i64 ((spotN (text.take at_)).1 : Int))).setCell ⟨b, 14, none⟩ (.int .i64 ((spotN (text.take at_)).2 : Int))).heap.size ∧ (∀ k, k ≠ b → k < w.heap.size → (((W.setCell ⟨b, 12, none⟩ (.int .i64 code)).setCell ⟨b, 13, none⟩ (.int .i64 ((spotN (text.take at_)).1 : Int))).setCell ⟨b, 14, none⟩ (.int .i64 ((spotN (text.take at_)).2 : Int))).heap[k]? = w.heap[k]?) ∧ Below 0 w (((W.setCell ⟨b, 12, none⟩ (.int .i64 code)).setCell ⟨b, 13, none⟩ (.int .i64 ((spotN (text.take at_)).1 : Int))).setCell ⟨b, 14, none⟩ (.int .i64 ((spotN (text.take at_)).2 : Int))))) := fun W hW => by
    have hb2 := (hW.block b hbl).trans h
    refine ⟨⟨_, _, _, cell_row hb2 12, cell_row hb2 13, cell_row hb2 14⟩, fun j => unfrozen_row hb2 j, (Array.getElem?_eq_some_iff.1 hb2).1, ?_, by simp; exact hW.size, fun k hk hl => ?_, (((hW.mono (Nat.zero_le _)).setCell (p := ⟨b, 12, none⟩) (Nat.zero_le _) _).setCell (p := ⟨b, 13, none⟩) (Nat.zero_le _) _).setCell (p := ⟨b, 14, none⟩) (Nat.zero_le _) _⟩
    · rw [row_set (row_set (row_set hb2)), hr]
      rfl
    · rw [Below.heap_setCell _ _ _ _ (show k ≠ b from hk), Below.heap_setCell _ _ _ _ (show k ≠ b from hk), Below.heap_setCell _ _ _ _ (show k ≠ b from hk)]
      exact hW.block k hl
  have f0 : fcode s.fault = 0 := by rw [hfa]; rfl
  have q12 : w.cell? ⟨b, 12, none⟩ = some (.int .i64 0) := by rw [q]; simp [boxC, f0]
  have q0 : w.cell? ⟨b, 0, none⟩ = some (str text) := by rw [q]; rfl
  clear hfa hr h q f0 hs
  go_enter Tryd.func36, Tryd.ntmps36
  go_wp2_with (go_at_call 55; refine (HP.out _).mono ?_; rintro e w1 ⟨rfl, b1⟩; obtain ⟨⟨z12, z13, z14, q1, q2, q3⟩, f1, l1, fin⟩ := FIN.out w1 b1; have FN := hid fin; clear fin b1)
  first | go_end0 | refine bodyPost_end (results_none rfl _ _ _) rfl ?_
  exact ⟨⟨_, rfl⟩, FN.out⟩
end Go.Proofs.YtfmmmhcpdinhgabDoor
/-
  What holds of the reader behind every line. Pure.
-/
namespace Go.Proofs.YtfmmmhcpdinhgabDoor
open Go.RowKit Go.Deep PureNet PureRd ShfKit
set_option maxRecDepth 100000

theorem refuse_fault (s : Rs) (c : Int) (a : Nat) : (refuse s c a).fault ≠ none := by
  unfold refuse
  cases hf : s.fault with
  | none => simp
  | some p => simp [hf]
theorem take_fault {s : Rs} (h : (take s).2.fault = none) : s.fault = none := by
  unfold take at h
  split at h
  · exact absurd h (refuse_fault _ _ _)
  · exact h
theorem name_fault {nm : List UInt8 → Bool} {s : Rs} (h : (name nm s).2.fault = none) : s.fault = none := by
  unfold name at h
  dsimp only at h
  split at h
  · exact take_fault h
  · exact absurd h (refuse_fault _ _ _)
theorem namesOf_fault {nm : List UInt8 → Bool} {s : Rs} : ∀ {n : Nat}, (namesOf nm n s).2.fault = none → s.fault = none
  | 0, h => h
  | _ + 1, h => namesOf_fault (name_fault h)
theorem op_fault {F : List UInt8 → Int} {s : Rs} (h : (op F s).2.fault = none) : s.fault = none := by
  unfold op at h
  dsimp only at h
  split at h
  · exact absurd h (refuse_fault _ _ _)
  · exact take_fault h
theorem begin_fault {nm : List UInt8 → Bool} {k : Int} {s : Rs} (h : (PureRd.begin nm k s).fault = none) : s.fault = none ∧ s.names.length ≠ 65536 := by
  have q : (name nm (if s.names.length = 65536 then refuse s 8 s.last.2 else s)).2.fault = none := by
    unfold PureRd.begin at h
    dsimp only at h
    revert h
    generalize name nm (if s.names.length = 65536 then refuse s 8 s.last.2 else s) = z
    intro h
    split at h
    · exact absurd h (refuse_fault _ _ _)
    · exact h
  have h1 := name_fault q
  split at h1
  · exact absurd h1 (refuse_fault _ _ _)
  · rename_i h2
    exact ⟨h1, h2⟩
/-- how many words a line of each kind has. -/
def usesK (k : Int) : Nat := if k = 1 then 0 else if k = 2 then 2 else if k = 3 then 1 else if k = 4 then 3 else 1
def LnOk (l : Ln) : Prop := 0 ≤ l.kind ∧ l.kind ≤ 4 ∧ l.uses.length = usesK l.kind
structure Inv (s : Rs) : Prop where
  cnt : (s.lines.filter fun l => decide (l.kind ≠ 0)).length = s.names.length
  pl : ∀ p ∈ s.places, p.2 < s.names.length
  form : ∀ l ∈ s.lines, LnOk l
  many : s.fault = none → s.names.length ≤ 65536
theorem Inv.same {s t : Rs} (h : Inv s) (e : Same s t) (hf : t.fault = none → s.fault = none) : Inv t :=
  ⟨by rw [e.lines, e.names]; exact h.cnt, by rw [e.places, e.names]; exact h.pl, by rw [e.lines]; exact h.form, fun q => by rw [e.names]; exact h.many (hf q)⟩
theorem Inv.add {s t : Rs} (h : Inv s) (y : Ln) (hl : t.lines = s.lines ++ [y]) (hk : y.kind ≠ 0) (hy : LnOk y) (hn : t.names.length = s.names.length + 1) (hp : ∀ p ∈ t.places, p.2 < s.names.length + 1) (hf : t.fault = none → s.fault = none ∧ s.names.length ≠ 65536) : Inv t := by
  refine ⟨?_, by rw [hn]; exact hp, ?_, fun q => ?_⟩
  · rw [hl, hn, List.filter_append, List.length_append, h.cnt]
    simp [hk]
  · rw [hl]
    intro l hm
    rcases List.mem_append.1 hm with hm | hm
    · exact h.form l hm
    · have : l = y := by simpa using hm
      rw [this]
      exact hy
  · have h1 := hf q
    have := h.many h1.1
    omega
theorem begin_names (k : Int) (s : Rs) : (PureRd.begin nameL k s).names.length = s.names.length + 1 ∧ ∃ nm, (PureRd.begin nameL k s).places = (nm, s.names.length) :: s.places := by
  have h1 : Same s (if s.names.length = 65536 then refuse s 8 s.last.2 else s) := by split; exact refuse_same _ _ _; exact Same.refl _
  have h2 := h1.trans (name_same nameL _)
  have h3 : ∀ c : Prop, [Decidable c] → ∀ a, Same s (if c then refuse (name nameL (if s.names.length = 65536 then refuse s 8 s.last.2 else s)).2 141 a else (name nameL (if s.names.length = 65536 then refuse s 8 s.last.2 else s)).2) := fun c _ a => by split; exact h2.trans (refuse_same _ _ _); exact h2
  unfold PureRd.begin
  dsimp only
  refine ⟨?_, (name nameL (if s.names.length = 65536 then refuse s 8 s.last.2 else s)).1.1, ?_⟩
  · rw [List.length_append, (h3 _ _).names]
    rfl
  · rw [(h3 _ _).places]
theorem Inv.begun {s t : Rs} {k : Int} (h : Inv s) (y : Ln) (hl : t.lines = s.lines ++ [y]) (hk : y.kind ≠ 0) (hy : LnOk y) (hn : t.names = (PureRd.begin nameL k s).names) (hp : t.places = (PureRd.begin nameL k s).places) (hf : t.fault = none → (PureRd.begin nameL k s).fault = none) : Inv t := by
  obtain ⟨n1, nm, n2⟩ := begin_names k s
  refine h.add y hl hk hy (by rw [hn]; exact n1) ?_ (fun q => begin_fault (hf q))
  rw [hp, n2]
  intro p hm
  rcases List.mem_cons.1 hm with rfl | hm
  · exact Nat.lt_succ_self _
  · exact Nat.lt_succ_of_lt (h.pl p hm)
theorem Inv.gate0 {s : Rs} (h : Inv s) (k : Int) (n : Nat) (hk : k ≠ 0) (h0 : 0 ≤ k ∧ k ≤ 4) (hn : n = usesK k) : Inv (withUses nameL n (PureRd.begin nameL k s)) := by
  obtain ⟨y, hl, y1, y2, y3⟩ := begin_lines k s
  have sm := namesOf_same nameL (PureRd.begin nameL k s) n
  have hw : withUses nameL n (PureRd.begin nameL k s) = { (namesOf nameL n (PureRd.begin nameL k s)).2 with lines := s.lines ++ [{ y with uses := (namesOf nameL n (PureRd.begin nameL k s)).1 }] } := mapLast_of (by rw [sm.lines]; exact hl) _
  rw [hw]
  exact h.begun (k := k) _ rfl (by show y.kind ≠ 0; rw [y1]; exact hk) ⟨by show 0 ≤ y.kind; rw [y1]; exact h0.1, by show y.kind ≤ 4; rw [y1]; exact h0.2, by show (namesOf nameL n _).1.length = usesK y.kind; rw [namesOf_len, y1]; exact hn⟩ sm.names sm.places namesOf_fault
theorem Inv.gate1 {s : Rs} (h : Inv s) (F : List UInt8 → Int) (k : Int) (n : Nat) (hk : k ≠ 0) (h0 : 0 ≤ k ∧ k ≤ 4) (hn : n = usesK k) : Inv (withUses nameL n (withOp F (PureRd.begin nameL k s))) := by
  obtain ⟨y, hl, y1, y2, y3⟩ := begin_lines k s
  have so := op_same F (PureRd.begin nameL k s)
  have ho : withOp F (PureRd.begin nameL k s) = { (op F (PureRd.begin nameL k s)).2 with lines := s.lines ++ [{ y with op := (op F (PureRd.begin nameL k s)).1 }] } := mapLast_of (by rw [so.lines]; exact hl) _
  obtain ⟨t, ht⟩ : ∃ t, t = withOp F (PureRd.begin nameL k s) := ⟨_, rfl⟩
  have hlt : t.lines = s.lines ++ [{ y with op := (op F (PureRd.begin nameL k s)).1 }] := by rw [ht, ho]
  have hnt : t.names = (PureRd.begin nameL k s).names := by rw [ht, ho]; exact so.names
  have hpt : t.places = (PureRd.begin nameL k s).places := by rw [ht, ho]; exact so.places
  have hft : t.fault = none → (PureRd.begin nameL k s).fault = none := by rw [ht, ho]; exact op_fault
  rw [← ht]
  have sm := namesOf_same nameL t n
  have hw : withUses nameL n t = { (namesOf nameL n t).2 with lines := s.lines ++ [{ { y with op := (op F (PureRd.begin nameL k s)).1 } with uses := (namesOf nameL n t).1 }] } := mapLast_of (by rw [sm.lines]; exact hlt) _
  rw [hw]
  exact h.begun (k := k) _ rfl (by show y.kind ≠ 0; rw [y1]; exact hk) ⟨by show 0 ≤ y.kind; rw [y1]; exact h0.1, by show y.kind ≤ 4; rw [y1]; exact h0.2, by show (namesOf nameL n _).1.length = usesK y.kind; rw [namesOf_len, y1]; exact hn⟩ (sm.names.trans hnt) (sm.places.trans hpt) (fun q => hft (namesOf_fault q))
theorem Inv.input {s : Rs} (h : Inv s) : Inv (PureRd.begin nameL 1 s) := by
  obtain ⟨y, hl, y1, y2, y3⟩ := begin_lines 1 s
  exact h.begun (k := 1) y hl (by rw [y1]; decide) ⟨by rw [y1]; decide, by rw [y1]; decide, by rw [y1, y3]; rfl⟩ rfl rfl id
theorem Inv.output {s : Rs} (h : Inv s) : Inv (PureRd.output nameL s) := by
  have h1 : Same s (if s.outs = 65536 then refuse s 8 s.last.2 else s) := by split; exact refuse_same _ _ _; exact Same.refl _
  obtain ⟨t, ht⟩ : ∃ t, t = { (if s.outs = 65536 then refuse s 8 s.last.2 else s) with outs := (if s.outs = 65536 then refuse s 8 s.last.2 else s).outs + 1 } := ⟨_, rfl⟩
  have hto : PureRd.output nameL s = { (namesOf nameL 1 t).2 with lines := (namesOf nameL 1 t).2.lines ++ [⟨0, [], 0, (namesOf nameL 1 t).1⟩] } := by rw [ht]; rfl
  have e2 := namesOf_same nameL t 1
  have hl : (namesOf nameL 1 t).2.lines = s.lines := by rw [e2.lines, ht]; exact h1.lines
  have hn : (namesOf nameL 1 t).2.names = s.names := by rw [e2.names, ht]; exact h1.names
  have hp : (namesOf nameL 1 t).2.places = s.places := by rw [e2.places, ht]; exact h1.places
  rw [hto]
  refine ⟨?_, ?_, ?_, fun q => ?_⟩
  · show (((namesOf nameL 1 t).2.lines ++ [_]).filter _).length = (namesOf nameL 1 t).2.names.length
    rw [hl, hn, List.filter_append, List.length_append, h.cnt]
    simp
  · show ∀ p ∈ (namesOf nameL 1 t).2.places, p.2 < (namesOf nameL 1 t).2.names.length
    rw [hp, hn]
    exact h.pl
  · show ∀ l ∈ (namesOf nameL 1 t).2.lines ++ [_], LnOk l
    rw [hl]
    intro l hm
    rcases List.mem_append.1 hm with hm | hm
    · exact h.form l hm
    · have : l = ⟨0, [], 0, (namesOf nameL 1 t).1⟩ := by simpa using hm
      rw [this]
      exact ⟨by show (0 : Int) ≤ 0; decide, by show (0 : Int) ≤ 4; decide, by show (namesOf nameL 1 t).1.length = usesK 0; rw [namesOf_len]; rfl⟩
  · show (namesOf nameL 1 t).2.names.length ≤ 65536
    rw [hn]
    have hf := namesOf_fault (nm := nameL) (n := 1) (s := t) q
    rw [ht] at hf
    refine h.many ?_
    have hf2 : (if s.outs = 65536 then refuse s 8 s.last.2 else s).fault = none := hf
    split at hf2
    · exact absurd hf2 (refuse_fault _ _ _)
    · exact hf2
theorem Inv.step {s : Rs} (h : Inv s) (T : Nat → List UInt8) (f : Nat) : Inv (stepF T f s) := by
  unfold stepF
  repeat' split
  · have u := h.same (name_same nameL s) name_fault
    exact ⟨u.cnt, u.pl, u.form, u.many⟩
  · exact h.input
  · exact h.gate1 _ 2 2 (by decide) (by decide) rfl
  · exact h.gate0 4 3 (by decide) (by decide) rfl
  · exact h.gate1 _ 3 1 (by decide) (by decide) rfl
  · exact h.output
  · exact ⟨h.cnt, h.pl, h.form, h.many⟩
theorem shut_fault {s : Rs} (h : (shut s).fault = none) : s.fault = none ∧ s.left = [] := by
  unfold shut at h
  split at h
  · rename_i e
    exact ⟨h, e⟩
  · exact absurd h (refuse_fault _ _ _)
theorem Inv.line {s : Rs} (h : Inv s) (T : Nat → List UInt8) (ws : List Wd) : Inv (lineF T ws s) := by
  unfold lineF
  split
  · exact h
  · have h1 : ∀ y t, Inv { s with last := y, left := t } := fun y t => ⟨h.cnt, h.pl, h.form, h.many⟩
    split
    · exact (h1 _ _).same (refuse_same _ _ _) (fun q => absurd q (refuse_fault _ _ _))
    · exact ((h1 _ _).step T _).same (shut_same _) (fun q => (shut_fault q).1)
theorem Inv.lines (T : Nat → List UInt8) (text : List UInt8) : ∀ (f p : Nat) (s : Rs), Inv s → Inv (linesF T text f p s)
  | 0, _, _, h => h
  | f + 1, p, s, h => by
    rw [linesF]
    split
    · exact Inv.lines T text f _ _ (h.line T _)
    · exact h
theorem Inv.start : Inv PureRd.start := ⟨rfl, fun p hp => by simp [PureRd.start] at hp, fun l hl => by simp [PureRd.start] at hl, fun _ => Nat.zero_le _⟩
theorem Inv.all (T : Nat → List UInt8) (text : List UInt8) : Inv (readLinesF T text PureRd.start) := by
  unfold readLinesF
  have h := Inv.lines T text (text.length + 1) 0 _ Inv.start
  split
  · exact h.same (refuse_same _ _ _) (fun q => absurd q (refuse_fault _ _ _))
  · exact h
theorem placeOf_lt {s : Rs} (h : Inv s) {k : List UInt8} {p : Nat} (hp : placeOf s k = some p) : p < s.names.length := by
  unfold placeOf at hp
  cases hf : s.places.find? (fun p => p.1 == k) with
  | none => rw [hf] at hp; cases hp
  | some q =>
    rw [hf] at hp
    have : q.2 = p := by simpa using hp
    rw [← this]
    exact h.pl q (List.mem_of_find?_eq_some hf)
theorem Inv.uses3 {s : Rs} (h : Inv s) : ∀ l ∈ s.lines, l.uses.length ≤ 3 := fun l hl => by
  have := (h.form l hl).2.2
  rw [this]
  unfold usesK
  repeat' split
  all_goals omega
end Go.Proofs.YtfmmmhcpdinhgabDoor
/-
  What holds of connected lines. Pure.
-/
namespace Go.Proofs.YtfmmmhcpdinhgabDoor
open Go.RowKit Go.Deep PureNet PureRd ShfKit
set_option maxRecDepth 100000

theorem plcI_in {s : Rs} (h : Inv s) {ws : List Wd} (hu : unk s ws = none) {i : Nat} (hi : i < ws.length) : 0 ≤ plcI s ws i ∧ plcI s ws i < (s.names.length : Int) := by
  have hy : ws[i]? = some ws[i] := List.getElem?_eq_getElem hi
  unfold plcI
  rw [hy]
  unfold unk at hu
  have hk := List.find?_eq_none.1 hu ws[i] (List.getElem_mem hi)
  cases hp : placeOf s ws[i].1 with
  | none => rw [hp] at hk; simp at hk
  | some p =>
    have := placeOf_lt h hp
    show 0 ≤ (((placeOf s ws[i].1).getD 0 : Nat) : Int) ∧ (((placeOf s ws[i].1).getD 0 : Nat) : Int) < _
    rw [hp]
    show 0 ≤ (p : Int) ∧ (p : Int) < _
    omega
theorem connF_out (s : Rs) : ∀ (ls : List Ln) (gs : List Ga) (os : List Int) (gs' : List Ga) (os' : List Int), connF s ls gs os = (none, gs', os') →
    gs'.length = gs.length + (ls.filter fun l => decide (l.kind ≠ 0)).length ∧ os'.length ≤ os.length + ls.length ∧ (∀ g ∈ gs', g ∈ gs ∨ ∃ l ∈ ls, l.kind ≠ 0 ∧ unk s l.uses = none ∧ g = gaOf s l) ∧ (∀ a ∈ os', a ∈ os ∨ ∃ l ∈ ls, l.kind = 0 ∧ unk s l.uses = none ∧ a = plcI s l.uses 0)
  | [], gs, os, gs', os', h => by
    simp only [connF, Prod.mk.injEq] at h
    obtain ⟨_, rfl, rfl⟩ := h
    exact ⟨rfl, Nat.le_refl _, fun g hg => .inl hg, fun a ha => .inl ha⟩
  | l :: t, gs, os, gs', os', h => by
    rw [connF] at h
    cases hu : unk s l.uses with
    | some y => rw [hu] at h; simp at h
    | none =>
      rw [hu] at h
      simp only at h
      by_cases hk : l.kind = 0
      · rw [if_pos hk] at h
        obtain ⟨a1, a2, a3, a4⟩ := connF_out s t gs _ gs' os' h
        refine ⟨by rw [a1]; simp [hk], by simp at a2 ⊢; omega, fun g hg => ?_, fun a ha => ?_⟩
        · rcases a3 g hg with q | ⟨m, m1, m2⟩
          · exact .inl q
          · exact .inr ⟨m, List.mem_cons_of_mem _ m1, m2⟩
        · rcases a4 a ha with q | ⟨m, m1, m2⟩
          · rcases List.mem_append.1 q with q | q
            · exact .inl q
            · exact .inr ⟨l, by simp, hk, hu, by simpa using q⟩
          · exact .inr ⟨m, List.mem_cons_of_mem _ m1, m2⟩
      · rw [if_neg hk] at h
        obtain ⟨a1, a2, a3, a4⟩ := connF_out s t _ os gs' os' h
        refine ⟨by rw [a1]; simp [hk]; omega, by simp at a2 ⊢; omega, fun g hg => ?_, fun a ha => ?_⟩
        · rcases a3 g hg with q | ⟨m, m1, m2⟩
          · rcases List.mem_append.1 q with q | q
            · exact .inl q
            · exact .inr ⟨l, by simp, hk, hu, by simpa using q⟩
          · exact .inr ⟨m, List.mem_cons_of_mem _ m1, m2⟩
        · rcases a4 a ha with q | ⟨m, m1, m2⟩
          · exact .inl q
          · exact .inr ⟨m, List.mem_cons_of_mem _ m1, m2⟩
/-- connected lines: as many gates as names, and each leans on lines. -/
theorem connF_fit {s : Rs} (h : Inv s) {gs : List Ga} {os : List Int} (hc : connF s s.lines [] [] = (none, gs, os)) : gs.length = s.names.length ∧ (∀ (i : Nat) (g : Ga), gs[i]? = some g → (1 ≤ g.kind ∧ g.kind ≤ 4) ∧ ∀ a ∈ leansOn g, 0 ≤ a ∧ a < (gs.length : Int)) := by
  obtain ⟨a1, a2, a3, a4⟩ := connF_out s s.lines [] [] gs os hc
  have hl : gs.length = s.names.length := by rw [a1, h.cnt]; simp
  refine ⟨hl, fun i g hg => ?_⟩
  rcases a3 g (List.mem_of_getElem? hg) with q | ⟨l, hm, hk, hu, rfl⟩
  · simp at q
  · obtain ⟨f1, f2, f3⟩ := h.form l hm
    refine ⟨⟨by show 1 ≤ l.kind; omega, f2⟩, fun a ha => ?_⟩
    rw [hl]
    unfold leansOn at ha
    have hk2 : (gaOf s l).kind = l.kind := rfl
    rw [hk2] at ha
    split at ha
    · rename_i h2
      have hlen : l.uses.length = 2 := by rw [f3, h2]; rfl
      simp only [List.mem_cons, List.not_mem_nil, or_false] at ha
      rcases ha with rfl | rfl
      · exact plcI_in h hu (i := 0) (by omega)
      · exact plcI_in h hu (i := 1) (by omega)
    · split at ha
      · rename_i h2
        have hlen : l.uses.length = 3 := by rw [f3, h2]; rfl
        simp only [List.mem_cons, List.not_mem_nil, or_false] at ha
        rcases ha with rfl | rfl | rfl
        · exact plcI_in h hu (i := 0) (by omega)
        · exact plcI_in h hu (i := 1) (by omega)
        · exact plcI_in h hu (i := 2) (by omega)
      · simp at ha
end Go.Proofs.YtfmmmhcpdinhgabDoor
/-
  The document's resolve against what the landed reader connects; what holds behind every line. Pure.
-/
namespace Go.Proofs.YtfmmmhcpdinhgabDoor
open Go.RowKit Go.Deep PureNet PureRd ShfKit
set_option maxRecDepth 100000

def setOpd (g : Ga) (op : Int) (p : Int) : Ga := if op = 0 then { g with a := p } else if op = 1 then { g with b := p } else if op = 2 then { g with c := p } else g
abbrev ga0 : Ga := ⟨0, ⟨#[]⟩, 0, 0, 0, 0⟩
/-- names that are used become places, one by one: a name that no line has, the gates, the outs, how many outs are told. -/
def resU (pl : List UInt8 → Option Nat) : List Us → List Ga → List Int → Nat → Option Wd × List Ga × List Int
  | [], gs, os, _ => (none, gs, os)
  | u :: t, gs, os, k => match pl u.wd.1 with
    | none => (some u.wd, gs, os)
    | some p => if u.gate < 0 then resU pl t gs (os.set k (p : Int)) (k + 1) else resU pl t (gs.set u.gate.toNat (setOpd (gs.getD u.gate.toNat ga0) u.op (p : Int))) os k
theorem set_mid {α : Type} (l : List α) (x y : α) (r : List α) : (l ++ x :: r).set l.length y = l ++ y :: r := by simp
theorem getD_mid {α : Type} (l : List α) (x d : α) (r : List α) : (l ++ x :: r).getD l.length d = x := by simp
def outsN (ls : List Ln) : Nat := (ls.filter fun l => decide (l.kind = 0)).length
theorem gatesOf_cons (l : Ln) (t : List Ln) : gatesOf (l :: t) = if l.kind = 0 then gatesOf t else (⟨l.kind, ⟨l.name.toArray⟩, l.op, 0, 0, 0⟩ : Ga) :: gatesOf t := by
  unfold gatesOf
  by_cases h : l.kind = 0
  · rw [if_pos h, List.filter_cons_of_neg (by simp [h])]
  · rw [if_neg h, List.filter_cons_of_pos (by simp [h])]
    rfl
theorem outsN_cons (l : Ln) (t : List Ln) : outsN (l :: t) = if l.kind = 0 then outsN t + 1 else outsN t := by
  unfold outsN
  by_cases h : l.kind = 0
  · rw [if_pos h, List.filter_cons_of_pos (by simp [h])]
    rfl
  · rw [if_neg h, List.filter_cons_of_neg (by simp [h])]
theorem resU_step (pl : List UInt8 → Option Nat) (y : Wd) (o : Int) (t : List Us) (gs : List Ga) (g : Ga) (gt : List Ga) (os : List Int) (k : Nat) :
    resU pl (⟨y, (gs.length : Int), o⟩ :: t) (gs ++ g :: gt) os k = match pl y.1 with | none => (some y, gs ++ g :: gt, os) | some p => resU pl t (gs ++ setOpd g o (p : Int) :: gt) os k := by
  rw [resU]
  cases pl y.1 with
  | none => rfl
  | some p =>
    have h1 : ¬ ((gs.length : Int) < 0) := by omega
    simp only [if_neg h1, Int.toNat_natCast, getD_mid, set_mid]
theorem resU_gate (s : Rs) (us : List Wd) (h3 : us.length ≤ 3) (t : List Us) (gs : List Ga) (g : Ga) (gt : List Ga) (os : List Int) (k : Nat) (h0 : g.a = 0 ∧ g.b = 0 ∧ g.c = 0) :
    (∀ y, unk s us = some y → ∃ gs' os', resU (placeOf s) (usOf (gs.length : Int) us ++ t) (gs ++ g :: gt) os k = (some y, gs', os')) ∧
    (unk s us = none → resU (placeOf s) (usOf (gs.length : Int) us ++ t) (gs ++ g :: gt) os k = resU (placeOf s) t (gs ++ { g with a := plcI s us 0, b := plcI s us 1, c := plcI s us 2 } :: gt) os k) := by
  obtain ⟨ga_, gb_, gc_⟩ := h0
  obtain ⟨k0, n0, o0, a0, b0, c0⟩ := g
  simp only at ga_ gb_ gc_
  subst ga_ gb_ gc_
  match us, h3 with
  | [], _ => simp [usOf, unk, plcI]
  | [a], _ =>
    cases ha : placeOf s a.1 with
    | none => simp [usOf, unk, plcI, resU_step, ha]
    | some p => simp [usOf, unk, plcI, resU_step, ha, setOpd]
  | [a, b], _ =>
    cases ha : placeOf s a.1 with
    | none => simp [usOf, unk, plcI, resU_step, ha]
    | some p =>
      cases hb : placeOf s b.1 with
      | none => simp [usOf, unk, plcI, resU_step, ha, hb, setOpd]
      | some q => simp [usOf, unk, plcI, resU_step, ha, hb, setOpd]
  | [a, b, c], _ =>
    cases ha : placeOf s a.1 with
    | none => simp [usOf, unk, plcI, resU_step, ha]
    | some p =>
      cases hb : placeOf s b.1 with
      | none => simp [usOf, unk, plcI, resU_step, ha, hb, setOpd]
      | some q =>
        cases hc : placeOf s c.1 with
        | none => simp [usOf, unk, plcI, resU_step, ha, hb, hc, setOpd]
        | some r => simp [usOf, unk, plcI, resU_step, ha, hb, hc, setOpd]
theorem resU_conn (s : Rs) : ∀ (ls : List Ln) (gs : List Ga) (os : List Int), (∀ l ∈ ls, LnOk l) →
    (∀ y gs' os', connF s ls gs os = (some y, gs', os') → ∃ gs2 os2, resU (placeOf s) (usesOf gs.length ls) (gs ++ gatesOf ls) (os ++ List.replicate (outsN ls) 0) os.length = (some y, gs2, os2)) ∧
    (∀ gs' os', connF s ls gs os = (none, gs', os') → resU (placeOf s) (usesOf gs.length ls) (gs ++ gatesOf ls) (os ++ List.replicate (outsN ls) 0) os.length = (none, gs', os'))
  | [], gs, os, _ => by
    refine ⟨fun y gs' os' h => by simp [connF] at h, fun gs' os' h => ?_⟩
    simp only [connF, Prod.mk.injEq, true_and] at h
    simp [usesOf, resU, gatesOf, outsN, h]
  | l :: t, gs, os, hl => by
    have hlo := hl l (by simp)
    have ht : ∀ m ∈ t, LnOk m := fun m hm => hl m (List.mem_cons_of_mem _ hm)
    by_cases hk : l.kind = 0
    · have hu1 : l.uses.length = 1 := by rw [hlo.2.2, hk]; rfl
      obtain ⟨a, ha⟩ := List.length_eq_one_iff.1 hu1
      rw [usesOf, if_pos hk, gatesOf_cons, if_pos hk, outsN_cons, if_pos hk, ha, List.replicate_succ]
      have e : ∀ (p : Nat), placeOf s a.1 = some p → resU (placeOf s) (usOf (-1) [a] ++ usesOf gs.length t) (gs ++ gatesOf t) (os ++ 0 :: List.replicate (outsN t) 0) os.length = resU (placeOf s) (usesOf gs.length t) (gs ++ gatesOf t) ((os ++ [(p : Int)]) ++ List.replicate (outsN t) 0) (os ++ [(p : Int)]).length := fun p hp => by
        have e1 : usOf (-1) [a] ++ usesOf gs.length t = (⟨a, -1, 0⟩ : Us) :: usesOf gs.length t := rfl
        rw [e1, resU]
        simp only [hp]
        rw [if_pos (by decide), set_mid]
        simp
      cases hp : placeOf s a.1 with
      | none =>
        refine ⟨fun y gs' os' h => ?_, fun gs' os' h => ?_⟩
        · have e1 : usOf (-1) [a] ++ usesOf gs.length t = (⟨a, -1, 0⟩ : Us) :: usesOf gs.length t := rfl
          rw [connF, ha] at h
          simp [unk, hp] at h
          rw [e1, resU]
          simp only [hp]
          exact ⟨_, _, by rw [h.1]⟩
        · rw [connF, ha] at h
          simp [unk, hp] at h
      | some p =>
        rw [e p hp]
        have hc : connF s (l :: t) gs os = connF s t gs (os ++ [(p : Int)]) := by
          rw [connF, ha]
          simp [unk, hp, hk, plcI]
        rw [hc]
        exact resU_conn s t gs (os ++ [(p : Int)]) ht
    · have h3 : l.uses.length ≤ 3 := by
        rw [hlo.2.2]
        unfold usesK
        repeat' split
        all_goals omega
      rw [usesOf, if_neg hk, gatesOf_cons, if_neg hk, outsN_cons, if_neg hk]
      obtain ⟨g1, g2⟩ := resU_gate s l.uses h3 (usesOf (gs.length + 1) t) gs ⟨l.kind, ⟨l.name.toArray⟩, l.op, 0, 0, 0⟩ (gatesOf t) (os ++ List.replicate (outsN t) 0) os.length ⟨rfl, rfl, rfl⟩
      cases hu : unk s l.uses with
      | some y0 =>
        refine ⟨fun y gs' os' h => ?_, fun gs' os' h => ?_⟩
        · rw [connF, hu] at h
          simp only [Prod.mk.injEq, Option.some.injEq] at h
          rw [← h.1]
          exact g1 y0 hu
        · rw [connF, hu] at h
          simp at h
      | none =>
        have hc : connF s (l :: t) gs os = connF s t (gs ++ [gaOf s l]) os := by
          rw [connF, hu]
          simp only
          rw [if_neg hk]
        rw [hc, g2 hu]
        have := resU_conn s t (gs ++ [gaOf s l]) os ht
        rw [List.length_append, List.length_singleton] at this
        have e2 : gs ++ { (⟨l.kind, ⟨l.name.toArray⟩, l.op, 0, 0, 0⟩ : Ga) with a := plcI s l.uses 0, b := plcI s l.uses 1, c := plcI s l.uses 2 } :: gatesOf t = gs ++ [gaOf s l] ++ gatesOf t := by simp [gaOf]
        rw [e2]
        exact this

/-! ### behind every line -/
/-- outs are counted; names, outs few. -/
structure Ov (s : Rs) : Prop where
  outs : outsN s.lines = s.outs
  few : s.outs ≤ 65536
theorem outsN_app (a b : List Ln) : outsN (a ++ b) = outsN a + outsN b := by simp [outsN]
theorem Ov.start : Ov PureRd.start := ⟨rfl, Nat.zero_le _⟩
theorem kindW_pos {k : List UInt8} (h : formW k ≠ []) (ho : k ≠ outW) : kindW k ≠ 0 := by
  unfold kindW
  by_cases a1 : k = [105, 110, 112, 117, 116]
  · rw [if_pos a1]; decide
  by_cases a2 : k = [103, 97, 116, 101]
  · rw [if_neg a1, if_pos a2]; decide
  by_cases a3 : k = [109, 117, 120]
  · rw [if_neg a1, if_neg a2, if_pos a3]; decide
  by_cases a4 : k = [108, 97, 116, 99, 104]
  · rw [if_neg a1, if_neg a2, if_neg a3, if_pos a4]; decide
  exfalso
  apply h
  unfold formW
  rw [if_neg a1, if_neg a2, if_neg a3, if_neg a4, if_neg ho]
/-- a line that is read without a fault: what it leaves. -/
theorem line_ways (T : Nat → List UInt8) {s : Rs} (y : Wd) (t : List Wd) (hf : s.fault = none) (hm : s.mode ≤ 2) (h : (lineF T (y :: t) s).fault = none) :
    (s.mode = 0 ∧ ∃ z, lineF T (y :: t) s = { s with mode := 1, last := z, left := [], cname := z.1 }) ∨ (s.mode = 1 ∧ lineF T (y :: t) s = { s with mode := 2, last := y, left := [] }) ∨
    (s.mode = 1 ∧ s.outs ≠ 65536 ∧ ∃ l it, lineF T (y :: t) s = outed s l it) ∨ (s.mode = 1 ∧ s.names.length ≠ 65536 ∧ ∃ k l it, k ≠ 0 ∧ lineF T (y :: t) s = added k s l it) := by
  by_cases h2 : s.mode = 2
  · rw [line_done T hf h2] at h; simp at h
  by_cases h0 : s.mode = 0
  · by_cases hy : y.1 = cirW
    · match t, h with
      | [], h => rw [line_head_none T hf h0 hy] at h; simp at h
      | [z], h =>
        cases hn : nameL z.1 with
        | false => rw [line_head_bad T hf h0 hy hn] at h; simp at h
        | true => exact .inl ⟨h0, z, line_head_ok T h0 hy hn⟩
      | z :: q :: u, h =>
        cases hn : nameL z.1 with
        | false => rw [line_head_bad T hf h0 hy hn] at h; simp at h
        | true => rw [line_head_more T hf h0 hy hn] at h; simp at h
    · rw [line_not_head T hf h0 hy] at h; simp at h
  have h1 : s.mode = 1 := by omega
  by_cases hy : y.1 = endW
  · match t, h with
    | [], h => exact .inr (.inl ⟨h1, line_end_ok T h1 hy⟩)
    | z :: u, h => rw [line_end_more T hf h1 hy] at h; simp at h
  by_cases hw : formW y.1 = []
  · rw [line_odd T hf h1 hy hw] at h; simp at h
  by_cases ho : y.1 = outW
  · by_cases hm2 : s.outs = 65536
    · rw [line_out_many T hf h1 ho hm2] at h; simp at h
    · obtain ⟨q1, q2⟩ := line_out T hf h1 ho hm2 _ _ rfl (t := t)
      cases hc : (chk T s [117] y t it0).1 with
      | some p => rw [q1 p hc] at h; simp at h
      | none =>
        obtain ⟨l, hl⟩ := q2 hc
        exact .inr (.inr (.inl ⟨h1, hm2, l, _, hl⟩))
  · obtain ⟨q0, q⟩ := line_gate T hf h1 ho hw (t := t)
    by_cases hm2 : s.names.length = 65536
    · rw [q0 hm2] at h; simp at h
    · obtain ⟨q1, q2⟩ := q hm2 _ _ rfl
      cases hc : (chk T s (formW y.1) y t it0).1 with
      | some p => rw [q1 p hc] at h; simp at h
      | none =>
        obtain ⟨l, hl⟩ := q2 hc
        exact .inr (.inr (.inr ⟨h1, hm2, _, l, _, kindW_pos hw ho, hl⟩))
theorem Ov.line (T : Nat → List UInt8) {s : Rs} (y : Wd) (t : List Wd) (ho : Ov s) (hf : s.fault = none) (hm : s.mode ≤ 2) (h : (lineF T (y :: t) s).fault = none) :
    Ov (lineF T (y :: t) s) ∧ 1 ≤ (lineF T (y :: t) s).mode ∧ (lineF T (y :: t) s).mode ≤ 2 := by
  rcases line_ways T y t hf hm h with ⟨_, z, e⟩ | ⟨_, e⟩ | ⟨h1, h2, l, it, e⟩ | ⟨h1, h2, k, l, it, hk, e⟩
  · rw [e]; exact ⟨⟨ho.outs, ho.few⟩, Nat.le_refl 1, (by decide : 1 ≤ 2)⟩
  · rw [e]; exact ⟨⟨ho.outs, ho.few⟩, (by decide : 1 ≤ 2), Nat.le_refl 2⟩
  · rw [e]
    refine ⟨⟨?_, ?_⟩, by show 1 ≤ s.mode; omega, by show s.mode ≤ 2; omega⟩
    · show outsN (s.lines ++ [⟨0, [], 0, it.us⟩]) = s.outs + 1
      rw [outsN_app, ho.outs]
      rfl
    · show s.outs + 1 ≤ 65536
      have := ho.few
      omega
  · rw [e]
    refine ⟨⟨?_, ho.few⟩, by show 1 ≤ s.mode; omega, by show s.mode ≤ 2; omega⟩
    show outsN (s.lines ++ [⟨k, it.nm, it.op, it.us⟩]) = s.outs
    rw [outsN_app, ho.outs]
    simp [outsN, hk]
theorem usesOf_len {ls : List Ln} (hs : ∀ l ∈ ls, l.uses.length ≤ 3) : ∀ j, (usesOf j ls).length ≤ 3 * ls.length := by
  induction ls with
  | nil => intro j; simp [usesOf]
  | cons l t ih =>
    intro j
    have h1 := hs l (by simp)
    have h2 := fun j => ih (fun m hm => hs m (List.mem_cons_of_mem _ hm)) j
    have e : ∀ g, (usOf g l.uses).length = l.uses.length := fun g => by simp [usOf]
    rw [usesOf]
    split
    · rw [List.length_append, e, List.length_cons]; have := h2 j; omega
    · rw [List.length_append, e, List.length_cons]; have := h2 (j + 1); omega
theorem lines_len {s : Rs} (h : Inv s) (ho : Ov s) : s.lines.length = s.names.length + s.outs := by
  rw [← h.cnt, ← ho.outs]
  unfold outsN
  induction s.lines with
  | nil => rfl
  | cons l t ih =>
    by_cases hk : l.kind = 0
    · simp [hk, ih]; omega
    · simp [hk, ih]; omega
theorem gates_len {s : Rs} (h : Inv s) : (gatesOf s.lines).length = s.names.length := by
  rw [← h.cnt]
  unfold gatesOf
  rw [List.length_map]
  congr 1
  refine List.filter_congr fun l _ => ?_
  by_cases hk : l.kind = 0
  · simp [hk]
  · simp [hk]
end Go.Proofs.YtfmmmhcpdinhgabDoor
/-
  The document's reading: where a name stands.
-/
namespace Go.Proofs.YtfmmmhcpdinhgabDoor
open Go.RowKit Go.Deep PureNet PureRd
set_option maxRecDepth 100000

/-- the place of a name, as the reading knows it. -/
theorem Dr.place {w W : World} {r : Nat} {text : List UInt8} {d : Db} {x : Dx} (h : Dr w W r text d x) (hN : x.N.length ≤ 1048576) (k : List UInt8) :
    Calls Tryd.prog 22 #[.pointer (some ⟨x.kb, 0, none⟩), str k] W fun e w' => e = .returned (.int .i64 (plI (d.pl k))) ∧ Below W.heap.size W w' := by
  obtain ⟨sn, cn, e1, hcn, _⟩ := own_cells h.kon
  obtain ⟨sp, cp, e2, hcp, _⟩ := own_cells h.kop
  have hk := h.krow
  rw [e1, e2, h.hPl] at hk
  have := placeD_any x.kb sn sp cn cp x.N x.P ⟨k.toArray⟩ W hk hcn hcp h.hPl h.rise hN
  rw [h.pl k] at this
  exact this
theorem plI_neg (o : Option Nat) : (0 ≤ plI o) ↔ o.isSome = true := by
  cases o with
  | none => simp [plI]
  | some p => simp [plI]
end Go.Proofs.YtfmmmhcpdinhgabDoor
/-
  The document's reading behind a line. Pure.
-/
namespace Go.Proofs.YtfmmmhcpdinhgabDoor
open Go.RowKit Go.Deep PureNet PureRd ShfKit
set_option maxRecDepth 100000

theorem ins_at {α : Type} (l : List α) (s : α) (i : Nat) (h : i ≤ l.length) : (l.take i ++ s :: l.drop i)[i]? = some s := by
  rw [List.getElem?_append_right (by simp; omega)]
  have : i - (l.take i).length = 0 := by simp; omega
  rw [this]
  rfl
theorem ins_low {α : Type} (l : List α) (s : α) (i j : Nat) (hj : j < i) (h : i ≤ l.length) : (l.take i ++ s :: l.drop i)[j]? = l[j]? := by
  rw [List.getElem?_append_left (by simp; omega), List.getElem?_take_of_lt hj]
theorem ins_high {α : Type} (l : List α) (s : α) (i j : Nat) (hj : i ≤ j) (h : i ≤ l.length) : (l.take i ++ s :: l.drop i)[j + 1]? = l[j]? := by
  rw [List.getElem?_append_right (by simp; omega)]
  have : j + 1 - (l.take i).length = (j - i) + 1 := by simp; omega
  rw [this, List.getElem?_cons_succ, List.getElem?_drop]
  congr 1
  omega
theorem placeN_ins {N : List ByteArray} {P : List Int} {s : ByteArray} {i : Nat} (p : Int) (hr : Rising N) (hs : Spot N s i) (hn : s ∉ N) (hPl : P.length = N.length) (k : ByteArray) :
    placeN (N.take i ++ s :: N.drop i) (P.take i ++ p :: P.drop i) k = if k = s then p else placeN N P k := by
  have hr2 := hr.insert hs hn
  have hi := hs.le
  by_cases hk : k = s
  · subst hk
    rw [if_pos rfl, placeN_some hr2 (ins_at N k i hi), List.getD_eq_getElem?_getD, ins_at P p i (by omega)]
    rfl
  · rw [if_neg hk]
    by_cases hm : k ∈ N
    · obtain ⟨j, hj, he⟩ := List.getElem_of_mem hm
      have hj1 : N[j]? = some k := by rw [List.getElem?_eq_getElem hj, he]
      rw [placeN_some hr hj1]
      by_cases hji : j < i
      · rw [placeN_some hr2 (i := j) ((ins_low N s i j hji hi).trans hj1), List.getD_eq_getElem?_getD, List.getD_eq_getElem?_getD, ins_low P p i j hji (by omega)]
      · rw [placeN_some hr2 (i := j + 1) ((ins_high N s i j (by omega) hi).trans hj1), List.getD_eq_getElem?_getD, List.getD_eq_getElem?_getD, ins_high P p i j (by omega) (by omega)]
    · rw [placeN_none hm, placeN_none]
      intro h
      rcases List.mem_append.1 h with h | h
      · exact hm (List.mem_of_mem_take h)
      · rcases List.mem_cons.1 h with h | h
        · exact hk h
        · exact hm (List.mem_of_mem_drop h)
theorem Dr.fresh {w W : World} {r : Nat} {text : List UInt8} {d : Db} {x : Dx} (h : Dr w W r text d x) {k : List UInt8} (hk : d.pl k = none) : (⟨k.toArray⟩ : ByteArray) ∉ x.N := fun hm => by
  obtain ⟨j, hj, he⟩ := List.getElem_of_mem hm
  have hj1 : x.N[j]? = some ⟨k.toArray⟩ := by rw [List.getElem?_eq_getElem hj, he]
  have h1 := h.pl k
  rw [hk, placeN_some h.rise hj1, List.getD_eq_getElem?_getD, List.getElem?_eq_getElem (by rw [h.hPl]; exact hj)] at h1
  have h2 := h.nn.2 _ (List.getElem_mem (l := x.P) (by rw [h.hPl]; exact hj))
  simp only [Option.getD_some] at h1
  rw [h1] at h2
  exact absurd h2 (by decide)
theorem gatesOf_app (a b : List Ln) : gatesOf (a ++ b) = gatesOf a ++ gatesOf b := by simp [gatesOf]
theorem usesOf_app : ∀ (a b : List Ln) (j : Nat), usesOf j (a ++ b) = usesOf j a ++ usesOf (j + (gatesOf a).length) b
  | [], b, j => by simp [usesOf, gatesOf]
  | l :: t, b, j => by
    rw [List.cons_append, usesOf, usesOf, gatesOf_cons]
    by_cases hk : l.kind = 0
    · rw [if_pos hk, if_pos hk, if_pos hk, usesOf_app t b j, List.append_assoc]
    · rw [if_neg hk, if_neg hk, if_neg hk, usesOf_app t b (j + 1), List.append_assoc, List.length_cons]
      congr 3
      omega
theorem placeOf_added (k : Int) (s : Rs) (l : Wd) (it : It) (a : List UInt8) : placeOf (added k s l it) a = if a = it.nm then some s.names.length else placeOf s a := by
  unfold placeOf added
  simp only [List.find?_cons]
  by_cases h : a = it.nm
  · rw [if_pos h, h]
    simp
  · rw [if_neg h]
    have : (it.nm == a) = false := by simpa using fun e : it.nm = a => h e.symm
    rw [this]
theorem dOf_added (k : Int) (hk : k ≠ 0) (s : Rs) (l : Wd) (it : It) : dOf (added k s l it) = ⟨s.cname, gatesOf s.lines ++ [⟨k, ⟨it.nm.toArray⟩, it.op, 0, 0, 0⟩], s.outs, s.names ++ [it.pos], usesOf 0 s.lines ++ usOf ((gatesOf s.lines).length : Int) it.us, s.mode == 2, fun a => if a = it.nm then some s.names.length else placeOf s a, s.names.length + 1⟩ := by
  have e1 : gatesOf (added k s l it).lines = gatesOf s.lines ++ [⟨k, ⟨it.nm.toArray⟩, it.op, 0, 0, 0⟩] := by
    show gatesOf (s.lines ++ [⟨k, it.nm, it.op, it.us⟩]) = _
    rw [gatesOf_app, gatesOf_cons, if_neg hk]
    rfl
  have e2 : usesOf 0 (added k s l it).lines = usesOf 0 s.lines ++ usOf ((gatesOf s.lines).length : Int) it.us := by
    show usesOf 0 (s.lines ++ [⟨k, it.nm, it.op, it.us⟩]) = _
    rw [usesOf_app, usesOf, if_neg hk, usesOf, List.append_nil, Nat.zero_add]
  have e3 : placeOf (added k s l it) = fun a => if a = it.nm then some s.names.length else placeOf s a := funext fun a => placeOf_added k s l it a
  have e4 : (added k s l it).names.length = s.names.length + 1 := by show (s.names ++ [it.pos]).length = _; simp
  unfold dOf
  rw [e1, e2, e3, e4]
  rfl
theorem dOf_outed (s : Rs) (l : Wd) (it : It) : dOf (outed s l it) = ⟨s.cname, gatesOf s.lines, s.outs + 1, s.names, usesOf 0 s.lines ++ usOf (-1) it.us, s.mode == 2, placeOf s, s.names.length⟩ := by
  have e1 : gatesOf (outed s l it).lines = gatesOf s.lines := by
    show gatesOf (s.lines ++ [⟨0, [], 0, it.us⟩]) = _
    rw [gatesOf_app, gatesOf_cons, if_pos rfl]
    exact List.append_nil _
  have e2 : usesOf 0 (outed s l it).lines = usesOf 0 s.lines ++ usOf (-1) it.us := by
    show usesOf 0 (s.lines ++ [⟨0, [], 0, it.us⟩]) = _
    rw [usesOf_app, usesOf, if_pos rfl, usesOf, List.append_nil]
  unfold dOf
  rw [e1, e2]
  rfl
/-! ### forms -/
theorem formW_is (k : List UInt8) : formW k ∈ [[110], [110, 111, 117, 117], [110, 117, 117, 117], [110, 102, 117], [117], ([] : List UInt8)] := by
  unfold formW
  repeat' split
  all_goals simp
theorem form_first {k : List UInt8} (ho : k ≠ outW) {i : Nat} {c : UInt8} {cs : List UInt8} (h : (formW k).drop i = c :: cs) (hc : c ≠ 110) : 0 < i := by
  rcases Nat.eq_zero_or_pos i with h0 | h0
  · subst h0
    rw [List.drop_zero] at h
    unfold formW at h
    repeat' split at h
    all_goals first | exact absurd rfl (fun e : k = k => ho (by assumption)) | (simp at h; exact absurd h.1.symm hc) | simp at h
  · exact h0
theorem form_op {k : List UInt8} {i : Nat} {cs : List UInt8} {c : UInt8} (hc : c = 111 ∨ c = 102) (h : (formW k).drop i = c :: cs) : (102 : UInt8) ∉ cs := by
  have hi : i < 5 := by
    have h4 : (formW k).length ≤ 4 := by
      unfold formW
      repeat' split
      all_goals decide
    have : ((formW k).drop i).length = cs.length + 1 := by rw [h]; rfl
    rw [List.length_drop] at this
    omega
  have key : ∀ f ∈ [[110], [110, 111, 117, 117], [110, 117, 117, 117], [110, 102, 117], [117], ([] : List UInt8)], ∀ j, j < 5 → (f.drop j).head? = some 111 ∨ (f.drop j).head? = some 102 → (102 : UInt8) ∉ (f.drop j).tail := by decide
  have := key _ (formW_is k) i hi (by rw [h]; rcases hc with rfl | rfl <;> simp)
  rw [h] at this
  exact this
end Go.Proofs.YtfmmmhcpdinhgabDoor
