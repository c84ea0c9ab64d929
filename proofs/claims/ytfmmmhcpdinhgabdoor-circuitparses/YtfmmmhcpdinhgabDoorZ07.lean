import Derived.Test.YtfmmmhcpdinhgabDoorZ06
/-
  A line is read.
-/
namespace Go.Proofs.YtfmmmhcpdinhgabDoor
open Go.RowKit Go.Deep PureNet PureRd ShfKit Go.Maps Go.WideShapes
set_option maxRecDepth 100000

/-- what a step does. -/
def stepF (T : Nat → List UInt8) (f : Nat) (s : Rs) : Rs :=
  if f = 15 then headed nameL s else if f = 27 then PureRd.begin nameL 1 s else if f = 28 then withUses nameL 2 (withOp (opF T) (PureRd.begin nameL 2 s))
  else if f = 29 then withUses nameL 3 (PureRd.begin nameL 4 s) else if f = 30 then withUses nameL 1 (withOp fvF (PureRd.begin nameL 3 s)) else if f = 31 then PureRd.output nameL s else ended s
def shut (s : Rs) : Rs :=
  match s.left with
  | [] => s
  | y :: _ => refuse s 140 y.2
/-- a line. -/
def lineF (T : Nat → List UInt8) (ws : List Wd) (s : Rs) : Rs :=
  match ws with
  | [] => s
  | y :: t =>
    match fnOf s.mode y.1 with
    | none => refuse { s with last := y, left := t } 140 y.2
    | some f => shut (stepF T f { s with last := y, left := t })
theorem fn_cases {mode : Nat} {k : List UInt8} {f : Nat} (h : fnOf mode k = some f) : f = 15 ∨ f = 27 ∨ f = 28 ∨ f = 29 ∨ f = 30 ∨ f = 31 ∨ f = 32 := by
  unfold fnOf at h
  repeat' split at h
  all_goals first | cases h | skip
  all_goals simp_all
/-- few. -/
structure Few (s : Rs) : Prop where
  names : s.names.length ≤ 2097152
  lines : s.lines.length ≤ 2097152
  places : s.places.length ≤ 2097152
  outs : s.outs ≤ 2097152
theorem fn_any (T : Nat → List UInt8) (B b : Nat) (text : List UInt8) (s : Rs) (x : Bx) (w : World) (h : Rt w B b text s x) (hf : Few s) (hops : OpsT w T) (hB2 : 1 < B) {mode : Nat} {k : List UInt8} {f : Nat} (hfn : fnOf mode k = some f) :
    Calls Tryd.prog f #[.pointer (some ⟨b, 0, none⟩)] w fun e w' => (∃ v, e = .returned v) ∧ (∃ x', Rt w' B b text (stepF T f s) x') ∧ Below B w w' := by
  have hc := And.intro hf.names (And.intro hf.lines hf.places)
  rcases fn_cases hfn with rfl | rfl | rfl | rfl | rfl | rfl | rfl
  · exact (head_any B b text s x w h).mono fun e w' ⟨a, ⟨x', c, _⟩, d⟩ => ⟨a, ⟨x', c⟩, d⟩
  · exact (input_any B b text s x w h hc).mono fun e w' ⟨a, ⟨x', c, _⟩, d⟩ => ⟨a, ⟨x', c⟩, d⟩
  · exact (gate_any T B b text s x w h hc hops hB2).mono fun e w' ⟨a, ⟨x', c, _⟩, d⟩ => ⟨a, ⟨x', c⟩, d⟩
  · exact (mux_any B b text s x w h hc).mono fun e w' ⟨a, ⟨x', c, _⟩, d⟩ => ⟨a, ⟨x', c⟩, d⟩
  · exact (latch_any B b text s x w h hc).mono fun e w' ⟨a, ⟨x', c, _⟩, d⟩ => ⟨a, ⟨x', c⟩, d⟩
  · exact (output_any B b text s x w h ⟨hf.outs, hf.lines⟩).mono fun e w' ⟨a, ⟨x', c, _⟩, d⟩ => ⟨a, ⟨x', c⟩, d⟩
  · exact (end_any B b text s x w h).mono fun e w' ⟨a, ⟨x', c, _⟩, d⟩ => ⟨a, ⟨x', c⟩, d⟩

theorem zero69 (W : World) : (zeroValue 58).run Tryd.prog W = .ok .nilFunc W := Tryd.zeroValue58 W
theorem rfn_inv {v : Value} {f : Nat} {ps : List MemPlace} (h : rfn v = some (.lit (.int .i64 (f : Int)), ps)) : v = .func (.func f) #[] #[] := by
  cases v
  all_goals try (change none = _ at h; cases h; done)
  case nilFunc =>
    change some (DataW.lit (.int .i64 (-1)), []) = _ at h
    simp only [Option.some.injEq, Prod.mk.injEq, DataW.lit.injEq, Lit.int.injEq] at h
    have := h.1.2
    omega
  case func fn a b =>
    cases fn
    all_goals try (change none = _ at h; cases h; done)
    rename_i g
    obtain ⟨la⟩ := a
    obtain ⟨lb⟩ := b
    cases la with
    | cons _ _ => change none = _ at h; cases h
    | nil =>
      cases lb with
      | cons _ _ => change none = _ at h; cases h
      | nil =>
        change some (DataW.lit (.int .i64 (g : Int)), []) = _ at h
        simp only [Option.some.injEq, Prod.mk.injEq, DataW.lit.injEq, Lit.int.injEq] at h
        have e : g = f := Int.ofNat.inj h.1.2
        rw [e]
/-- what a look-up of a first word finds. -/
theorem RM.look {W : World} {rm : Value} {mode : Nat} (h : RM W rm mode) (k : List UInt8) (hk : k.length ≤ 1048576) : ∃ v, (Instr.lookup 60 rm (str k) true).run Tryd.prog W = .ok (.tuple #[v, .bool (fnOf mode k).isSome]) W ∧ ∀ f, fnOf mode k = some f → v = .func (.func f) #[] #[] := by
  have hk2 := WideMaps.keyOf_string_mk (P := Tryd.prog) (s := ⟨k.toArray⟩) Tryd.underlying9 (by show k.toArray.size ≤ _; unfold maxLen; simp; omega)
  rcases h with ⟨hm, rfl⟩ | ⟨hm, m, n, D, rfl, ho, hv⟩
  · have e : fnOf mode k = none := by unfold fnOf; rw [if_neg (by omega), if_neg (by omega)]
    rw [e]
    exact ⟨.nilFunc, by simpa using Maps.look_nil (w := W) true (string_keyed Tryd.underlying9) Tryd.underlying60 (zero69 W) hk2, fun f hf => by cases hf⟩
  · obtain ⟨v, ps, hrun, hr⟩ := ho.look_ok (string_keyed Tryd.underlying9) Tryd.underlying60 (zero69 W) (show rfn .nilFunc = _ from rfl) hk2
    refine ⟨v, ?_, fun f hf => ?_⟩
    · rw [hrun]
      have := (hv k).1
      simp only at this ⊢
      rw [this]
    · have := (hv k).2 f (.lit (.int .i64 (-1))) hf
      simp only at hr
      rw [this] at hr
      exact rfn_inv hr
theorem WRow.up {W : World} {M M' : Nat} {v : Value} {ws : List Wd} (h : WRow W M v ws) (hM : M ≤ M') : WRow W M' v ws := by
  obtain ⟨sa, c, hv, hc, hr⟩ := h
  refine ⟨sa, c, hv, hc, fun h0 => ?_⟩
  obtain ⟨g, o, cur, fz, e, hgM, hg, hx⟩ := hr h0
  exact ⟨g, o, cur, fz, e, by omega, hg, hx⟩
/-- a line's words are laid before the reader. -/
theorem Rt.lay {W : World} {B b : Nat} {text : List UInt8} {s : Rs} {x : Bx} {lv : Value} {ws : List Wd} (h : Rt W B b text s x) (hw : WRow W W.heap.size lv ws) (hin : ∀ y ∈ ws, InT text.length y) : Rt (W.setCell ⟨b, 2, none⟩ lv) B b text { s with left := ws } { x with lf := lv, mx := W.heap.size } := by
  have ho : Oth 67 (some b) W (W.setCell ⟨b, 2, none⟩ lv) := oth_set
  have hb : ∀ k c fz, some b = some k → W.heap[k]? ≠ some (.cells c 64 fz) := fun k c fz e h2 => by
    obtain rfl := Option.some.inj e
    rw [h.box] at h2
    simp only [Option.some.injEq, Obj.cells.injEq] at h2
    exact absurd h2.2.1 (by decide)
  obtain ⟨h1, h2, h3, h4, h5, h6⟩ := h.beside ho
  exact ⟨h.base, by rw [row_set h.box]; rfl, h1, hw.kept ho (by decide) hb, h3, h.many, fun i l u hl hu => (h4 i l u hl hu).up h.mxl, h5, h6, h.small, hin, h.inla, h.inn, h.inu, h.few, h.fewL, h.fewN, h.fewO, h.flt, by simp, h.two, h.pmB⟩

set_option maxHeartbeats 4000000 in
theorem line_any (T : Nat → List UInt8) (B b : Nat) (text : List UInt8) (s : Rs) (x : Bx) (lv : Value) (ws : List Wd) (w : World) (h : Rt w B b text s x) (hf : Few s) (hops : OpsT w T) (hB2 : 1 < B) (hw : WRow w w.heap.size lv ws) (hin : ∀ y ∈ ws, InT text.length y) :
    Calls Tryd.prog 34 #[.pointer (some ⟨b, 0, none⟩), lv] w fun e w' => (∃ v, e = .returned v) ∧ (∃ x', Rt w' B b text (lineF T ws s) x') ∧ Below B w w' := by
  obtain ⟨sa, c, hlv, hcl, hrow⟩ := id hw
  cases ws with
  | nil =>
    have FIN : Hid ((∃ x', Rt w B b text (lineF T [] s) x') ∧ Below B w w) := ⟨⟨x, h⟩, Below.refl _ _⟩
    subst hlv
    clear h hf hops hrow hw hin
    go_enter Tryd.func34, Tryd.ntmps34
    go_wp2
    first | go_ret | refine bodyPost_ret (results_none rfl _ _ _) rfl ?_
    exact ⟨⟨_, rfl⟩, FIN.out⟩
  | cons y t =>
    have hR0 := h.lay hw hin
    obtain ⟨s0, hs0⟩ : ∃ s0, s0 = { s with left := y :: t } := ⟨_, rfl⟩
    obtain ⟨x0, hx0⟩ : ∃ x0, x0 = { x with lf := lv, mx := w.heap.size } := ⟨_, rfl⟩
    obtain ⟨w0, hw0⟩ : ∃ w0, w0 = w.setCell ⟨b, 2, none⟩ lv := ⟨_, rfl⟩
    rw [← hs0, ← hx0, ← hw0] at hR0
    obtain ⟨s1, hs1⟩ : ∃ s1, s1 = { s with last := y, left := t } := ⟨_, rfl⟩
    have et : take s0 = (y, s1) := by rw [hs0, hs1]; rfl
    have TK := hid (take_any B b text s0 x0 w0 hR0)
    rw [et] at TK
    have hB := h.base
    have hbw := (Array.getElem?_eq_some_iff.1 h.box).1
    have b0 : Below B w w0 := by rw [hw0]; exact (Below.refl _ _).setCell (p := ⟨b, 2, none⟩) h.base _
    have hsm := h.small
    have hiy : y.2 + y.1.length ≤ text.length := hin y (by simp)
    have hf1 : Few s1 := by rw [hs1]; exact ⟨hf.names, hf.lines, hf.places, hf.outs⟩
    have hm1 : s1.mode = s.mode := by rw [hs1]
    have LF : Hid (lineF T (y :: t) s = match fnOf s1.mode y.1 with | none => refuse s1 140 y.2 | some f => shut (stepF T f s1)) := by show _ = _; rw [hs1]; rfl
    obtain ⟨q0, q1, q2, q3, q4, q5, q6, q7, q8, q9, q10, q11, q12, q13, q14, hbl, hfz⟩ := box_cells h.box
    have f2 := hfz 2
    have HOP := hid hops
    have MID : Hid (∀ w1 lf, Rt w1 B b text s1 { x0 with lf := lf } → Below B w0 w1 → ∀ w2, w2 = w1.alloc (.cells #[str y.1, .int .i64 (y.2 : Int)] 64) →
        Rt w2.drew B b text s1 { x0 with lf := lf } ∧ Below B w w2.drew ∧ w2.heap[w1.heap.size]? = some (.cells #[str y.1, .int .i64 (y.2 : Int)] 64 (0, 0)) ∧ w2.cell? ⟨b, 1, none⟩ = some x0.rm ∧ b < w2.heap.size ∧ ∃ v, (Instr.lookup 60 x0.rm (str y.1) true).run Tryd.prog w2.drew = .ok (.tuple #[v, .bool (fnOf s1.mode y.1).isSome]) w2.drew ∧ ∀ f, fnOf s1.mode y.1 = some f → v = .func (.func f) #[] #[]) := fun w1 lf hR hb w2 h2 => by
      have b12 : Below w1.heap.size w1 w2 := by rw [h2]; exact (Below.refl _ _).alloc (Nat.le_refl _) _
      have hs := hb.size
      have hs0 := b0.size
      have h2R := hR.on b12
      have h2D := h2R.on (Below.refl w2.heap.size w2).drew
      obtain ⟨v, hv1, hv2⟩ := h2D.mode.look y.1 (by omega)
      exact ⟨h2D, (b0.trans (hb.trans (b12.mono (by have := (Array.getElem?_eq_some_iff.1 hR.box).1; omega)))).drew, by rw [h2]; exact heap_alloc_new w1 _, cell_row h2R.box 1, (Array.getElem?_eq_some_iff.1 h2R.box).1, v, hv1, hv2⟩
    have HW0 := hid hw0
    have HF1 := hid hf1
    have hz : (((t.length + 1 : Nat) : Int) == 0) = false := by simp; omega
    have hz2 : ((t.length : Int) + 1 == 0) = false := by simp; omega
    rw [List.length_cons] at hlv
    subst hlv
    have mixed := Tryd.lays161.mixed
    clear h hf hops hrow hw hin hR0 hs0 hx0 hw0 hs1 et b0 hf1 hm1 q0 q1 q3 q4 q5 q6 q7 q8 q9 q10 q11 q12 q13 q14 hfz
    go_enter Tryd.func34, Tryd.ntmps34
    go_upto_region 3 with (first
      | (have q := HW2; clear q; rw [← HW2.out]; clear HW2)
      | (rw [← HW0.out]; clear HW0)
      | (go_at_call 45; refine TK.out.mono ?_; rintro e w1 ⟨rfl, ⟨lf, r1⟩, b1, o1⟩; obtain ⟨w2, hw2⟩ : ∃ w2, w2 = w1.alloc (.cells #[str y.1, .int .i64 (y.2 : Int)] 64) := ⟨_, rfl⟩; obtain ⟨r2, b2, n2, c1, lb, v, l2, hv⟩ := MID.out w1 lf r1 b1 w2 hw2; have HW2 := hid hw2; have R2 := hid r2; have B2 := hid b2; have N2 := hid n2; have HV := hid hv; have d0 := cell_row n2 0; have d1 := cell_row n2 1; have ln := (Array.getElem?_eq_some_iff.1 n2).1; have c1' : w2.drew.cell? ⟨b, 1, none⟩ = some x0.rm := c1; have d0' : w2.drew.cell? ⟨w1.heap.size, 0, none⟩ = some (str y.1) := d0; clear hw2 r2 b2 n2 r1 b1 o1 hv))
    go_cut [5, 6] (fun s5 s6 wx => s5 = v ∧ s6 = .bool (fnOf s1.mode y.1).isSome ∧ wx = w2.drew)
    case first =>
      go_region
      all_goals (go_wp2_with fail; go_meet; exact ⟨rfl, rfl, rfl⟩)
    case rest =>
    obtain ⟨rfl, rfl, rfl⟩ := hcut
    have d1' : w2.drew.cell? ⟨w1.heap.size, 1, none⟩ = some (.int .i64 (y.2 : Int)) := d1
    have ln' : w1.heap.size < w2.drew.heap.size := ln
    clear l2 c1' d0' d0 c1 lb d1 ln MID TK N2
    cases hfn : fnOf s1.mode y.1 with
    | none =>
      have e2 : Hid (lineF T (y :: t) s = refuse s1 140 y.2) := by show _ = _; rw [LF.out, hfn]
      have RC := hid (refuse_any B b text s1 _ 140 y.2 w2.drew R2.out (by omega) (by decide))
      clear hfn LF HV
      go_wp2_with (go_at_call 36; refine RC.out.mono ?_; rintro e w3 ⟨⟨yy, rfl⟩, k1, k2, k3⟩; have K := hid (And.intro k1 (B2.out.trans k2)); clear k1 k2 k3)
      first | go_ret | refine bodyPost_ret (results_none rfl _ _ _) rfl ?_
      rw [e2.out]
      exact ⟨⟨_, rfl⟩, ⟨_, K.out.1⟩, K.out.2⟩
    | some f =>
      have e2 : Hid (lineF T (y :: t) s = shut (stepF T f s1)) := by show _ = _; rw [LF.out, hfn]
      have FN := hid (fn_any T B b text s1 _ w2.drew R2.out HF1.out (HOP.out.on B2.out hB2) hB2 hfn)
      have hv := HV.out f hfn
      subst hv
      obtain ⟨s2, hs2⟩ : ∃ s2, s2 = stepF T f s1 := ⟨_, rfl⟩
      rw [← hs2] at FN e2
      have HFC := hid (fn_cases hfn)
      clear hfn LF HV hs2
      go_upto_region 6 with fail
      go_cut [5, 6, 27, 32, 34] (fun s5 s6 s27 s32 s34 wx => Hid (∃ x3, Rt wx B b text s2 x3 ∧ Below B w wx))
      case first =>
        rcases HFC.out with rfl | rfl | rfl | rfl | rfl | rfl | rfl
        all_goals
          (go_wp2_with ((first | go_at_call 15 | go_at_call 27 | go_at_call 28 | go_at_call 29 | go_at_call 30 | go_at_call 31 | go_at_call 32); refine FN.out.mono ?_; rintro e w3 ⟨⟨yy, rfl⟩, ⟨x3, k1⟩, k2⟩; have K : Hid (∃ x3, Rt w3 B b text s2 x3 ∧ Below B w w3) := ⟨x3, k1, B2.out.trans k2⟩; clear k1 k2)
           go_meet
           exact K.out)
      case rest =>
      obtain ⟨w3, hw3⟩ : ∃ w3, w3 = wc := ⟨_, rfl⟩
      rw [← hw3] at hcut ⊢
      clear hw3 FN HFC R2 B2 d1' ln'
      obtain ⟨x3, R3, B3⟩ := hcut.out
      obtain ⟨sa3, c3, hl3, hc3, hr3⟩ := R3.left
      have q2' : w3.cell? ⟨b, 2, none⟩ = some (.slice sa3 s2.left.length c3) := by rw [← hl3]; exact cell_row R3.box 2
      have lb3 : b < w3.heap.size := (Array.getElem?_eq_some_iff.1 R3.box).1
      cases hl : s2.left with
      | nil =>
        have e3 : Hid (lineF T (y :: t) s = s2) := by show _ = _; rw [e2.out]; unfold shut; rw [hl]
        have K : Hid ((∃ x', Rt w3 B b text s2 x') ∧ Below B w w3) := ⟨⟨x3, R3⟩, B3⟩
        rw [hl] at q2'
        clear hl hl3 hr3 R3 B3 hcut e2
        go_wp2
        first | go_end0 | refine bodyPost_end (results_none rfl _ _ _) rfl ?_
        rw [e3.out]
        exact ⟨⟨_, rfl⟩, K.out⟩
      | cons z zs =>
        have e3 : Hid (lineF T (y :: t) s = refuse s2 140 z.2) := by show _ = _; rw [e2.out]; unfold shut; rw [hl]
        obtain ⟨g, o, cur, fz, rfl, hgM, hg, hx⟩ := hr3 (by rw [hl]; simp)
        obtain ⟨hy1, hy2⟩ := hx 0 z (by rw [hl]; rfl)
        have hzi : z.2 + z.1.length ≤ text.length := R3.inl z (by rw [hl]; simp)
        have RC := hid (refuse_any B b text s2 x3 140 z.2 w3 R3 (by omega) (by decide))
        have y2 : w3.cell? ⟨g, o + 1, none⟩ = some (.int .i64 (z.2 : Int)) := (cell_row hg (o + 1)).trans (by simpa using hy2)
        have lg : g < w3.heap.size := (Array.getElem?_eq_some_iff.1 hg).1
        have BH := hid B3
        rw [hl, List.length_cons] at q2' hc3
        have hz3 : (decide ((zs.length : Int) + 1 > 0)) = true := decide_eq_true (by omega)
        have hz4 : (decide (0 < (zs.length : Int) + 1)) = true := decide_eq_true (by omega)
        clear hl hl3 R3 B3 hcut e2 hx hg hy1 hy2 hr3
        go_wp2_with (go_at_call 36; refine RC.out.mono ?_; rintro e w4 ⟨⟨yy, rfl⟩, k1, k2, k3⟩; have K := hid (And.intro k1 (BH.out.trans k2)); clear k1 k2 k3)
        first | go_end0 | refine bodyPost_end (results_none rfl _ _ _) rfl ?_
        rw [e3.out]
        exact ⟨⟨_, rfl⟩, ⟨_, K.out.1⟩, K.out.2⟩
end Go.Proofs.YtfmmmhcpdinhgabDoor
/-
  All lines are read.
-/
namespace Go.Proofs.YtfmmmhcpdinhgabDoor
open Go.RowKit Go.Deep PureNet PureRd ShfKit
set_option maxRecDepth 100000

/-- no count is above m. -/
structure Upto (m : Nat) (s : Rs) : Prop where
  names : s.names.length ≤ m
  lines : s.lines.length ≤ m
  places : s.places.length ≤ m
  outs : s.outs ≤ m
theorem Upto.same {m : Nat} {s s' : Rs} (h : Upto m s) (e : Same s s') : Upto m s' := ⟨by rw [e.names]; exact h.names, by rw [e.lines]; exact h.lines, by rw [e.places]; exact h.places, by rw [e.outs]; exact h.outs⟩
theorem Upto.mono {m n : Nat} {s : Rs} (h : Upto m s) (e : m ≤ n) : Upto n s := ⟨Nat.le_trans h.names e, Nat.le_trans h.lines e, Nat.le_trans h.places e, Nat.le_trans h.outs e⟩
theorem Upto.few {m : Nat} {s : Rs} (h : Upto m s) (e : m ≤ 2097152) : Few s := ⟨Nat.le_trans h.names e, Nat.le_trans h.lines e, Nat.le_trans h.places e, Nat.le_trans h.outs e⟩
theorem Upto.mapLast {m : Nat} {s : Rs} (h : Upto m s) (f : Ln → Ln) : Upto m (mapLast s f) := by
  refine ⟨h.names, ?_, h.places, h.outs⟩
  have := h.lines
  unfold PureRd.mapLast
  simp only [List.length_append, List.length_dropLast]
  cases hl : s.lines.getLast? with
  | none =>
    have : s.lines = [] := by simpa using hl
    simp [this]
  | some y =>
    have : s.lines ≠ [] := fun e => by rw [e] at hl; cases hl
    have := List.length_pos_iff.2 this
    simp
    omega
theorem Upto.begin {m : Nat} {s : Rs} (h : Upto m s) (kind : Int) : Upto (m + 1) (PureRd.begin nameL kind s) := by
  have h1 : Same s (if s.names.length = 65536 then refuse s 8 s.last.2 else s) := by split; exact refuse_same _ _ _; exact Same.refl _
  have h2 := h1.trans (name_same nameL _)
  have h3 : ∀ c : Prop, [Decidable c] → ∀ a, Same s (if c then refuse (name nameL (if s.names.length = 65536 then refuse s 8 s.last.2 else s)).2 141 a else (name nameL (if s.names.length = 65536 then refuse s 8 s.last.2 else s)).2) := fun c _ a => by split; exact h2.trans (refuse_same _ _ _); exact h2
  have h4 := fun (c : Prop) [Decidable c] a => h.same (h3 c a)
  unfold PureRd.begin
  dsimp only
  refine ⟨?_, ?_, ?_, ?_⟩
  · simp only [List.length_append, List.length_cons, List.length_nil]
    exact Nat.succ_le_succ (h4 _ _).names
  · simp only [List.length_append, List.length_cons, List.length_nil]
    exact Nat.succ_le_succ (h4 _ _).lines
  · simp only [List.length_cons]
    exact Nat.succ_le_succ (h4 _ _).places
  · exact Nat.le_succ_of_le (h4 _ _).outs
theorem Upto.output {m : Nat} {s : Rs} (h : Upto m s) : Upto (m + 1) (PureRd.output nameL s) := by
  have h1 : Same s (if s.outs = 65536 then refuse s 8 s.last.2 else s) := by split; exact refuse_same _ _ _; exact Same.refl _
  have u1 := h.same h1
  have u2 : Upto (m + 1) { (if s.outs = 65536 then refuse s 8 s.last.2 else s) with outs := (if s.outs = 65536 then refuse s 8 s.last.2 else s).outs + 1 } := ⟨Nat.le_succ_of_le u1.names, Nat.le_succ_of_le u1.lines, Nat.le_succ_of_le u1.places, Nat.succ_le_succ u1.outs⟩
  have e2 := namesOf_same nameL { (if s.outs = 65536 then refuse s 8 s.last.2 else s) with outs := (if s.outs = 65536 then refuse s 8 s.last.2 else s).outs + 1 } 1
  have u3 := u2.same e2
  unfold PureRd.output
  dsimp only
  refine ⟨u3.names, ?_, u3.places, u3.outs⟩
  simp only [List.length_append, List.length_cons, List.length_nil]
  rw [e2.lines]
  exact Nat.succ_le_succ u1.lines
theorem Upto.withOp {m : Nat} {s : Rs} (h : Upto m s) (F : List UInt8 → Int) : Upto m (withOp F s) := (h.same (op_same F s)).mapLast _
theorem Upto.withUses {m : Nat} {s : Rs} (h : Upto m s) (n : Nat) : Upto m (withUses nameL n s) := (h.same (namesOf_same nameL s n)).mapLast _
theorem Upto.step {m : Nat} {s : Rs} (h : Upto m s) (T : Nat → List UInt8) (f : Nat) : Upto (m + 1) (stepF T f s) := by
  unfold stepF
  repeat' split
  · exact (h.same (name_same nameL s)).mono (Nat.le_succ _) |> fun u => ⟨u.names, u.lines, u.places, u.outs⟩
  · exact h.begin 1
  · exact ((h.begin 2).withOp _).withUses 2
  · exact (h.begin 4).withUses 3
  · exact ((h.begin 3).withOp _).withUses 1
  · exact h.output
  · exact ⟨Nat.le_succ_of_le h.names, Nat.le_succ_of_le h.lines, Nat.le_succ_of_le h.places, Nat.le_succ_of_le h.outs⟩
theorem shut_same (s : Rs) : Same s (shut s) := by
  unfold shut
  split
  · exact Same.refl _
  · exact refuse_same _ _ _
theorem Upto.line {m : Nat} {s : Rs} (h : Upto m s) (T : Nat → List UInt8) (ws : List Wd) : Upto (m + 1) (lineF T ws s) := by
  unfold lineF
  split
  · exact h.mono (Nat.le_succ _)
  · have h1 : ∀ y t, Upto m { s with last := y, left := t } := fun y t => ⟨h.names, h.lines, h.places, h.outs⟩
    split
    · exact ((h1 _ _).same (refuse_same _ _ _)).mono (Nat.le_succ _)
    · exact ((h1 _ _).step T _).same (shut_same _)
theorem wr_in (p n : Nat) : ∀ (f : Nat) (r : List UInt8), r.length ≤ n → ∀ y ∈ wr p n f r, InT (p + n) y
  | 0, r, _, y, hy => by simp [wr] at hy
  | f + 1, r, hr, y, hy => by
    rw [wr] at hy
    split at hy
    · simp at hy
    · rcases List.mem_cons.1 hy with rfl | hy
      · have : (r.takeWhile (fun c => !blankB c)).length ≤ r.length := (List.takeWhile_prefix _).length_le
        show p + (n - r.length) + (r.takeWhile (fun c => !blankB c)).length ≤ p + n
        omega
      · refine wr_in p n f _ ?_ y hy
        have h1 := drop_len (r.drop (r.takeWhile (fun c => !blankB c)).length) blankB
        have h2 : (r.drop (r.takeWhile (fun c => !blankB c)).length).length = r.length - (r.takeWhile (fun c => !blankB c)).length := List.length_drop
        omega
theorem words_in (l : List UInt8) (p : Nat) : ∀ y ∈ wordsOf l p, InT (p + l.length) y := fun y hy => by
  have h1 : (cutHash l).length ≤ l.length := (List.takeWhile_prefix _).length_le
  have := wr_in p (cutHash l).length _ _ (drop_len _ _) y hy
  unfold InT at this ⊢
  omega
/-- the lines from p on. -/
def linesF (T : Nat → List UInt8) (text : List UInt8) : Nat → Nat → Rs → Rs
  | 0, _, s => s
  | f + 1, p, s => if p < text.length ∧ s.fault = none then linesF T text f (p + ((cutLine (text.drop p)).length + 1)) (lineF T (wordsOf (cutLine (text.drop p)) p) s) else s
def readLinesF (T : Nat → List UInt8) (text : List UInt8) (s : Rs) : Rs :=
  if (linesF T text (text.length + 1) 0 s).mode < 2 then refuse (linesF T text (text.length + 1) 0 s) 140 text.length else linesF T text (text.length + 1) 0 s
theorem linesF_end (T : Nat → List UInt8) (text : List UInt8) (f p : Nat) (s : Rs) (h : ¬(p < text.length ∧ s.fault = none)) : linesF T text f p s = s := by
  cases f with
  | zero => rfl
  | succ f => rw [linesF, if_neg h]

theorem neq71_nil (W : World) : (binOp .neq 60 (.map none) (.map none)).run Tryd.prog W = .ok (.bool false) W := by kernel_rfl
theorem neq71_some (m : Nat) (W : World) : (binOp .neq 60 (.map (some m)) (.map none)).run Tryd.prog W = .ok (.bool true) W := by kernel_rfl

set_option maxHeartbeats 4000000 in
theorem lines_any (T : Nat → List UInt8) (B b : Nat) (text : List UInt8) (s : Rs) (x : Bx) (w : World) (h : Rt w B b text s x) (hf : Upto 0 s) (hops : OpsT w T) (hB2 : 1 < B) :
    Calls Tryd.prog 16 #[.pointer (some ⟨b, 0, none⟩)] w fun e w' => (∃ v, e = .returned v) ∧ (∃ x', Rt w' B b text (readLinesF T text s) x') ∧ Below B w w' := by
  have hsm := h.small
  have HOP := hid hops
  obtain ⟨FL, hFL⟩ : ∃ FL, FL = linesF T text (text.length + 1) 0 s := ⟨_, rfl⟩
  have RLF : Hid (readLinesF T text s = if FL.mode < 2 then refuse FL 140 text.length else FL) := by show _ = _; rw [hFL]; rfl
  have START : Hid (∃ (p : Nat) (s' : Rs) (x' : Bx) (f : Nat), Value.int .i64 0 = .int .i64 (p : Int) ∧ Rt w B b text s' x' ∧ Below B w w ∧ Upto p s' ∧ linesF T text f p s' = FL ∧ text.length ≤ p + f ∧ p ≤ text.length + 1) := ⟨0, s, x, text.length + 1, rfl, h, Below.refl _ _, hf, hFL.symm, by omega, by omega⟩
  clear h hf hops hFL
  go_enter Tryd.func16, Tryd.ntmps16
  go_wp2
  go_loopw [2] (fun pv W => Hid (∃ (p : Nat) (s' : Rs) (x' : Bx) (f : Nat), pv = .int .i64 (p : Int) ∧ Rt W B b text s' x' ∧ Below B w W ∧ Upto p s' ∧ linesF T text f p s' = FL ∧ text.length ≤ p + f ∧ p ≤ text.length + 1)) (fun pv _ => match pv with | .int _ i => text.length + 1 - i.toNat | _ => 0)
  case atStart => exact START.out
  case round =>
    clear START
    obtain ⟨WW, hWW⟩ : ∃ WW, WW = wr := ⟨_, rfl⟩
    rw [← hWW] at hrel ⊢
    clear hWW
    obtain ⟨p, s', x', f, rfl, hR, hB, hU, hL, hpf, hpt⟩ := hrel.out
    obtain ⟨q0, q1, q2, q3, q4, q5, q6, q7, q8, q9, q10, q11, q12, q13, q14, hbl, hfz⟩ := box_cells hR.box
    have R := hid hR
    have BB := hid hB
    have UU := hid hU
    have LL := hid hL
    have FLT := hid hR.flt
    clear hrel hR hB hU hL hfz
    by_cases hgo : p < text.length ∧ s'.fault = none
    · obtain ⟨hgp, hgf⟩ := hgo
      have e12 : w.heap.size = w.heap.size := rfl
      rw [hgf] at q12
      have q12' : WW.cell? ⟨b, 12, none⟩ = some (.int .i64 0) := q12
      obtain ⟨l, hl⟩ : ∃ l, l = cutLine (text.drop p) := ⟨_, rfl⟩
      have hll : p + l.length ≤ text.length := by
        have : l.length ≤ (text.drop p).length := by rw [hl]; exact (List.takeWhile_prefix _).length_le
        rw [List.length_drop] at this
        omega
      have EX : (⟨text.toArray⟩ : ByteArray).extract p text.length = ⟨(text.drop p).toArray⟩ := by rw [Lib.extract_eq]; simp; exact List.take_of_length_le (by simp)
      have CUT : Hid (Calls Tryd.prog 33 #[str (text.drop p), .string ⟨#[10]⟩] WW fun e w' => (∃ a b, e = .returned (.tuple #[str l, .string a, .bool b])) ∧ Below WW.heap.size WW w') := by
        have := cut_any 10 ⟨(text.drop p).toArray⟩ WW (by show (text.drop p).toArray.size ≤ _; simp; omega)
        rw [hl]
        exact this
      obtain ⟨s2, hs2⟩ : ∃ s2, s2 = lineF T (wordsOf l p) s' := ⟨_, rfl⟩
      have WDS := hid (fun W => words_any l p W (by omega) (by omega))
      have LNE : Hid (∀ W v, Rt W B b text s' x' → Below B w W → WRow W W.heap.size v (wordsOf l p) → Calls Tryd.prog 34 #[.pointer (some ⟨b, 0, none⟩), v] W fun e w' => (∃ v, e = .returned v) ∧ (∃ x', Rt w' B b text s2 x') ∧ Below B W w') := fun W v hR hB hW => by
        rw [hs2]
        refine line_any T B b text s' x' v (wordsOf l p) W hR (UU.out.few (by omega)) (HOP.out.on hB hB2) hB2 hW (fun y hy => ?_)
        have := words_in l p y hy
        unfold InT at this ⊢
        omega
      have NXT : Hid (∃ f2, linesF T text f2 (p + (l.length + 1)) s2 = FL ∧ text.length ≤ p + (l.length + 1) + f2 ∧ p + (l.length + 1) ≤ text.length + 1 ∧ Upto (p + (l.length + 1)) s2) := by
        have h1 := LL.out
        cases f with
        | zero => omega
        | succ f =>
          rw [linesF, if_pos ⟨hgp, hgf⟩, ← hl, ← hs2] at h1
          exact ⟨f, h1, by omega, by omega, by rw [hs2]; exact (UU.out.line T (wordsOf l p)).mono (by omega)⟩
      have hpl : ((p : Int) < (text.length : Int)) := by omega
      clear hgf hl hs2 q1 q2 q3 q4 q5 q6 q7 q8 q9 q10 q11 q12 q13 q14 LL UU FLT e12
      go_wp2_with (first
        | (have z := R3; clear z; go_at_call 34; refine (LNE.out _ _ R3.out B3.out WR3.out).mono ?_; rintro e w4 ⟨⟨v4, rfl⟩, ⟨x4, k1⟩, k2⟩; have R4 := hid k1; have B4 : Hid (Below B w w4) := B3.out.trans k2; clear k1 k2)
        | (have z := R2; clear z; go_at_call 35; refine (WDS.out _).mono ?_; rintro e w3 ⟨v3, rfl, k1, k2⟩; have R3 := hid (R2.out.on k2); have WR3 := hid k1; have B3 : Hid (Below B w w3) := B2.out.trans (k2.mono (by have := R2.out.base; have := (Array.getElem?_eq_some_iff.1 R2.out.box).1; omega)); clear k1 k2)
        | (go_at_call 33; refine CUT.out.mono ?_; rintro e w2 ⟨⟨a2, b2, rfl⟩, k2⟩; have R2 := hid (R.out.on k2); have B2 : Hid (Below B w w2) := BB.out.trans (k2.mono (by have := R.out.base; omega)); clear k2))
      obtain ⟨f2, g1, g2, g3, g4⟩ := NXT.out
      refine ⟨⟨p + (l.length + 1), s2, x4, f2, by simp, R4.out, B4.out, g4, g1, g2, g3⟩, ?_⟩
      show text.length + 1 - ((p : Int) + ((l.length : Int) + 1)).toNat < text.length + 1 - (p : Int).toNat
      omega
    · have eF : s' = FL := by rw [← LL.out, linesF_end T text f p s' hgo]
      subst eF
      have RC := hid (refuse_any B b text s' x' 140 text.length WW R.out (Nat.le_refl _) (by decide))
      have MODE := hid R.out.mode
      by_cases hgp : p < text.length
      · have hff : s'.fault ≠ none := fun e => hgo ⟨hgp, e⟩
        have hfc : fcode s'.fault ≠ 0 := by
          cases hq : s'.fault with
          | none => exact absurd hq hff
          | some z => exact FLT.out z hq
        have e1 : (fcode s'.fault == 0) = false := by simpa using hfc
        have e1' : decide (fcode s'.fault = 0) = false := by simpa using hfc
        have hpl : ((p : Int) < (text.length : Int)) := by omega
        rcases MODE.out with ⟨hm, hrm⟩ | ⟨hm, m, n, D, hrm, _⟩
        · have eR : Hid (readLinesF T text s = s') := by show _ = _; rw [RLF.out, if_neg (by omega)]
          rw [hrm] at q1
          have nq := neq71_nil WW
          clear hgo hff hfc hrm q2 q3 q4 q5 q6 q7 q8 q9 q10 q11 q13 q14 LL UU FLT RC MODE RLF hm
          go_wp2
          first | go_end0 | refine bodyPost_end (results_none rfl _ _ _) rfl ?_
          rw [eR.out]
          exact ⟨⟨_, rfl⟩, ⟨_, R.out⟩, BB.out⟩
        · have eR : Hid (readLinesF T text s = refuse s' 140 text.length) := by show _ = _; rw [RLF.out, if_pos hm]
          rw [hrm] at q1
          have nq := neq71_some m WW
          clear hgo hff hfc hrm q2 q3 q4 q5 q6 q7 q8 q9 q10 q11 q13 q14 LL UU FLT MODE RLF hm
          go_wp2_with (go_at_call 36; refine RC.out.mono ?_; rintro e w4 ⟨⟨yy, rfl⟩, k1, k2, k3⟩; have K := hid (And.intro k1 (BB.out.trans k2)); clear k1 k2 k3)
          first | go_end0 | refine bodyPost_end (results_none rfl _ _ _) rfl ?_
          rw [eR.out]
          exact ⟨⟨_, rfl⟩, ⟨_, K.out.1⟩, K.out.2⟩
      · have hpl : ¬((p : Int) < (text.length : Int)) := by omega
        rcases MODE.out with ⟨hm, hrm⟩ | ⟨hm, m, n, D, hrm, _⟩
        · have eR : Hid (readLinesF T text s = s') := by show _ = _; rw [RLF.out, if_neg (by omega)]
          rw [hrm] at q1
          have nq := neq71_nil WW
          clear hgo hrm q2 q3 q4 q5 q6 q7 q8 q9 q10 q11 q13 q14 LL UU FLT RC MODE RLF hm
          go_wp2
          first | go_end0 | refine bodyPost_end (results_none rfl _ _ _) rfl ?_
          rw [eR.out]
          exact ⟨⟨_, rfl⟩, ⟨_, R.out⟩, BB.out⟩
        · have eR : Hid (readLinesF T text s = refuse s' 140 text.length) := by show _ = _; rw [RLF.out, if_pos hm]
          rw [hrm] at q1
          have nq := neq71_some m WW
          clear hgo hrm q2 q3 q4 q5 q6 q7 q8 q9 q10 q11 q13 q14 LL UU FLT MODE RLF hm
          go_wp2_with (go_at_call 36; refine RC.out.mono ?_; rintro e w4 ⟨⟨yy, rfl⟩, k1, k2, k3⟩; have K := hid (And.intro k1 (BB.out.trans k2)); clear k1 k2 k3)
          first | go_end0 | refine bodyPost_end (results_none rfl _ _ _) rfl ?_
          rw [eR.out]
          exact ⟨⟨_, rfl⟩, ⟨_, K.out.1⟩, K.out.2⟩
end Go.Proofs.YtfmmmhcpdinhgabDoor
/-
  A text's words with their places, byte by byte. Pure.
-/
namespace PureRd
set_option maxRecDepth 100000
/-- a word that may be, up to i. -/
def flO (i : Nat) (cur : List UInt8) : List Wd := if cur = [] then [] else [(cur, i - cur.length)]
def emitO (ws : List Wd) : List (List Wd) := if ws = [] then [] else [ws]
theorem flO_nil (i : Nat) : flO i [] = [] := rfl
theorem flO_some {i : Nat} {w : List UInt8} (h : w ≠ []) : flO i w = [(w, i - w.length)] := if_neg h
theorem emitO_some {w : List Wd} (h : w ≠ []) : emitO w = [w] := if_neg h
/-- the words of a line without remark. -/
def wspO : Nat → List UInt8 → List UInt8 → List Wd
  | i, cur, [] => flO i cur
  | i, cur, c :: r => if blankB c then flO i cur ++ wspO (i + 1) [] r else wspO (i + 1) (cur ++ [c]) r
theorem wspO_word : ∀ (w cur r : List UInt8) (i : Nat), (∀ c ∈ w, blankB c = false) → wspO i cur (w ++ r) = wspO (i + w.length) (cur ++ w) r
  | [], cur, r, i, _ => by simp
  | c :: w, cur, r, i, h => by
    rw [List.cons_append, wspO, if_neg (by rw [h c (by simp)]; decide), wspO_word w _ r _ (fun x hx => h x (by simp [hx]))]
    simp only [List.append_assoc, List.cons_append, List.nil_append, List.length_cons]
    congr 1
    omega
theorem wspO_drop : ∀ (r : List UInt8) (i : Nat), wspO (i + (r.length - (r.dropWhile blankB).length)) [] (r.dropWhile blankB) = wspO i [] r
  | [], i => rfl
  | c :: r, i => by
    by_cases h : blankB c = true
    · rw [List.dropWhile_cons_of_pos h, wspO, if_pos h, flO_nil, List.nil_append, ← wspO_drop r (i + 1)]
      have h1 := drop_len r blankB
      congr 1
      simp only [List.length_cons]
      omega
    · rw [List.dropWhile_cons_of_neg h, Nat.sub_self, Nat.add_zero]
theorem wspO_break (cur : List UInt8) (i : Nat) : ∀ (r : List UInt8), (∀ a, r.head? = some a → blankB a = true) → wspO i cur r = flO i cur ++ wspO i [] r
  | [], _ => by simp [wspO, flO]
  | c :: r, h => by
    have hb := h c rfl
    rw [wspO, if_pos hb, wspO, if_pos hb]
    rfl
theorem takeO_all (r : List UInt8) : ∀ c ∈ r.takeWhile (fun c => !blankB c), blankB c = false := by
  induction r with
  | nil => simp
  | cons a t ih =>
    intro c hc
    by_cases h : blankB a = true
    · rw [List.takeWhile_cons_of_neg (by simp [h])] at hc
      simp at hc
    · rw [List.takeWhile_cons_of_pos (by simpa using h)] at hc
      rcases List.mem_cons.1 hc with rfl | hc
      · simpa using h
      · exact ih c hc
theorem dropO_head (r : List UInt8) : ∀ a, (r.drop (r.takeWhile (fun c => !blankB c)).length).head? = some a → blankB a = true := by
  induction r with
  | nil => simp
  | cons b t ih =>
    intro a ha
    by_cases h : blankB b = true
    · rw [List.takeWhile_cons_of_neg (by simp [h])] at ha
      simp at ha
      rw [← ha]
      exact h
    · rw [List.takeWhile_cons_of_pos (by simpa using h)] at ha
      simp only [List.length_cons, List.drop_succ_cons] at ha
      exact ih a ha
theorem wr_wspO (p n : Nat) : ∀ (f : Nat) (r : List UInt8), r.length < f → r.length ≤ n → (∀ a, r.head? = some a → blankB a = false) → wr p n f r = wspO (p + (n - r.length)) [] r
  | 0, _, h, _, _ => by omega
  | f + 1, [], _, _, _ => rfl
  | f + 1, a :: t, h, hn, hh => by
    have ha := hh a rfl
    rw [wr, if_neg (by simp)]
    have e0 : (a :: t) = (a :: t).takeWhile (fun c => !blankB c) ++ (a :: t).drop ((a :: t).takeWhile (fun c => !blankB c)).length := by
      have h1 := (List.takeWhile_prefix (fun c => !blankB c) (l := a :: t))
      obtain ⟨s, hs⟩ := h1
      conv => lhs; rw [← hs]
      have : (a :: t).drop ((a :: t).takeWhile (fun c => !blankB c)).length = s := by
        conv => lhs; arg 2; rw [← hs]
        rw [List.drop_left]
      rw [this]
    have hne : (a :: t).takeWhile (fun c => !blankB c) ≠ [] := by
      rw [List.takeWhile_cons_of_pos (by simp [ha])]
      simp
    have hall := takeO_all (a :: t)
    have hhd := dropO_head (a :: t)
    have hlen := congrArg List.length e0
    generalize hw : (a :: t).takeWhile (fun c => !blankB c) = w at *
    generalize hr : (a :: t).drop w.length = r' at *
    have h2 := drop_len r' blankB
    have h3 : 0 < w.length := List.length_pos_iff.2 hne
    rw [List.length_append] at hlen
    rw [wr_wspO p n f _ (by omega) (by omega) (fun b hb => by
      have := List.head?_dropWhile_not blankB r'
      rw [hb] at this
      simpa using this)]
    conv => rhs; rw [e0]
    rw [wspO_word w [] r' _ hall, List.nil_append, wspO_break w _ r' hhd, flO_some hne, ← wspO_drop r' (p + (n - (w ++ r').length) + w.length), List.length_append, ← hlen]
    simp only [List.cons_append, List.nil_append]
    have e1 : p + (n - (a :: t).length) + w.length - w.length = p + (n - (a :: t).length) := by omega
    have e2 : p + (n - (a :: t).length) + w.length + (r'.length - (r'.dropWhile blankB).length) = p + (n - (r'.dropWhile blankB).length) := by omega
    rw [e1, e2]
theorem words_wspO (l : List UInt8) (p : Nat) : wordsOf l p = wspO p [] (cutHash l) := by
  unfold wordsOf
  rw [wr_wspO _ _ _ _ (by have := drop_len (cutHash l) blankB; omega) (drop_len _ _) (fun a ha => by
    have := List.head?_dropWhile_not blankB (cutHash l)
    rw [ha] at this
    simpa using this)]
  exact wspO_drop (cutHash l) p
/-- the lines' words, byte by byte: in a remark or not, the place, the words of this line so far, the word so far. Lines without words are left out. -/
def scanO : Bool → Nat → List Wd → List UInt8 → List UInt8 → List (List Wd)
  | _, i, ws, cur, [] => emitO (ws ++ flO i cur)
  | rem, i, ws, cur, c :: r =>
    if c = 10 then emitO (ws ++ flO i cur) ++ scanO false (i + 1) [] [] r
    else if rem = true then scanO true (i + 1) ws cur r
    else if c = 35 then scanO true (i + 1) (ws ++ flO i cur) [] r
    else if blankB c = true then scanO false (i + 1) (ws ++ flO i cur) [] r
    else scanO false (i + 1) ws (cur ++ [c]) r
theorem cutLineO_ne {c : UInt8} {r : List UInt8} (h : c ≠ 10) : cutLine (c :: r) = c :: cutLine r := List.takeWhile_cons_of_pos (by simpa using h)
theorem cutLineO_nl (r : List UInt8) : cutLine (10 :: r) = [] := rfl
theorem cutHashO_ne {c : UInt8} {r : List UInt8} (h : c ≠ 35) : cutHash (c :: r) = c :: cutHash r := List.takeWhile_cons_of_pos (by simpa using h)
theorem cutHashO_hash (r : List UInt8) : cutHash (35 :: r) = [] := rfl
theorem scanO_end (i : Nat) : scanO false i [] [] [] = [] := rfl
theorem scanO_line : ∀ (t : List UInt8) (i : Nat), (∀ ws cur, scanO false i ws cur t = emitO (ws ++ wspO i cur (cutHash (cutLine t))) ++ scanO false (i + ((cutLine t).length + 1)) [] [] (t.drop ((cutLine t).length + 1))) ∧ (∀ ws, scanO true i ws [] t = emitO ws ++ scanO false (i + ((cutLine t).length + 1)) [] [] (t.drop ((cutLine t).length + 1)))
  | [], i => by
    constructor
    · intro ws cur
      simp [scanO, cutLine, cutHash, wspO, emitO, flO]
    · intro ws
      simp [scanO, emitO, flO]
  | c :: r, i => by
    obtain ⟨i1, i2⟩ := scanO_line r (i + 1)
    by_cases h : c = 10
    · subst h
      rw [cutLineO_nl]
      constructor
      · intro ws cur
        rw [scanO, if_pos rfl]
        rfl
      · intro ws
        rw [scanO, if_pos rfl, flO_nil, List.append_nil]
        rfl
    · rw [cutLineO_ne h]
      simp only [List.length_cons, List.drop_succ_cons]
      have e : i + ((cutLine r).length + 1 + 1) = i + 1 + ((cutLine r).length + 1) := by omega
      rw [e]
      constructor
      · intro ws cur
        rw [scanO, if_neg h, if_neg (by decide)]
        by_cases h35 : c = 35
        · subst h35
          rw [if_pos rfl, i2, cutHashO_hash, wspO]
        · rw [if_neg h35, cutHashO_ne h35, wspO]
          by_cases hb : blankB c = true
          · rw [if_pos hb, if_pos hb, i1, List.append_assoc]
          · rw [if_neg hb, if_neg hb, i1]
      · intro ws
        rw [scanO, if_neg h, if_pos rfl, i2]
end PureRd
/-
  Line by line is byte by byte; what a line is refused for, word by word. Pure.
-/
namespace Go.Proofs.YtfmmmhcpdinhgabDoor
open Go.RowKit Go.Deep PureNet PureRd ShfKit
set_option maxRecDepth 100000

/-- lines with words, one by one, up to a fault. -/
def foldL (T : Nat → List UInt8) : List (List Wd) → Rs → Rs
  | [], s => s
  | ws :: r, s => if s.fault = none then foldL T r (lineF T ws s) else s
theorem foldL_fault (T : Nat → List UInt8) (l : List (List Wd)) (s : Rs) (h : s.fault ≠ none) : foldL T l s = s := by
  cases l with
  | nil => rfl
  | cons ws r => rw [foldL, if_neg h]
theorem linesF_fold (T : Nat → List UInt8) (text : List UInt8) : ∀ (f p : Nat) (s : Rs), text.length - p < f → linesF T text f p s = foldL T (scanO false p [] [] (text.drop p)) s
  | 0, p, s, h => by omega
  | f + 1, p, s, h => by
    by_cases hp : p < text.length
    · by_cases hf : s.fault = none
      · rw [linesF, if_pos ⟨hp, hf⟩, linesF_fold T text f _ _ (by omega), (scanO_line (text.drop p) p).1 [] [], ← words_wspO, List.nil_append, List.drop_drop]
        generalize hw : wordsOf (cutLine (text.drop p)) p = ws
        cases ws with
        | nil => rfl
        | cons y t =>
          rw [emitO_some (by simp), List.cons_append, List.nil_append, foldL, if_pos hf]
      · rw [linesF, if_neg (fun h => hf h.2), foldL_fault T _ s hf]
    · rw [linesF, if_neg (fun h => hp h.1), List.drop_eq_nil_of_le (by omega), scanO_end]
      rfl
/-- all lines of a text, in order, each with its words. -/
def linesO (text : List UInt8) : List (List Wd) := scanO false 0 [] [] text
theorem read_fold (T : Nat → List UInt8) (text : List UInt8) (s : Rs) : readLinesF T text s = if (foldL T (linesO text) s).mode < 2 then refuse (foldL T (linesO text) s) 140 text.length else foldL T (linesO text) s := by
  unfold readLinesF
  rw [linesF_fold T text _ 0 s (by omega)]
  rfl

/-! ### a fault stays -/
section
variable {p : Int × Nat} {s : Rs}
theorem refuse_set (h : s.fault = none) (c : Int) (a : Nat) : refuse s c a = { s with fault := some (c, a) } := by simp [refuse, h]
theorem refuse_stays (h : s.fault = some p) (c : Int) (a : Nat) : refuse s c a = s := by simp [refuse, h]
theorem take_stays (h : s.fault = some p) : (take s).2.fault = some p := by
  unfold take
  split
  · rw [refuse_stays h]; exact h
  · exact h
theorem name_stays (h : s.fault = some p) : (PureRd.name nameL s).2.fault = some p := by
  unfold PureRd.name
  dsimp only
  split
  · exact take_stays h
  · rw [refuse_stays (take_stays h)]; exact take_stays h
theorem namesOf_stays (h : s.fault = some p) : ∀ n, (PureRd.namesOf nameL n s).2.fault = some p
  | 0 => h
  | n + 1 => by
    rw [PureRd.namesOf]
    exact name_stays (namesOf_stays h n)
theorem op_stays (h : s.fault = some p) (F : List UInt8 → Int) : (PureRd.op F s).2.fault = some p := by
  unfold PureRd.op
  dsimp only
  split
  · rw [refuse_stays (take_stays h)]; exact take_stays h
  · exact take_stays h
theorem withOp_stays (h : s.fault = some p) (F : List UInt8 → Int) : (PureRd.withOp F s).fault = some p := op_stays h F
theorem withUses_stays (h : s.fault = some p) (n : Nat) : (PureRd.withUses nameL n s).fault = some p := namesOf_stays h n
theorem shut_stays (h : s.fault = some p) : (shut s).fault = some p := by
  unfold shut
  split
  · exact h
  · rw [refuse_stays h]; exact h
end

theorem shut_like {a b : Rs} (hl : a.left = b.left) (hf : a.fault = b.fault) : (shut a).fault = (shut b).fault := by
  unfold shut
  rw [hl]
  split
  · exact hf
  · unfold refuse
    rw [hf]
    split
    · rfl
    · exact hf

/-! ### the words of a line -/
/-- what a line has told. -/
structure It where
  nm : List UInt8
  pos : Nat
  op : Int
  us : List Wd
/-- the words of a line by its form: 110 a new name, 111 an operator, 102 a first value, 117 a name that is used. -/
def chk (T : Nat → List UInt8) (s : Rs) : List UInt8 → Wd → List Wd → It → Option (Int × Nat) × It
  | [], _, t, it => ((t.head?).map (fun z => (140, z.2)), it)
  | _ :: _, last, [], it => (some (140, last.2 + last.1.length), it)
  | c :: cs, _, y :: t, it =>
    if c = 110 then (if nameL y.1 = true then (if (placeOf s y.1).isSome then (some (141, y.2), it) else chk T s cs y t { it with nm := y.1, pos := y.2 }) else (some (140, y.2), it))
    else if c = 111 then (if opF T y.1 = -1 then (some (140, y.2), it) else chk T s cs y t { it with op := opF T y.1 })
    else if c = 102 then (if fvF y.1 = -1 then (some (140, y.2), it) else chk T s cs y t { it with op := fvF y.1 })
    else (if nameL y.1 = true then chk T s cs y t { it with us := it.us ++ [y] } else (some (140, y.2), it))

theorem take_nil {s : Rs} (h : s.left = []) : PureRd.take s = (([], 0), refuse s 140 (s.last.2 + s.last.1.length)) := by unfold PureRd.take; rw [h]
theorem take_more {s : Rs} {y : Wd} {t : List Wd} (h : s.left = y :: t) : PureRd.take s = (y, { s with last := y, left := t }) := by unfold PureRd.take; rw [h]
theorem nameL_nil : nameL [] = false := rfl
theorem name_nil {s : Rs} (h : s.left = []) (hf : s.fault = none) : (PureRd.name nameL s).2.fault = some (140, s.last.2 + s.last.1.length) := by
  unfold PureRd.name
  dsimp only
  rw [take_nil h]
  simp only [nameL_nil]
  rw [refuse_set hf]
  rfl
theorem name_good {s : Rs} {y : Wd} {t : List Wd} (h : s.left = y :: t) (hn : nameL y.1 = true) : PureRd.name nameL s = (y, { s with last := y, left := t }) := by
  unfold PureRd.name
  rw [take_more h]
  simp [hn]
theorem name_bad {s : Rs} {y : Wd} {t : List Wd} (h : s.left = y :: t) (hn : nameL y.1 = false) (hf : s.fault = none) : (PureRd.name nameL s).2.fault = some (140, y.2) := by
  unfold PureRd.name
  dsimp only
  rw [take_more h]
  simp only [hn]
  rw [if_neg (by decide), refuse_set (by exact hf)]
theorem namesOf_front (nm : List UInt8 → Bool) : ∀ (n : Nat) (s : Rs), PureRd.namesOf nm (n + 1) s = ((PureRd.name nm s).1 :: (PureRd.namesOf nm n (PureRd.name nm s).2).1, (PureRd.namesOf nm n (PureRd.name nm s).2).2)
  | 0, s => rfl
  | n + 1, s => by
    rw [PureRd.namesOf, namesOf_front nm n s]
    rfl
theorem left_nil {s : Rs} (h : s.left = []) : s = { s with last := s.last, left := [] } := by
  cases s
  simp only at h
  subst h
  rfl
/-- names, one behind the other. -/
theorem uses_ok (T : Nat → List UInt8) (s0 : Rs) : ∀ (n : Nat) (s : Rs) (it jt : It), chk T s0 (List.replicate n 117) s.last s.left it = (none, jt) →
    ∃ us l, PureRd.namesOf nameL n s = (us, { s with last := l, left := [] }) ∧ jt = { it with us := it.us ++ us }
  | 0, s, it, jt, h => by
    simp only [List.replicate_zero, chk, Prod.mk.injEq, Option.map_eq_none_iff] at h
    obtain ⟨h1, h2⟩ := h
    have hl : s.left = [] := by simpa using h1
    refine ⟨[], s.last, ?_, by rw [← h2]; simp⟩
    rw [PureRd.namesOf, ← left_nil hl]
  | n + 1, s, it, jt, h => by
    rw [List.replicate_succ] at h
    cases hl : s.left with
    | nil => rw [hl, chk] at h; simp at h
    | cons y t =>
      rw [hl, chk, if_neg (by decide), if_neg (by decide), if_neg (by decide)] at h
      by_cases hn : nameL y.1 = true
      · rw [if_pos hn] at h
        obtain ⟨us, l, e1, e2⟩ := uses_ok T s0 n { s with last := y, left := t } _ jt h
        refine ⟨y :: us, l, ?_, by rw [e2]; simp⟩
        rw [namesOf_front, name_good hl hn, e1]
      · rw [if_neg hn] at h
        simp at h
theorem uses_no (T : Nat → List UInt8) (s0 : Rs) : ∀ (n : Nat) (s : Rs) (it jt : It) (p : Int × Nat), s.fault = none → chk T s0 (List.replicate n 117) s.last s.left it = (some p, jt) → (shut (PureRd.namesOf nameL n s).2).fault = some p
  | 0, s, it, jt, p, hf, h => by
    simp only [List.replicate_zero, chk, Prod.mk.injEq, Option.map_eq_some_iff] at h
    obtain ⟨⟨z, h1, h2⟩, _⟩ := h
    cases hl : s.left with
    | nil => rw [hl] at h1; simp at h1
    | cons y t =>
      rw [hl] at h1
      simp only [List.head?_cons, Option.some.injEq] at h1
      subst h1
      unfold shut
      rw [PureRd.namesOf]
      simp only [hl]
      rw [refuse_set hf, ← h2]
  | n + 1, s, it, jt, p, hf, h => by
    rw [List.replicate_succ] at h
    rw [namesOf_front]
    cases hl : s.left with
    | nil =>
      rw [hl, chk] at h
      simp only [Prod.mk.injEq, Option.some.injEq] at h
      rw [← h.1]
      exact shut_stays (namesOf_stays (name_nil hl hf) n)
    | cons y t =>
      rw [hl, chk, if_neg (by decide), if_neg (by decide), if_neg (by decide)] at h
      by_cases hn : nameL y.1 = true
      · rw [if_pos hn] at h
        rw [name_good hl hn]
        exact uses_no T s0 n { s with last := y, left := t } _ jt p hf h
      · rw [if_neg hn] at h
        simp only [Prod.mk.injEq, Option.some.injEq] at h
        rw [← h.1]
        exact shut_stays (namesOf_stays (name_bad hl (by simpa using hn) hf) n)

/-- a line of the circuit, begun. -/
def begun (k : Int) (s : Rs) (y : Wd) (t : List Wd) : Rs := { s with last := y, left := t, places := (y.1, s.names.length) :: s.places, names := s.names ++ [y.2], lines := s.lines ++ [⟨k, y.1, 0, []⟩] }
theorem begin_good {s : Rs} {y : Wd} {t : List Wd} (k : Int) (h : s.left = y :: t) (hn : nameL y.1 = true) (hm : s.names.length ≠ 65536) (hp : (placeOf s y.1).isSome = false) : PureRd.begin nameL k s = begun k s y t := by
  have hp' : (placeOf { s with last := y, left := t } y.1).isSome = false := hp
  unfold PureRd.begin
  simp only [if_neg hm, name_good h hn, hp']
  rfl
theorem begin_none {s : Rs} (k : Int) (h : s.left = []) (hf : s.fault = none) (hm : s.names.length ≠ 65536) : (PureRd.begin nameL k s).fault = some (140, s.last.2 + s.last.1.length) := by
  unfold PureRd.begin
  simp only [if_neg hm]
  have := name_nil h hf
  split
  · rw [refuse_stays this]; exact this
  · exact this
theorem begin_bad {s : Rs} {y : Wd} {t : List Wd} (k : Int) (h : s.left = y :: t) (hn : nameL y.1 = false) (hf : s.fault = none) (hm : s.names.length ≠ 65536) : (PureRd.begin nameL k s).fault = some (140, y.2) := by
  unfold PureRd.begin
  simp only [if_neg hm]
  have := name_bad h hn hf
  split
  · rw [refuse_stays this]; exact this
  · exact this
theorem begin_twice {s : Rs} {y : Wd} {t : List Wd} (k : Int) (h : s.left = y :: t) (hn : nameL y.1 = true) (hf : s.fault = none) (hm : s.names.length ≠ 65536) (hp : (placeOf s y.1).isSome = true) : (PureRd.begin nameL k s).fault = some (141, y.2) := by
  have hp' : (placeOf { s with last := y, left := t } y.1).isSome = true := hp
  unfold PureRd.begin
  simp only [if_neg hm, name_good h hn, hp', if_true]
  rw [refuse_set (by exact hf)]
theorem begin_many {s : Rs} (k : Int) (hf : s.fault = none) (hm : s.names.length = 65536) : (PureRd.begin nameL k s).fault = some (8, s.last.2) := by
  have h1 : (refuse s 8 s.last.2).fault = some (8, s.last.2) := by rw [refuse_set hf]
  have h2 := name_stays h1
  unfold PureRd.begin
  simp only [if_pos hm]
  split
  · rw [refuse_stays h2]; exact h2
  · exact h2
theorem op_none {s : Rs} (F : List UInt8 → Int) (h : s.left = []) (hf : s.fault = none) : (PureRd.op F s).2.fault = some (140, s.last.2 + s.last.1.length) := by
  have h1 : (refuse s 140 (s.last.2 + s.last.1.length)).fault = some (140, s.last.2 + s.last.1.length) := by rw [refuse_set hf]
  unfold PureRd.op
  dsimp only
  rw [take_nil h]
  split
  · rw [refuse_stays h1]; exact h1
  · exact h1
theorem op_good {s : Rs} {y : Wd} {t : List Wd} (F : List UInt8 → Int) (h : s.left = y :: t) (hF : F y.1 ≠ -1) : PureRd.op F s = (F y.1, { s with last := y, left := t }) := by
  unfold PureRd.op
  rw [take_more h]
  simp [hF]
theorem op_bad {s : Rs} {y : Wd} {t : List Wd} (F : List UInt8 → Int) (h : s.left = y :: t) (hF : F y.1 = -1) (hf : s.fault = none) : (PureRd.op F s).2.fault = some (140, y.2) := by
  unfold PureRd.op
  dsimp only
  rw [take_more h]
  simp only [hF, if_true]
  rw [refuse_set (by exact hf)]

/-- a line of the circuit, whole. -/
def added (k : Int) (s : Rs) (l : Wd) (it : It) : Rs := { s with last := l, left := [], places := (it.nm, s.names.length) :: s.places, names := s.names ++ [it.pos], lines := s.lines ++ [⟨k, it.nm, it.op, it.us⟩] }
def it0 : It := ⟨[], 0, 0, []⟩

/-- a name, then names. -/
theorem plain_chk (T : Nat → List UInt8) (k : Int) (n : Nat) (s : Rs) (hf : s.fault = none) (hm : s.names.length ≠ 65536) (r : Option (Int × Nat)) (jt : It) (h : chk T s (110 :: List.replicate n 117) s.last s.left it0 = (r, jt)) :
    (∀ p, r = some p → (shut (PureRd.withUses nameL n (PureRd.begin nameL k s))).fault = some p) ∧ (r = none → ∃ l, shut (PureRd.withUses nameL n (PureRd.begin nameL k s)) = added k s l jt) := by
  cases hl : s.left with
  | nil =>
    rw [hl, chk] at h
    simp only [Prod.mk.injEq] at h
    refine ⟨fun p hp => ?_, fun hn => by rw [hn] at h; simp at h⟩
    rw [← h.1, Option.some.injEq] at hp
    rw [← hp]
    exact shut_stays (withUses_stays (begin_none k hl hf hm) n)
  | cons y t =>
    rw [hl, chk, if_pos rfl] at h
    by_cases hn : nameL y.1 = true
    · rw [if_pos hn] at h
      by_cases hp : (placeOf s y.1).isSome = true
      · rw [if_pos hp] at h
        simp only [Prod.mk.injEq] at h
        refine ⟨fun p hq => ?_, fun hn => by rw [hn] at h; simp at h⟩
        rw [← h.1, Option.some.injEq] at hq
        rw [← hq]
        exact shut_stays (withUses_stays (begin_twice k hl hn hf hm hp) n)
      · have hp' : (placeOf s y.1).isSome = false := by simpa using hp
        rw [if_neg hp] at h
        rw [begin_good k hl hn hm hp']
        refine ⟨fun p hq => ?_, fun hr => ?_⟩
        · subst hq
          have := uses_no T s n (begun k s y t) { it0 with nm := y.1, pos := y.2 } jt p hf h
          rw [← this]
          exact shut_like rfl rfl
        · subst hr
          obtain ⟨us, l, e1, e2⟩ := uses_ok T s n (begun k s y t) { it0 with nm := y.1, pos := y.2 } jt h
          refine ⟨l, ?_⟩
          unfold PureRd.withUses
          rw [e1, mapLast_of (l0 := s.lines) (y := ⟨k, y.1, 0, []⟩) rfl, e2]
          rfl
    · rw [if_neg hn] at h
      simp only [Prod.mk.injEq] at h
      refine ⟨fun p hq => ?_, fun hn => by rw [hn] at h; simp at h⟩
      rw [← h.1, Option.some.injEq] at hq
      rw [← hq]
      exact shut_stays (withUses_stays (begin_bad k hl (by simpa using hn) hf hm) n)
/-- a name, an operator or a first value, then names. -/
theorem op_chk (T : Nat → List UInt8) (F : List UInt8 → Int) (c : UInt8) (hc : (c = 111 ∧ F = opF T) ∨ (c = 102 ∧ F = fvF)) (k : Int) (n : Nat) (s : Rs) (hf : s.fault = none) (hm : s.names.length ≠ 65536) (r : Option (Int × Nat)) (jt : It) (h : chk T s (110 :: c :: List.replicate n 117) s.last s.left it0 = (r, jt)) :
    (∀ p, r = some p → (shut (PureRd.withUses nameL n (PureRd.withOp F (PureRd.begin nameL k s)))).fault = some p) ∧ (r = none → ∃ l, shut (PureRd.withUses nameL n (PureRd.withOp F (PureRd.begin nameL k s))) = added k s l jt) := by
  have hstep : ∀ (y : Wd) (t : List Wd) (it : It) (last : Wd), chk T s (c :: List.replicate n 117) last (y :: t) it = if F y.1 = -1 then (some (140, y.2), it) else chk T s (List.replicate n 117) y t { it with op := F y.1 } := by
    intro y t it last
    rcases hc with ⟨rfl, rfl⟩ | ⟨rfl, rfl⟩
    · rw [chk, if_neg (by decide), if_pos rfl]
    · rw [chk, if_neg (by decide), if_neg (by decide), if_pos rfl]
  cases hl : s.left with
  | nil =>
    rw [hl, chk] at h
    simp only [Prod.mk.injEq] at h
    refine ⟨fun p hp => ?_, fun hn => by rw [hn] at h; simp at h⟩
    rw [← h.1, Option.some.injEq] at hp
    rw [← hp]
    exact shut_stays (withUses_stays (withOp_stays (begin_none k hl hf hm) F) n)
  | cons y t =>
    rw [hl, chk, if_pos rfl] at h
    by_cases hn : nameL y.1 = true
    · rw [if_pos hn] at h
      by_cases hp : (placeOf s y.1).isSome = true
      · rw [if_pos hp] at h
        simp only [Prod.mk.injEq] at h
        refine ⟨fun p hq => ?_, fun hn => by rw [hn] at h; simp at h⟩
        rw [← h.1, Option.some.injEq] at hq
        rw [← hq]
        exact shut_stays (withUses_stays (withOp_stays (begin_twice k hl hn hf hm hp) F) n)
      · have hp' : (placeOf s y.1).isSome = false := by simpa using hp
        rw [if_neg hp] at h
        rw [begin_good k hl hn hm hp']
        cases ht : t with
        | nil =>
          rw [ht, chk] at h
          simp only [Prod.mk.injEq] at h
          refine ⟨fun p hq => ?_, fun hn => by rw [hn] at h; simp at h⟩
          rw [← h.1, Option.some.injEq] at hq
          rw [← hq]
          exact shut_stays (withUses_stays (s := PureRd.withOp F (begun k s y [])) (op_none F (s := begun k s y []) rfl hf) n)
        | cons z u =>
          rw [ht, hstep] at h
          by_cases hF : F z.1 = -1
          · rw [if_pos hF] at h
            simp only [Prod.mk.injEq] at h
            refine ⟨fun p hq => ?_, fun hn => by rw [hn] at h; simp at h⟩
            rw [← h.1, Option.some.injEq] at hq
            rw [← hq]
            exact shut_stays (withUses_stays (s := PureRd.withOp F (begun k s y (z :: u))) (op_bad F (s := begun k s y (z :: u)) rfl hF hf) n)
          · rw [if_neg hF] at h
            have e0 : PureRd.withOp F (begun k s y (z :: u)) = { (begun k s y (z :: u)) with last := z, left := u, lines := s.lines ++ [⟨k, y.1, F z.1, []⟩] } := by
              unfold PureRd.withOp
              rw [op_good F (s := begun k s y (z :: u)) rfl hF, mapLast_of (l0 := s.lines) (y := ⟨k, y.1, 0, []⟩) rfl]
            rw [e0]
            refine ⟨fun p hq => ?_, fun hr => ?_⟩
            · subst hq
              have := uses_no T s n { (begun k s y (z :: u)) with last := z, left := u, lines := s.lines ++ [⟨k, y.1, F z.1, []⟩] } { it0 with nm := y.1, pos := y.2, op := F z.1 } jt p hf h
              rw [← this]
              exact shut_like rfl rfl
            · subst hr
              obtain ⟨us, l, e1, e2⟩ := uses_ok T s n { (begun k s y (z :: u)) with last := z, left := u, lines := s.lines ++ [⟨k, y.1, F z.1, []⟩] } { it0 with nm := y.1, pos := y.2, op := F z.1 } jt h
              refine ⟨l, ?_⟩
              unfold PureRd.withUses
              rw [e1, mapLast_of (l0 := s.lines) (y := ⟨k, y.1, F z.1, []⟩) rfl, e2]
              rfl
    · rw [if_neg hn] at h
      simp only [Prod.mk.injEq] at h
      refine ⟨fun p hq => ?_, fun hn => by rw [hn] at h; simp at h⟩
      rw [← h.1, Option.some.injEq] at hq
      rw [← hq]
      exact shut_stays (withUses_stays (withOp_stays (begin_bad k hl (by simpa using hn) hf hm) F) n)
/-- an output. -/
def outed (s : Rs) (l : Wd) (it : It) : Rs := { s with last := l, left := [], outs := s.outs + 1, lines := s.lines ++ [⟨0, [], 0, it.us⟩] }
theorem out_chk (T : Nat → List UInt8) (s : Rs) (hf : s.fault = none) (hm : s.outs ≠ 65536) (r : Option (Int × Nat)) (jt : It) (h : chk T s [117] s.last s.left it0 = (r, jt)) :
    (∀ p, r = some p → (shut (PureRd.output nameL s)).fault = some p) ∧ (r = none → ∃ l, shut (PureRd.output nameL s) = outed s l jt) := by
  unfold PureRd.output
  simp only [if_neg hm]
  refine ⟨fun p hq => ?_, fun hr => ?_⟩
  · subst hq
    have := uses_no T s 1 { s with outs := s.outs + 1 } it0 jt p hf h
    rw [← this]
    exact shut_like rfl rfl
  · subst hr
    obtain ⟨us, l, e1, e2⟩ := uses_ok T s 1 { s with outs := s.outs + 1 } it0 jt h
    refine ⟨l, ?_⟩
    rw [e1, e2]
    rfl
theorem out_many {s : Rs} (hf : s.fault = none) (hm : s.outs = 65536) : (shut (PureRd.output nameL s)).fault = some (8, s.last.2) := by
  have h1 : (refuse s 8 s.last.2).fault = some (8, s.last.2) := by rw [refuse_set hf]
  refine shut_stays ?_
  unfold PureRd.output
  simp only [if_pos hm]
  exact namesOf_stays (s := { (refuse s 8 s.last.2) with outs := (refuse s 8 s.last.2).outs + 1 }) h1 1
end Go.Proofs.YtfmmmhcpdinhgabDoor
