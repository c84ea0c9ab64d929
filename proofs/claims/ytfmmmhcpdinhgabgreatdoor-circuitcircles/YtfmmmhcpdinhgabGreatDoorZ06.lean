import Derived.Test.YtfmmmhcpdinhgabGreatDoorZ05
/-
  A line is read.
-/
namespace Go.Proofs.YtfmmmhcpdinhgabGreatDoor
open Go.RowKit Go.Deep PureNet PureRd ShfKit Go.Maps Go.WideShapes
set_option maxRecDepth 100000

/-- what a step does. -/
def stepF (T : Nat → List UInt8) (f : Nat) (s : Rs) : Rs :=
  if f = 32 then headed nameL s else if f = 50 then PureRd.begin nameL 1 s else if f = 51 then withUses nameL 2 (withOp (opF T) (PureRd.begin nameL 2 s))
  else if f = 52 then withUses nameL 3 (PureRd.begin nameL 4 s) else if f = 53 then withUses nameL 1 (withOp fvF (PureRd.begin nameL 3 s)) else if f = 54 then PureRd.output nameL s else ended s
def shut (s : Rs) : Rs :=
  match s.left with
  | [] => s
  | y :: _ => refuse s 140 y.2
/-- a line. -/
def lineF (T : Nat → List UInt8) (ws : List Wd) (s : Rs) : Rs :=
  match ws with
  | [] => s
  | y :: t =>
    match fnOf s.mode y.1 with
    | none => refuse { s with last := y, left := t } 140 y.2
    | some f => shut (stepF T f { s with last := y, left := t })
theorem fn_cases {mode : Nat} {k : List UInt8} {f : Nat} (h : fnOf mode k = some f) : f = 32 ∨ f = 50 ∨ f = 51 ∨ f = 52 ∨ f = 53 ∨ f = 54 ∨ f = 55 := by
  unfold fnOf at h
  repeat' split at h
  all_goals first | cases h | skip
  all_goals simp_all
/-- few. -/
structure Few (s : Rs) : Prop where
  names : s.names.length ≤ 2097152
  lines : s.lines.length ≤ 2097152
  places : s.places.length ≤ 2097152
  outs : s.outs ≤ 2097152
theorem fn_any (T : Nat → List UInt8) (B b : Nat) (text : List UInt8) (s : Rs) (x : Bx) (w : World) (h : Rt w B b text s x) (hf : Few s) (hops : OpsT w T) (hB2 : 2 < B) {mode : Nat} {k : List UInt8} {f : Nat} (hfn : fnOf mode k = some f) :
    Calls Tryz.prog f #[.pointer (some ⟨b, 0, none⟩)] w fun e w' => (∃ v, e = .returned v) ∧ (∃ x', Rt w' B b text (stepF T f s) x') ∧ Below B w w' := by
  have hc := And.intro hf.names (And.intro hf.lines hf.places)
  rcases fn_cases hfn with rfl | rfl | rfl | rfl | rfl | rfl | rfl
  · exact (head_any B b text s x w h).mono fun e w' ⟨a, ⟨x', c, _⟩, d⟩ => ⟨a, ⟨x', c⟩, d⟩
  · exact (input_any B b text s x w h hc).mono fun e w' ⟨a, ⟨x', c, _⟩, d⟩ => ⟨a, ⟨x', c⟩, d⟩
  · exact (gate_any T B b text s x w h hc hops hB2).mono fun e w' ⟨a, ⟨x', c, _⟩, d⟩ => ⟨a, ⟨x', c⟩, d⟩
  · exact (mux_any B b text s x w h hc).mono fun e w' ⟨a, ⟨x', c, _⟩, d⟩ => ⟨a, ⟨x', c⟩, d⟩
  · exact (latch_any B b text s x w h hc).mono fun e w' ⟨a, ⟨x', c, _⟩, d⟩ => ⟨a, ⟨x', c⟩, d⟩
  · exact (output_any B b text s x w h ⟨hf.outs, hf.lines⟩).mono fun e w' ⟨a, ⟨x', c, _⟩, d⟩ => ⟨a, ⟨x', c⟩, d⟩
  · exact (end_any B b text s x w h).mono fun e w' ⟨a, ⟨x', c, _⟩, d⟩ => ⟨a, ⟨x', c⟩, d⟩

theorem zero69 (W : World) : (zeroValue 69).run Tryz.prog W = .ok .nilFunc W := Tryz.zeroValue69 W
theorem rfn_inv {v : Value} {f : Nat} {ps : List MemPlace} (h : rfn v = some (.lit (.int .i64 (f : Int)), ps)) : v = .func (.func f) #[] #[] := by
  cases v
  all_goals try (change none = _ at h; cases h; done)
  case nilFunc =>
    change some (DataW.lit (.int .i64 (-1)), []) = _ at h
    simp only [Option.some.injEq, Prod.mk.injEq, DataW.lit.injEq, Lit.int.injEq] at h
    have := h.1.2
    omega
  case func fn a b =>
    cases fn
    all_goals try (change none = _ at h; cases h; done)
    rename_i g
    obtain ⟨la⟩ := a
    obtain ⟨lb⟩ := b
    cases la with
    | cons _ _ => change none = _ at h; cases h
    | nil =>
      cases lb with
      | cons _ _ => change none = _ at h; cases h
      | nil =>
        change some (DataW.lit (.int .i64 (g : Int)), []) = _ at h
        simp only [Option.some.injEq, Prod.mk.injEq, DataW.lit.injEq, Lit.int.injEq] at h
        have e : g = f := Int.ofNat.inj h.1.2
        rw [e]
/-- what a look-up of a first word finds. -/
theorem RM.look {W : World} {rm : Value} {mode : Nat} (h : RM W rm mode) (k : List UInt8) (hk : k.length ≤ 1048576) : ∃ v, (Instr.lookup 71 rm (str k) true).run Tryz.prog W = .ok (.tuple #[v, .bool (fnOf mode k).isSome]) W ∧ ∀ f, fnOf mode k = some f → v = .func (.func f) #[] #[] := by
  have hk2 := WideMaps.keyOf_string_mk (P := Tryz.prog) (s := ⟨k.toArray⟩) Tryz.underlying9 (by show k.toArray.size ≤ _; unfold maxLen; simp; omega)
  rcases h with ⟨hm, rfl⟩ | ⟨hm, m, n, D, rfl, ho, hv⟩
  · have e : fnOf mode k = none := by unfold fnOf; rw [if_neg (by omega), if_neg (by omega)]
    rw [e]
    exact ⟨.nilFunc, by simpa using Maps.look_nil (w := W) true (string_keyed Tryz.underlying9) Tryz.underlying71 (zero69 W) hk2, fun f hf => by cases hf⟩
  · obtain ⟨v, ps, hrun, hr⟩ := ho.look_ok (string_keyed Tryz.underlying9) Tryz.underlying71 (zero69 W) (show rfn .nilFunc = _ from rfl) hk2
    refine ⟨v, ?_, fun f hf => ?_⟩
    · rw [hrun]
      have := (hv k).1
      simp only at this ⊢
      rw [this]
    · have := (hv k).2 f (.lit (.int .i64 (-1))) hf
      simp only at hr
      rw [this] at hr
      exact rfn_inv hr
theorem WRow.up {W : World} {M M' : Nat} {v : Value} {ws : List Wd} (h : WRow W M v ws) (hM : M ≤ M') : WRow W M' v ws := by
  obtain ⟨sa, c, hv, hc, hr⟩ := h
  refine ⟨sa, c, hv, hc, fun h0 => ?_⟩
  obtain ⟨g, o, cur, fz, e, hgM, hg, hx⟩ := hr h0
  exact ⟨g, o, cur, fz, e, by omega, hg, hx⟩
/-- a line's words are laid before the reader. -/
theorem Rt.lay {W : World} {B b : Nat} {text : List UInt8} {s : Rs} {x : Bx} {lv : Value} {ws : List Wd} (h : Rt W B b text s x) (hw : WRow W W.heap.size lv ws) (hin : ∀ y ∈ ws, InT text.length y) : Rt (W.setCell ⟨b, 2, none⟩ lv) B b text { s with left := ws } { x with lf := lv, mx := W.heap.size } := by
  have ho : Oth 77 (some b) W (W.setCell ⟨b, 2, none⟩ lv) := oth_set
  have hb : ∀ k c fz, some b = some k → W.heap[k]? ≠ some (.cells c 74 fz) := fun k c fz e h2 => by
    obtain rfl := Option.some.inj e
    rw [h.box] at h2
    simp only [Option.some.injEq, Obj.cells.injEq] at h2
    exact absurd h2.2.1 (by decide)
  obtain ⟨h1, h2, h3, h4, h5, h6⟩ := h.beside ho
  exact ⟨h.base, by rw [row_set h.box]; rfl, h1, hw.kept ho (by decide) hb, h3, h.many, fun i l u hl hu => (h4 i l u hl hu).up h.mxl, h5, h6, h.small, hin, h.inla, h.inn, h.inu, h.few, h.fewL, h.fewN, h.fewO, h.flt, by simp, h.two, h.pmB⟩

set_option maxHeartbeats 4000000 in
theorem line_any (T : Nat → List UInt8) (B b : Nat) (text : List UInt8) (s : Rs) (x : Bx) (lv : Value) (ws : List Wd) (w : World) (h : Rt w B b text s x) (hf : Few s) (hops : OpsT w T) (hB2 : 2 < B) (hw : WRow w w.heap.size lv ws) (hin : ∀ y ∈ ws, InT text.length y) :
    Calls Tryz.prog 57 #[.pointer (some ⟨b, 0, none⟩), lv] w fun e w' => (∃ v, e = .returned v) ∧ (∃ x', Rt w' B b text (lineF T ws s) x') ∧ Below B w w' := by
  obtain ⟨sa, c, hlv, hcl, hrow⟩ := id hw
  cases ws with
  | nil =>
    have FIN : Hid ((∃ x', Rt w B b text (lineF T [] s) x') ∧ Below B w w) := ⟨⟨x, h⟩, Below.refl _ _⟩
    subst hlv
    clear h hf hops hrow hw hin
    go_enter Tryz.func57, Tryz.ntmps57
    go_wp2
    first | go_ret | refine bodyPost_ret (results_none rfl _ _ _) rfl ?_
    exact ⟨⟨_, rfl⟩, FIN.out⟩
  | cons y t =>
    have hR0 := h.lay hw hin
    obtain ⟨s0, hs0⟩ : ∃ s0, s0 = { s with left := y :: t } := ⟨_, rfl⟩
    obtain ⟨x0, hx0⟩ : ∃ x0, x0 = { x with lf := lv, mx := w.heap.size } := ⟨_, rfl⟩
    obtain ⟨w0, hw0⟩ : ∃ w0, w0 = w.setCell ⟨b, 2, none⟩ lv := ⟨_, rfl⟩
    rw [← hs0, ← hx0, ← hw0] at hR0
    obtain ⟨s1, hs1⟩ : ∃ s1, s1 = { s with last := y, left := t } := ⟨_, rfl⟩
    have et : take s0 = (y, s1) := by rw [hs0, hs1]; rfl
    have TK := hid (take_any B b text s0 x0 w0 hR0)
    rw [et] at TK
    have hB := h.base
    have hbw := (Array.getElem?_eq_some_iff.1 h.box).1
    have b0 : Below B w w0 := by rw [hw0]; exact (Below.refl _ _).setCell (p := ⟨b, 2, none⟩) h.base _
    have hsm := h.small
    have hiy : y.2 + y.1.length ≤ text.length := hin y (by simp)
    have hf1 : Few s1 := by rw [hs1]; exact ⟨hf.names, hf.lines, hf.places, hf.outs⟩
    have hm1 : s1.mode = s.mode := by rw [hs1]
    have LF : Hid (lineF T (y :: t) s = match fnOf s1.mode y.1 with | none => refuse s1 140 y.2 | some f => shut (stepF T f s1)) := by show _ = _; rw [hs1]; rfl
    obtain ⟨q0, q1, q2, q3, q4, q5, q6, q7, q8, q9, q10, q11, q12, q13, q14, hbl, hfz⟩ := box_cells h.box
    have f2 := hfz 2
    have HOP := hid hops
    have MID : Hid (∀ w1 lf, Rt w1 B b text s1 { x0 with lf := lf } → Below B w0 w1 → ∀ w2, w2 = w1.alloc (.cells #[str y.1, .int .i64 (y.2 : Int)] 74) →
        Rt w2.drew B b text s1 { x0 with lf := lf } ∧ Below B w w2.drew ∧ w2.heap[w1.heap.size]? = some (.cells #[str y.1, .int .i64 (y.2 : Int)] 74 (0, 0)) ∧ w2.cell? ⟨b, 1, none⟩ = some x0.rm ∧ b < w2.heap.size ∧ ∃ v, (Instr.lookup 71 x0.rm (str y.1) true).run Tryz.prog w2.drew = .ok (.tuple #[v, .bool (fnOf s1.mode y.1).isSome]) w2.drew ∧ ∀ f, fnOf s1.mode y.1 = some f → v = .func (.func f) #[] #[]) := fun w1 lf hR hb w2 h2 => by
      have b12 : Below w1.heap.size w1 w2 := by rw [h2]; exact (Below.refl _ _).alloc (Nat.le_refl _) _
      have hs := hb.size
      have hs0 := b0.size
      have h2R := hR.on b12
      have h2D := h2R.on (Below.refl w2.heap.size w2).drew
      obtain ⟨v, hv1, hv2⟩ := h2D.mode.look y.1 (by omega)
      exact ⟨h2D, (b0.trans (hb.trans (b12.mono (by have := (Array.getElem?_eq_some_iff.1 hR.box).1; omega)))).drew, by rw [h2]; exact heap_alloc_new w1 _, cell_row h2R.box 1, (Array.getElem?_eq_some_iff.1 h2R.box).1, v, hv1, hv2⟩
    have HW0 := hid hw0
    have HF1 := hid hf1
    have hz : (((t.length + 1 : Nat) : Int) == 0) = false := by simp; omega
    have hz2 : ((t.length : Int) + 1 == 0) = false := by simp; omega
    rw [List.length_cons] at hlv
    subst hlv
    have mixed := Tryz.lays161.mixed
    clear h hf hops hrow hw hin hR0 hs0 hx0 hw0 hs1 et b0 hf1 hm1 q0 q1 q3 q4 q5 q6 q7 q8 q9 q10 q11 q12 q13 q14 hfz
    go_enter Tryz.func57, Tryz.ntmps57
    go_upto_region 3 with (first
      | (have q := HW2; clear q; rw [← HW2.out]; clear HW2)
      | (rw [← HW0.out]; clear HW0)
      | (go_at_call 75; refine TK.out.mono ?_; rintro e w1 ⟨rfl, ⟨lf, r1⟩, b1, o1⟩; obtain ⟨w2, hw2⟩ : ∃ w2, w2 = w1.alloc (.cells #[str y.1, .int .i64 (y.2 : Int)] 74) := ⟨_, rfl⟩; obtain ⟨r2, b2, n2, c1, lb, v, l2, hv⟩ := MID.out w1 lf r1 b1 w2 hw2; have HW2 := hid hw2; have R2 := hid r2; have B2 := hid b2; have N2 := hid n2; have HV := hid hv; have d0 := cell_row n2 0; have d1 := cell_row n2 1; have ln := (Array.getElem?_eq_some_iff.1 n2).1; have c1' : w2.drew.cell? ⟨b, 1, none⟩ = some x0.rm := c1; have d0' : w2.drew.cell? ⟨w1.heap.size, 0, none⟩ = some (str y.1) := d0; clear hw2 r2 b2 n2 r1 b1 o1 hv))
    go_cut [5, 6] (fun s5 s6 wx => s5 = v ∧ s6 = .bool (fnOf s1.mode y.1).isSome ∧ wx = w2.drew)
    case first =>
      go_region
      all_goals (go_wp2_with fail; go_meet; exact ⟨rfl, rfl, rfl⟩)
    case rest =>
    obtain ⟨rfl, rfl, rfl⟩ := hcut
    have d1' : w2.drew.cell? ⟨w1.heap.size, 1, none⟩ = some (.int .i64 (y.2 : Int)) := d1
    have ln' : w1.heap.size < w2.drew.heap.size := ln
    clear l2 c1' d0' d0 c1 lb d1 ln MID TK N2
    cases hfn : fnOf s1.mode y.1 with
    | none =>
      have e2 : Hid (lineF T (y :: t) s = refuse s1 140 y.2) := by show _ = _; rw [LF.out, hfn]
      have RC := hid (refuse_any B b text s1 _ 140 y.2 w2.drew R2.out (by omega) (by decide))
      clear hfn LF HV
      go_wp2_with (go_at_call 59; refine RC.out.mono ?_; rintro e w3 ⟨⟨yy, rfl⟩, k1, k2, k3⟩; have K := hid (And.intro k1 (B2.out.trans k2)); clear k1 k2 k3)
      first | go_ret | refine bodyPost_ret (results_none rfl _ _ _) rfl ?_
      rw [e2.out]
      exact ⟨⟨_, rfl⟩, ⟨_, K.out.1⟩, K.out.2⟩
    | some f =>
      have e2 : Hid (lineF T (y :: t) s = shut (stepF T f s1)) := by show _ = _; rw [LF.out, hfn]
      have FN := hid (fn_any T B b text s1 _ w2.drew R2.out HF1.out (HOP.out.on B2.out hB2) hB2 hfn)
      have hv := HV.out f hfn
      subst hv
      obtain ⟨s2, hs2⟩ : ∃ s2, s2 = stepF T f s1 := ⟨_, rfl⟩
      rw [← hs2] at FN e2
      have HFC := hid (fn_cases hfn)
      clear hfn LF HV hs2
      go_upto_region 6 with fail
      go_cut [5, 6, 27, 32, 34] (fun s5 s6 s27 s32 s34 wx => Hid (∃ x3, Rt wx B b text s2 x3 ∧ Below B w wx))
      case first =>
        rcases HFC.out with rfl | rfl | rfl | rfl | rfl | rfl | rfl
        all_goals
          (go_wp2_with ((first | go_at_call 32 | go_at_call 50 | go_at_call 51 | go_at_call 52 | go_at_call 53 | go_at_call 54 | go_at_call 55); refine FN.out.mono ?_; rintro e w3 ⟨⟨yy, rfl⟩, ⟨x3, k1⟩, k2⟩; have K : Hid (∃ x3, Rt w3 B b text s2 x3 ∧ Below B w w3) := ⟨x3, k1, B2.out.trans k2⟩; clear k1 k2)
           go_meet
           exact K.out)
      case rest =>
      obtain ⟨w3, hw3⟩ : ∃ w3, w3 = wc := ⟨_, rfl⟩
      rw [← hw3] at hcut ⊢
      clear hw3 FN HFC R2 B2 d1' ln'
      obtain ⟨x3, R3, B3⟩ := hcut.out
      obtain ⟨sa3, c3, hl3, hc3, hr3⟩ := R3.left
      have q2' : w3.cell? ⟨b, 2, none⟩ = some (.slice sa3 s2.left.length c3) := by rw [← hl3]; exact cell_row R3.box 2
      have lb3 : b < w3.heap.size := (Array.getElem?_eq_some_iff.1 R3.box).1
      cases hl : s2.left with
      | nil =>
        have e3 : Hid (lineF T (y :: t) s = s2) := by show _ = _; rw [e2.out]; unfold shut; rw [hl]
        have K : Hid ((∃ x', Rt w3 B b text s2 x') ∧ Below B w w3) := ⟨⟨x3, R3⟩, B3⟩
        rw [hl] at q2'
        clear hl hl3 hr3 R3 B3 hcut e2
        go_wp2
        first | go_end0 | refine bodyPost_end (results_none rfl _ _ _) rfl ?_
        rw [e3.out]
        exact ⟨⟨_, rfl⟩, K.out⟩
      | cons z zs =>
        have e3 : Hid (lineF T (y :: t) s = refuse s2 140 z.2) := by show _ = _; rw [e2.out]; unfold shut; rw [hl]
        obtain ⟨g, o, cur, fz, rfl, hgM, hg, hx⟩ := hr3 (by rw [hl]; simp)
        obtain ⟨hy1, hy2⟩ := hx 0 z (by rw [hl]; rfl)
        have hzi : z.2 + z.1.length ≤ text.length := R3.inl z (by rw [hl]; simp)
        have RC := hid (refuse_any B b text s2 x3 140 z.2 w3 R3 (by omega) (by decide))
        have y2 : w3.cell? ⟨g, o + 1, none⟩ = some (.int .i64 (z.2 : Int)) := (cell_row hg (o + 1)).trans (by simpa using hy2)
        have lg : g < w3.heap.size := (Array.getElem?_eq_some_iff.1 hg).1
        have BH := hid B3
        rw [hl, List.length_cons] at q2' hc3
        have hz3 : (decide ((zs.length : Int) + 1 > 0)) = true := decide_eq_true (by omega)
        have hz4 : (decide (0 < (zs.length : Int) + 1)) = true := decide_eq_true (by omega)
        clear hl hl3 R3 B3 hcut e2 hx hg hy1 hy2 hr3
        go_wp2_with (go_at_call 59; refine RC.out.mono ?_; rintro e w4 ⟨⟨yy, rfl⟩, k1, k2, k3⟩; have K := hid (And.intro k1 (BH.out.trans k2)); clear k1 k2 k3)
        first | go_end0 | refine bodyPost_end (results_none rfl _ _ _) rfl ?_
        rw [e3.out]
        exact ⟨⟨_, rfl⟩, ⟨_, K.out.1⟩, K.out.2⟩
end Go.Proofs.YtfmmmhcpdinhgabGreatDoor
/-
  All lines are read.
-/
namespace Go.Proofs.YtfmmmhcpdinhgabGreatDoor
open Go.RowKit Go.Deep PureNet PureRd ShfKit
set_option maxRecDepth 100000

/-- no count is above m. -/
structure Upto (m : Nat) (s : Rs) : Prop where
  names : s.names.length ≤ m
  lines : s.lines.length ≤ m
  places : s.places.length ≤ m
  outs : s.outs ≤ m
theorem Upto.same {m : Nat} {s s' : Rs} (h : Upto m s) (e : Same s s') : Upto m s' := ⟨by rw [e.names]; exact h.names, by rw [e.lines]; exact h.lines, by rw [e.places]; exact h.places, by rw [e.outs]; exact h.outs⟩
theorem Upto.mono {m n : Nat} {s : Rs} (h : Upto m s) (e : m ≤ n) : Upto n s := ⟨Nat.le_trans h.names e, Nat.le_trans h.lines e, Nat.le_trans h.places e, Nat.le_trans h.outs e⟩
theorem Upto.few {m : Nat} {s : Rs} (h : Upto m s) (e : m ≤ 2097152) : Few s := ⟨Nat.le_trans h.names e, Nat.le_trans h.lines e, Nat.le_trans h.places e, Nat.le_trans h.outs e⟩
theorem Upto.mapLast {m : Nat} {s : Rs} (h : Upto m s) (f : Ln → Ln) : Upto m (mapLast s f) := by
  refine ⟨h.names, ?_, h.places, h.outs⟩
  have := h.lines
  unfold PureRd.mapLast
  simp only [List.length_append, List.length_dropLast]
  cases hl : s.lines.getLast? with
  | none =>
    have : s.lines = [] := by simpa using hl
    simp [this]
  | some y =>
    have : s.lines ≠ [] := fun e => by rw [e] at hl; cases hl
    have := List.length_pos_iff.2 this
    simp
    omega
theorem Upto.begin {m : Nat} {s : Rs} (h : Upto m s) (kind : Int) : Upto (m + 1) (PureRd.begin nameL kind s) := by
  have h1 : Same s (if s.names.length = 65536 then refuse s 8 s.last.2 else s) := by split; exact refuse_same _ _ _; exact Same.refl _
  have h2 := h1.trans (name_same nameL _)
  have h3 : ∀ c : Prop, [Decidable c] → ∀ a, Same s (if c then refuse (name nameL (if s.names.length = 65536 then refuse s 8 s.last.2 else s)).2 141 a else (name nameL (if s.names.length = 65536 then refuse s 8 s.last.2 else s)).2) := fun c _ a => by split; exact h2.trans (refuse_same _ _ _); exact h2
  have h4 := fun (c : Prop) [Decidable c] a => h.same (h3 c a)
  unfold PureRd.begin
  dsimp only
  refine ⟨?_, ?_, ?_, ?_⟩
  · simp only [List.length_append, List.length_cons, List.length_nil]
    exact Nat.succ_le_succ (h4 _ _).names
  · simp only [List.length_append, List.length_cons, List.length_nil]
    exact Nat.succ_le_succ (h4 _ _).lines
  · simp only [List.length_cons]
    exact Nat.succ_le_succ (h4 _ _).places
  · exact Nat.le_succ_of_le (h4 _ _).outs
theorem Upto.output {m : Nat} {s : Rs} (h : Upto m s) : Upto (m + 1) (PureRd.output nameL s) := by
  have h1 : Same s (if s.outs = 65536 then refuse s 8 s.last.2 else s) := by split; exact refuse_same _ _ _; exact Same.refl _
  have u1 := h.same h1
  have u2 : Upto (m + 1) { (if s.outs = 65536 then refuse s 8 s.last.2 else s) with outs := (if s.outs = 65536 then refuse s 8 s.last.2 else s).outs + 1 } := ⟨Nat.le_succ_of_le u1.names, Nat.le_succ_of_le u1.lines, Nat.le_succ_of_le u1.places, Nat.succ_le_succ u1.outs⟩
  have e2 := namesOf_same nameL { (if s.outs = 65536 then refuse s 8 s.last.2 else s) with outs := (if s.outs = 65536 then refuse s 8 s.last.2 else s).outs + 1 } 1
  have u3 := u2.same e2
  unfold PureRd.output
  dsimp only
  refine ⟨u3.names, ?_, u3.places, u3.outs⟩
  simp only [List.length_append, List.length_cons, List.length_nil]
  rw [e2.lines]
  exact Nat.succ_le_succ u1.lines
theorem Upto.withOp {m : Nat} {s : Rs} (h : Upto m s) (F : List UInt8 → Int) : Upto m (withOp F s) := (h.same (op_same F s)).mapLast _
theorem Upto.withUses {m : Nat} {s : Rs} (h : Upto m s) (n : Nat) : Upto m (withUses nameL n s) := (h.same (namesOf_same nameL s n)).mapLast _
theorem Upto.step {m : Nat} {s : Rs} (h : Upto m s) (T : Nat → List UInt8) (f : Nat) : Upto (m + 1) (stepF T f s) := by
  unfold stepF
  repeat' split
  · exact (h.same (name_same nameL s)).mono (Nat.le_succ _) |> fun u => ⟨u.names, u.lines, u.places, u.outs⟩
  · exact h.begin 1
  · exact ((h.begin 2).withOp _).withUses 2
  · exact (h.begin 4).withUses 3
  · exact ((h.begin 3).withOp _).withUses 1
  · exact h.output
  · exact ⟨Nat.le_succ_of_le h.names, Nat.le_succ_of_le h.lines, Nat.le_succ_of_le h.places, Nat.le_succ_of_le h.outs⟩
theorem shut_same (s : Rs) : Same s (shut s) := by
  unfold shut
  split
  · exact Same.refl _
  · exact refuse_same _ _ _
theorem Upto.line {m : Nat} {s : Rs} (h : Upto m s) (T : Nat → List UInt8) (ws : List Wd) : Upto (m + 1) (lineF T ws s) := by
  unfold lineF
  split
  · exact h.mono (Nat.le_succ _)
  · have h1 : ∀ y t, Upto m { s with last := y, left := t } := fun y t => ⟨h.names, h.lines, h.places, h.outs⟩
    split
    · exact ((h1 _ _).same (refuse_same _ _ _)).mono (Nat.le_succ _)
    · exact ((h1 _ _).step T _).same (shut_same _)
theorem wr_in (p n : Nat) : ∀ (f : Nat) (r : List UInt8), r.length ≤ n → ∀ y ∈ wr p n f r, InT (p + n) y
  | 0, r, _, y, hy => by simp [wr] at hy
  | f + 1, r, hr, y, hy => by
    rw [wr] at hy
    split at hy
    · simp at hy
    · rcases List.mem_cons.1 hy with rfl | hy
      · have : (r.takeWhile (fun c => !blankB c)).length ≤ r.length := (List.takeWhile_prefix _).length_le
        show p + (n - r.length) + (r.takeWhile (fun c => !blankB c)).length ≤ p + n
        omega
      · refine wr_in p n f _ ?_ y hy
        have h1 := drop_len (r.drop (r.takeWhile (fun c => !blankB c)).length) blankB
        have h2 : (r.drop (r.takeWhile (fun c => !blankB c)).length).length = r.length - (r.takeWhile (fun c => !blankB c)).length := List.length_drop
        omega
theorem words_in (l : List UInt8) (p : Nat) : ∀ y ∈ wordsOf l p, InT (p + l.length) y := fun y hy => by
  have h1 : (cutHash l).length ≤ l.length := (List.takeWhile_prefix _).length_le
  have := wr_in p (cutHash l).length _ _ (drop_len _ _) y hy
  unfold InT at this ⊢
  omega
/-- the lines from p on. -/
def linesF (T : Nat → List UInt8) (text : List UInt8) : Nat → Nat → Rs → Rs
  | 0, _, s => s
  | f + 1, p, s => if p < text.length ∧ s.fault = none then linesF T text f (p + ((cutLine (text.drop p)).length + 1)) (lineF T (wordsOf (cutLine (text.drop p)) p) s) else s
def readLinesF (T : Nat → List UInt8) (text : List UInt8) (s : Rs) : Rs :=
  if (linesF T text (text.length + 1) 0 s).mode < 2 then refuse (linesF T text (text.length + 1) 0 s) 140 text.length else linesF T text (text.length + 1) 0 s
theorem linesF_end (T : Nat → List UInt8) (text : List UInt8) (f p : Nat) (s : Rs) (h : ¬(p < text.length ∧ s.fault = none)) : linesF T text f p s = s := by
  cases f with
  | zero => rfl
  | succ f => rw [linesF, if_neg h]

theorem neq71_nil (W : World) : (binOp .neq 71 (.map none) (.map none)).run Tryz.prog W = .ok (.bool false) W := by kernel_rfl
theorem neq71_some (m : Nat) (W : World) : (binOp .neq 71 (.map (some m)) (.map none)).run Tryz.prog W = .ok (.bool true) W := by kernel_rfl

set_option maxHeartbeats 4000000 in
theorem lines_any (T : Nat → List UInt8) (B b : Nat) (text : List UInt8) (s : Rs) (x : Bx) (w : World) (h : Rt w B b text s x) (hf : Upto 0 s) (hops : OpsT w T) (hB2 : 2 < B) (hasc : ∀ c ∈ text, c.toNat < 128) :
    Calls Tryz.prog 33 #[.pointer (some ⟨b, 0, none⟩)] w fun e w' => (∃ v, e = .returned v) ∧ (∃ x', Rt w' B b text (readLinesF T text s) x') ∧ Below B w w' := by
  have hsm := h.small
  have HOP := hid hops
  have HASC := hid hasc
  obtain ⟨FL, hFL⟩ : ∃ FL, FL = linesF T text (text.length + 1) 0 s := ⟨_, rfl⟩
  have RLF : Hid (readLinesF T text s = if FL.mode < 2 then refuse FL 140 text.length else FL) := by show _ = _; rw [hFL]; rfl
  have START : Hid (∃ (p : Nat) (s' : Rs) (x' : Bx) (f : Nat), Value.int .i64 0 = .int .i64 (p : Int) ∧ Rt w B b text s' x' ∧ Below B w w ∧ Upto p s' ∧ linesF T text f p s' = FL ∧ text.length ≤ p + f ∧ p ≤ text.length + 1) := ⟨0, s, x, text.length + 1, rfl, h, Below.refl _ _, hf, hFL.symm, by omega, by omega⟩
  clear h hf hops hasc hFL
  go_enter Tryz.func33, Tryz.ntmps33
  go_wp2
  go_loopw [2] (fun pv W => Hid (∃ (p : Nat) (s' : Rs) (x' : Bx) (f : Nat), pv = .int .i64 (p : Int) ∧ Rt W B b text s' x' ∧ Below B w W ∧ Upto p s' ∧ linesF T text f p s' = FL ∧ text.length ≤ p + f ∧ p ≤ text.length + 1)) (fun pv _ => match pv with | .int _ i => text.length + 1 - i.toNat | _ => 0)
  case atStart => exact START.out
  case round =>
    clear START
    obtain ⟨WW, hWW⟩ : ∃ WW, WW = wr := ⟨_, rfl⟩
    rw [← hWW] at hrel ⊢
    clear hWW
    obtain ⟨p, s', x', f, rfl, hR, hB, hU, hL, hpf, hpt⟩ := hrel.out
    obtain ⟨q0, q1, q2, q3, q4, q5, q6, q7, q8, q9, q10, q11, q12, q13, q14, hbl, hfz⟩ := box_cells hR.box
    have R := hid hR
    have BB := hid hB
    have UU := hid hU
    have LL := hid hL
    have FLT := hid hR.flt
    clear hrel hR hB hU hL hfz
    by_cases hgo : p < text.length ∧ s'.fault = none
    · obtain ⟨hgp, hgf⟩ := hgo
      have e12 : w.heap.size = w.heap.size := rfl
      rw [hgf] at q12
      have q12' : WW.cell? ⟨b, 12, none⟩ = some (.int .i64 0) := q12
      obtain ⟨l, hl⟩ : ∃ l, l = cutLine (text.drop p) := ⟨_, rfl⟩
      have hll : p + l.length ≤ text.length := by
        have : l.length ≤ (text.drop p).length := by rw [hl]; exact (List.takeWhile_prefix _).length_le
        rw [List.length_drop] at this
        omega
      have EX : (⟨text.toArray⟩ : ByteArray).extract p text.length = ⟨(text.drop p).toArray⟩ := by rw [Lib.extract_eq]; simp; exact List.take_of_length_le (by simp)
      have CUT : Hid (Calls Tryz.prog 56 #[str (text.drop p), .string ⟨#[10]⟩] WW fun e w' => (∃ a b, e = .returned (.tuple #[str l, .string a, .bool b])) ∧ Below WW.heap.size WW w') := by
        have := cut_any 10 ⟨(text.drop p).toArray⟩ WW (by show (text.drop p).toArray.size ≤ _; simp; omega)
        rw [hl]
        exact this
      have HASL : Hid (∀ c ∈ l, c.toNat < 128) := fun c hc => HASC.out c (List.drop_subset _ _ ((List.takeWhile_prefix _).subset (by rw [hl] at hc; exact hc)))
      obtain ⟨s2, hs2⟩ : ∃ s2, s2 = lineF T (wordsOf l p) s' := ⟨_, rfl⟩
      have WDS := hid (fun W => words_any l p W (by omega) (by omega) HASL.out)
      have LNE : Hid (∀ W v, Rt W B b text s' x' → Below B w W → WRow W W.heap.size v (wordsOf l p) → Calls Tryz.prog 57 #[.pointer (some ⟨b, 0, none⟩), v] W fun e w' => (∃ v, e = .returned v) ∧ (∃ x', Rt w' B b text s2 x') ∧ Below B W w') := fun W v hR hB hW => by
        rw [hs2]
        refine line_any T B b text s' x' v (wordsOf l p) W hR (UU.out.few (by omega)) (HOP.out.on hB hB2) hB2 hW (fun y hy => ?_)
        have := words_in l p y hy
        unfold InT at this ⊢
        omega
      have NXT : Hid (∃ f2, linesF T text f2 (p + (l.length + 1)) s2 = FL ∧ text.length ≤ p + (l.length + 1) + f2 ∧ p + (l.length + 1) ≤ text.length + 1 ∧ Upto (p + (l.length + 1)) s2) := by
        have h1 := LL.out
        cases f with
        | zero => omega
        | succ f =>
          rw [linesF, if_pos ⟨hgp, hgf⟩, ← hl, ← hs2] at h1
          exact ⟨f, h1, by omega, by omega, by rw [hs2]; exact (UU.out.line T (wordsOf l p)).mono (by omega)⟩
      have hpl : ((p : Int) < (text.length : Int)) := by omega
      clear hgf hl hs2 q1 q2 q3 q4 q5 q6 q7 q8 q9 q10 q11 q12 q13 q14 LL UU FLT e12
      go_wp2_with (first
        | (have z := R3; clear z; go_at_call 57; refine (LNE.out _ _ R3.out B3.out WR3.out).mono ?_; rintro e w4 ⟨⟨v4, rfl⟩, ⟨x4, k1⟩, k2⟩; have R4 := hid k1; have B4 : Hid (Below B w w4) := B3.out.trans k2; clear k1 k2)
        | (have z := R2; clear z; go_at_call 58; refine (WDS.out _).mono ?_; rintro e w3 ⟨v3, rfl, k1, k2⟩; have R3 := hid (R2.out.on k2); have WR3 := hid k1; have B3 : Hid (Below B w w3) := B2.out.trans (k2.mono (by have := R2.out.base; have := (Array.getElem?_eq_some_iff.1 R2.out.box).1; omega)); clear k1 k2)
        | (go_at_call 56; refine CUT.out.mono ?_; rintro e w2 ⟨⟨a2, b2, rfl⟩, k2⟩; have R2 := hid (R.out.on k2); have B2 : Hid (Below B w w2) := BB.out.trans (k2.mono (by have := R.out.base; omega)); clear k2))
      obtain ⟨f2, g1, g2, g3, g4⟩ := NXT.out
      refine ⟨⟨p + (l.length + 1), s2, x4, f2, by simp, R4.out, B4.out, g4, g1, g2, g3⟩, ?_⟩
      show text.length + 1 - ((p : Int) + ((l.length : Int) + 1)).toNat < text.length + 1 - (p : Int).toNat
      omega
    · have eF : s' = FL := by rw [← LL.out, linesF_end T text f p s' hgo]
      subst eF
      have RC := hid (refuse_any B b text s' x' 140 text.length WW R.out (Nat.le_refl _) (by decide))
      have MODE := hid R.out.mode
      by_cases hgp : p < text.length
      · have hff : s'.fault ≠ none := fun e => hgo ⟨hgp, e⟩
        have hfc : fcode s'.fault ≠ 0 := by
          cases hq : s'.fault with
          | none => exact absurd hq hff
          | some z => exact FLT.out z hq
        have e1 : (fcode s'.fault == 0) = false := by simpa using hfc
        have e1' : decide (fcode s'.fault = 0) = false := by simpa using hfc
        have hpl : ((p : Int) < (text.length : Int)) := by omega
        rcases MODE.out with ⟨hm, hrm⟩ | ⟨hm, m, n, D, hrm, _⟩
        · have eR : Hid (readLinesF T text s = s') := by show _ = _; rw [RLF.out, if_neg (by omega)]
          rw [hrm] at q1
          have nq := neq71_nil WW
          clear hgo hff hfc hrm q2 q3 q4 q5 q6 q7 q8 q9 q10 q11 q13 q14 LL UU FLT RC MODE RLF hm
          go_wp2
          first | go_end0 | refine bodyPost_end (results_none rfl _ _ _) rfl ?_
          rw [eR.out]
          exact ⟨⟨_, rfl⟩, ⟨_, R.out⟩, BB.out⟩
        · have eR : Hid (readLinesF T text s = refuse s' 140 text.length) := by show _ = _; rw [RLF.out, if_pos hm]
          rw [hrm] at q1
          have nq := neq71_some m WW
          clear hgo hff hfc hrm q2 q3 q4 q5 q6 q7 q8 q9 q10 q11 q13 q14 LL UU FLT MODE RLF hm
          go_wp2_with (go_at_call 59; refine RC.out.mono ?_; rintro e w4 ⟨⟨yy, rfl⟩, k1, k2, k3⟩; have K := hid (And.intro k1 (BB.out.trans k2)); clear k1 k2 k3)
          first | go_end0 | refine bodyPost_end (results_none rfl _ _ _) rfl ?_
          rw [eR.out]
          exact ⟨⟨_, rfl⟩, ⟨_, K.out.1⟩, K.out.2⟩
      · have hpl : ¬((p : Int) < (text.length : Int)) := by omega
        rcases MODE.out with ⟨hm, hrm⟩ | ⟨hm, m, n, D, hrm, _⟩
        · have eR : Hid (readLinesF T text s = s') := by show _ = _; rw [RLF.out, if_neg (by omega)]
          rw [hrm] at q1
          have nq := neq71_nil WW
          clear hgo hrm q2 q3 q4 q5 q6 q7 q8 q9 q10 q11 q13 q14 LL UU FLT RC MODE RLF hm
          go_wp2
          first | go_end0 | refine bodyPost_end (results_none rfl _ _ _) rfl ?_
          rw [eR.out]
          exact ⟨⟨_, rfl⟩, ⟨_, R.out⟩, BB.out⟩
        · have eR : Hid (readLinesF T text s = refuse s' 140 text.length) := by show _ = _; rw [RLF.out, if_pos hm]
          rw [hrm] at q1
          have nq := neq71_some m WW
          clear hgo hrm q2 q3 q4 q5 q6 q7 q8 q9 q10 q11 q13 q14 LL UU FLT MODE RLF hm
          go_wp2_with (go_at_call 59; refine RC.out.mono ?_; rintro e w4 ⟨⟨yy, rfl⟩, k1, k2, k3⟩; have K := hid (And.intro k1 (BB.out.trans k2)); clear k1 k2 k3)
          first | go_end0 | refine bodyPost_end (results_none rfl _ _ _) rfl ?_
          rw [eR.out]
          exact ⟨⟨_, rfl⟩, ⟨_, K.out.1⟩, K.out.2⟩
end Go.Proofs.YtfmmmhcpdinhgabGreatDoor
/-
  The reader connects its lines: what is said of it, and a fault told at any block of the reader.
-/
namespace Go.Proofs.YtfmmmhcpdinhgabGreatDoor
open Go.RowKit Go.Deep PureNet PureRd ShfKit
set_option maxRecDepth 100000

/-- the place that a line's word means. -/
def plcI (s : Rs) (ws : List Wd) (i : Nat) : Int := match ws[i]? with | some y => (((placeOf s y.1).getD 0 : Nat) : Int) | none => 0
def unk (s : Rs) (ws : List Wd) : Option Wd := ws.find? (fun y => (placeOf s y.1).isNone)
def gaOf (s : Rs) (l : Ln) : Ga := ⟨l.kind, ⟨l.name.toArray⟩, l.op, plcI s l.uses 0, plcI s l.uses 1, plcI s l.uses 2⟩
/-- lines are connected: a word that no line has, the gates, the outs. -/
def connF (s : Rs) : List Ln → List Ga → List Int → Option Wd × List Ga × List Int
  | [], gs, os => (none, gs, os)
  | l :: t, gs, os => match unk s l.uses with
    | some y => (some y, gs, os)
    | none => if l.kind = 0 then connF s t gs (os ++ [plcI s l.uses 0]) else connF s t (gs ++ [gaOf s l]) os
/-- the reader's block with a circuit's gates and outs. -/
def boxC (text : List UInt8) (s : Rs) (x : Bx) (gv ov : Value) : Array Value := #[str text, x.rm, x.lf, str s.last.1, .int .i64 (s.last.2 : Int), x.ln, .int .i64 (s.outs : Int), .map (some x.pm), x.nv, str s.cname, gv, ov, .int .i64 (fcode s.fault), .int .i64 (fline text s.fault), .int .i64 (fcol text s.fault)]
/-- connected so far. -/
structure Cn (w W : World) (b : Nat) (text : List UInt8) (s : Rs) (x : Bx) (gv ov : Value) (gs : List Ga) (os : List Int) : Prop where
  size : w.heap.size ≤ W.heap.size
  kept : ∀ k, k < w.heap.size → k ≠ b → W.heap[k]? = w.heap[k]?
  bl : b < w.heap.size
  box : W.heap[b]? = some (.cells (boxC text s x gv ov) 77 (0, 0))
  gates : W.ownsRow w.heap.size 42 6 gv gs.length (gas gs)
  outs : W.ownsRow w.heap.size 3 1 ov os.length (nu os)
  b0 : Below 0 w W
theorem Cn.start {W : World} {B b : Nat} {text : List UInt8} {s : Rs} {x : Bx} (h : Rt W B b text s x) : Cn W W b text s x (.slice none 0 0) (.slice none 0 0) [] [] :=
  ⟨Nat.le_refl _, fun _ _ _ => rfl, (Array.getElem?_eq_some_iff.1 h.box).1, h.box, ⟨rfl, .inl ⟨rfl, rfl⟩⟩, ⟨rfl, .inl ⟨rfl, rfl⟩⟩, Below.refl _ _⟩
/-- new blocks come. -/
theorem Cn.on {w W W' : World} {b : Nat} {text : List UInt8} {s : Rs} {x : Bx} {gv ov : Value} {gs : List Ga} {os : List Int} (h : Cn w W b text s x gv ov gs os) (hb : Below W.heap.size W W') : Cn w W' b text s x gv ov gs os :=
  ⟨Nat.le_trans h.size hb.size, fun k hk hn => (hb.block k (Nat.lt_of_lt_of_le hk h.size)).trans (h.kept k hk hn), h.bl, (hb.block b (Nat.lt_of_lt_of_le h.bl h.size)).trans h.box, ownsRow_below h.gates hb, ownsRow_below h.outs hb, h.b0.trans (hb.mono (Nat.zero_le _))⟩
/-- a block that is neither the reader's nor a row of gates or outs is written over. -/
theorem Cn.put {w W W' : World} {b k : Nat} {text : List UInt8} {s : Rs} {x : Bx} {gv ov : Value} {gs : List Ga} {os : List Int} {c : Array Value} {t : Nat} {fz : Nat × Nat} (h : Cn w W b text s x gv ov gs os) (hk : W.heap[k]? = some (.cells c t fz)) (hw : w.heap.size ≤ k) (h3 : t ≠ 3) (h42 : t ≠ 42) (hs : W.heap.size ≤ W'.heap.size) (hj : ∀ j, j ≠ k → j < W.heap.size → W'.heap[j]? = W.heap[j]?) (h0 : Below 0 W W') : Cn w W' b text s x gv ov gs os := by
  have hb := h.bl
  have hsz := h.size
  have own : ∀ {e size n : Nat} {v : Value} {xs : List Value}, e ≠ t → W.ownsRow w.heap.size e size v n xs → W'.ownsRow w.heap.size e size v n xs := fun he ho => by
    refine ⟨ho.1, ?_⟩
    rcases ho.2 with hn | ⟨g, cap, cur, hv, hb2, hr, rest⟩
    · exact .inl hn
    · refine .inr ⟨g, cap, cur, hv, hb2, (hj g (fun e2 => ?_) (Array.getElem?_eq_some_iff.1 hr).1).trans hr, rest⟩
      rw [e2, hk] at hr
      simp only [Option.some.injEq, Obj.cells.injEq] at hr
      exact he hr.2.1.symm
  exact ⟨by omega, fun j h1 h2 => (hj j (by omega) (by omega)).trans (h.kept j h1 h2), h.bl, (hj b (by omega) (by omega)).trans h.box, own (Ne.symm h42) h.gates, own (Ne.symm h3) h.outs, h.b0.trans h0⟩

set_option maxHeartbeats 4000000 in
/-- the first fault, told at a reader's block. -/
theorem refuse_box (b : Nat) (text : List UInt8) (s : Rs) (x : Bx) (gv ov : Value) (code : Int) (at_ : Nat) (w : World) (h : w.heap[b]? = some (.cells (boxC text s x gv ov) 77 (0, 0))) (hs : text.length ≤ 1048576) (ha : at_ ≤ text.length) (hfa : s.fault = none) :
    Calls Tryz.prog 59 #[.pointer (some ⟨b, 0, none⟩), .int .i64 code, .int .i64 (at_ : Int)] w fun e w' => (∃ y, e = .returned y) ∧ w'.heap[b]? = some (.cells (boxC text (refuse s code at_) x gv ov) 77 (0, 0)) ∧ w.heap.size ≤ w'.heap.size ∧ (∀ k, k ≠ b → k < w.heap.size → w'.heap[k]? = w.heap[k]?) ∧ Below 0 w w' := by
  have hbl := (Array.getElem?_eq_some_iff.1 h).1
  have HP : Hid (∀ W, Calls Tryz.prog 84 #[str text, .int .i64 (at_ : Int)] W fun e w' => e = .returned (.agg #[.int .i64 ((spotN (text.take at_)).1 : Int), .int .i64 ((spotN (text.take at_)).2 : Int)]) ∧ Below W.heap.size W w') := fun W => place_any ⟨text.toArray⟩ at_ W (by show text.toArray.size ≤ _; simp; omega) (by show at_ ≤ text.toArray.size; simpa using ha)
  have hr : refuse s code at_ = { s with fault := some (code, at_) } := by simp [refuse, hfa]
  have q := fun j => cell_row h j
  have FIN : Hid (∀ W, Below w.heap.size w W → (∃ z12 z13 z14, W.cell? ⟨b, 12, none⟩ = some (.int .i64 z12) ∧ W.cell? ⟨b, 13, none⟩ = some (.int .i64 z13) ∧ W.cell? ⟨b, 14, none⟩ = some (.int .i64 z14)) ∧ (∀ j, W.frozen? ⟨b, j, none⟩ = false) ∧ b < W.heap.size ∧ ((((W.setCell ⟨b, 12, none⟩ (.int .i64 code)).setCell ⟨b, 13, none⟩ (.int .i64 ((spotN (text.take at_)).1 : Int))).setCell ⟨b, 14, none⟩ (.int .i64 ((spotN (text.take at_)).2 : Int))).heap[b]? = some (.cells (boxC text (refuse s code at_) x gv ov) 77 (0, 0)) ∧ w.heap.size ≤ (((W.setCell ⟨b, 12, none⟩ (.int .i64 code)).setCell ⟨b, 13, none⟩ (.int .i64 ((spotN (text.take at_)).1 : Int))).setCell ⟨b, 14, none⟩ (.int .i64 ((spotN (text.take at_)).2 : Int))).heap.size ∧ (∀ k, k ≠ b → k < w.heap.size → (((W.setCell ⟨b, 12, none⟩ (.int .i64 code)).setCell ⟨b, 13, none⟩ (.int .i64 ((spotN (text.take at_)).1 : Int))).setCell ⟨b, 14, none⟩ (.int .i64 ((spotN (text.take at_)).2 : Int))).heap[k]? = w.heap[k]?) ∧ Below 0 w (((W.setCell ⟨b, 12, none⟩ (.int .i64 code)).setCell ⟨b, 13, none⟩ (.int .i64 ((spotN (text.take at_)).1 : Int))).setCell ⟨b, 14, none⟩ (.int .i64 ((spotN (text.take at_)).2 : Int))))) := fun W hW => by
    have hb2 := (hW.block b hbl).trans h
    refine ⟨⟨_, _, _, cell_row hb2 12, cell_row hb2 13, cell_row hb2 14⟩, fun j => unfrozen_row hb2 j, (Array.getElem?_eq_some_iff.1 hb2).1, ?_, by simp; exact hW.size, fun k hk hl => ?_, (((hW.mono (Nat.zero_le _)).setCell (p := ⟨b, 12, none⟩) (Nat.zero_le _) _).setCell (p := ⟨b, 13, none⟩) (Nat.zero_le _) _).setCell (p := ⟨b, 14, none⟩) (Nat.zero_le _) _⟩
    · rw [row_set (row_set (row_set hb2)), hr]
      rfl
    · rw [Below.heap_setCell _ _ _ _ (show k ≠ b from hk), Below.heap_setCell _ _ _ _ (show k ≠ b from hk), Below.heap_setCell _ _ _ _ (show k ≠ b from hk)]
      exact hW.block k hl
  have f0 : fcode s.fault = 0 := by rw [hfa]; rfl
  have q12 : w.cell? ⟨b, 12, none⟩ = some (.int .i64 0) := by rw [q]; simp [boxC, f0]
  have q0 : w.cell? ⟨b, 0, none⟩ = some (str text) := by rw [q]; rfl
  clear hfa hr h q f0 hs
  go_enter Tryz.func59, Tryz.ntmps59
  go_wp2_with (go_at_call 84; refine (HP.out _).mono ?_; rintro e w1 ⟨rfl, b1⟩; obtain ⟨⟨z12, z13, z14, q1, q2, q3⟩, f1, l1, fin⟩ := FIN.out w1 b1; have FN := hid fin; clear fin b1)
  first | go_end0 | refine bodyPost_end (results_none rfl _ _ _) rfl ?_
  exact ⟨⟨_, rfl⟩, FN.out⟩
end Go.Proofs.YtfmmmhcpdinhgabGreatDoor
/-
  What holds of the reader behind every line. Pure.
-/
namespace Go.Proofs.YtfmmmhcpdinhgabGreatDoor
open Go.RowKit Go.Deep PureNet PureRd ShfKit
set_option maxRecDepth 100000

theorem refuse_fault (s : Rs) (c : Int) (a : Nat) : (refuse s c a).fault ≠ none := by
  unfold refuse
  cases hf : s.fault with
  | none => simp
  | some p => simp [hf]
theorem take_fault {s : Rs} (h : (take s).2.fault = none) : s.fault = none := by
  unfold take at h
  split at h
  · exact absurd h (refuse_fault _ _ _)
  · exact h
theorem name_fault {nm : List UInt8 → Bool} {s : Rs} (h : (name nm s).2.fault = none) : s.fault = none := by
  unfold name at h
  dsimp only at h
  split at h
  · exact take_fault h
  · exact absurd h (refuse_fault _ _ _)
theorem namesOf_fault {nm : List UInt8 → Bool} {s : Rs} : ∀ {n : Nat}, (namesOf nm n s).2.fault = none → s.fault = none
  | 0, h => h
  | _ + 1, h => namesOf_fault (name_fault h)
theorem op_fault {F : List UInt8 → Int} {s : Rs} (h : (op F s).2.fault = none) : s.fault = none := by
  unfold op at h
  dsimp only at h
  split at h
  · exact absurd h (refuse_fault _ _ _)
  · exact take_fault h
theorem begin_fault {nm : List UInt8 → Bool} {k : Int} {s : Rs} (h : (PureRd.begin nm k s).fault = none) : s.fault = none ∧ s.names.length ≠ 65536 := by
  have q : (name nm (if s.names.length = 65536 then refuse s 8 s.last.2 else s)).2.fault = none := by
    unfold PureRd.begin at h
    dsimp only at h
    revert h
    generalize name nm (if s.names.length = 65536 then refuse s 8 s.last.2 else s) = z
    intro h
    split at h
    · exact absurd h (refuse_fault _ _ _)
    · exact h
  have h1 := name_fault q
  split at h1
  · exact absurd h1 (refuse_fault _ _ _)
  · rename_i h2
    exact ⟨h1, h2⟩
/-- how many words a line of each kind has. -/
def usesK (k : Int) : Nat := if k = 1 then 0 else if k = 2 then 2 else if k = 3 then 1 else if k = 4 then 3 else 1
def LnOk (l : Ln) : Prop := 0 ≤ l.kind ∧ l.kind ≤ 4 ∧ l.uses.length = usesK l.kind
structure Inv (s : Rs) : Prop where
  cnt : (s.lines.filter fun l => decide (l.kind ≠ 0)).length = s.names.length
  pl : ∀ p ∈ s.places, p.2 < s.names.length
  form : ∀ l ∈ s.lines, LnOk l
  many : s.fault = none → s.names.length ≤ 65536
theorem Inv.same {s t : Rs} (h : Inv s) (e : Same s t) (hf : t.fault = none → s.fault = none) : Inv t :=
  ⟨by rw [e.lines, e.names]; exact h.cnt, by rw [e.places, e.names]; exact h.pl, by rw [e.lines]; exact h.form, fun q => by rw [e.names]; exact h.many (hf q)⟩
theorem Inv.add {s t : Rs} (h : Inv s) (y : Ln) (hl : t.lines = s.lines ++ [y]) (hk : y.kind ≠ 0) (hy : LnOk y) (hn : t.names.length = s.names.length + 1) (hp : ∀ p ∈ t.places, p.2 < s.names.length + 1) (hf : t.fault = none → s.fault = none ∧ s.names.length ≠ 65536) : Inv t := by
  refine ⟨?_, by rw [hn]; exact hp, ?_, fun q => ?_⟩
  · rw [hl, hn, List.filter_append, List.length_append, h.cnt]
    simp [hk]
  · rw [hl]
    intro l hm
    rcases List.mem_append.1 hm with hm | hm
    · exact h.form l hm
    · have : l = y := by simpa using hm
      rw [this]
      exact hy
  · have h1 := hf q
    have := h.many h1.1
    omega
theorem begin_names (k : Int) (s : Rs) : (PureRd.begin nameL k s).names.length = s.names.length + 1 ∧ ∃ nm, (PureRd.begin nameL k s).places = (nm, s.names.length) :: s.places := by
  have h1 : Same s (if s.names.length = 65536 then refuse s 8 s.last.2 else s) := by split; exact refuse_same _ _ _; exact Same.refl _
  have h2 := h1.trans (name_same nameL _)
  have h3 : ∀ c : Prop, [Decidable c] → ∀ a, Same s (if c then refuse (name nameL (if s.names.length = 65536 then refuse s 8 s.last.2 else s)).2 141 a else (name nameL (if s.names.length = 65536 then refuse s 8 s.last.2 else s)).2) := fun c _ a => by split; exact h2.trans (refuse_same _ _ _); exact h2
  unfold PureRd.begin
  dsimp only
  refine ⟨?_, (name nameL (if s.names.length = 65536 then refuse s 8 s.last.2 else s)).1.1, ?_⟩
  · rw [List.length_append, (h3 _ _).names]
    rfl
  · rw [(h3 _ _).places]
theorem Inv.begun {s t : Rs} {k : Int} (h : Inv s) (y : Ln) (hl : t.lines = s.lines ++ [y]) (hk : y.kind ≠ 0) (hy : LnOk y) (hn : t.names = (PureRd.begin nameL k s).names) (hp : t.places = (PureRd.begin nameL k s).places) (hf : t.fault = none → (PureRd.begin nameL k s).fault = none) : Inv t := by
  obtain ⟨n1, nm, n2⟩ := begin_names k s
  refine h.add y hl hk hy (by rw [hn]; exact n1) ?_ (fun q => begin_fault (hf q))
  rw [hp, n2]
  intro p hm
  rcases List.mem_cons.1 hm with rfl | hm
  · exact Nat.lt_succ_self _
  · exact Nat.lt_succ_of_lt (h.pl p hm)
theorem Inv.gate0 {s : Rs} (h : Inv s) (k : Int) (n : Nat) (hk : k ≠ 0) (h0 : 0 ≤ k ∧ k ≤ 4) (hn : n = usesK k) : Inv (withUses nameL n (PureRd.begin nameL k s)) := by
  obtain ⟨y, hl, y1, y2, y3⟩ := begin_lines k s
  have sm := namesOf_same nameL (PureRd.begin nameL k s) n
  have hw : withUses nameL n (PureRd.begin nameL k s) = { (namesOf nameL n (PureRd.begin nameL k s)).2 with lines := s.lines ++ [{ y with uses := (namesOf nameL n (PureRd.begin nameL k s)).1 }] } := mapLast_of (by rw [sm.lines]; exact hl) _
  rw [hw]
  exact h.begun (k := k) _ rfl (by show y.kind ≠ 0; rw [y1]; exact hk) ⟨by show 0 ≤ y.kind; rw [y1]; exact h0.1, by show y.kind ≤ 4; rw [y1]; exact h0.2, by show (namesOf nameL n _).1.length = usesK y.kind; rw [namesOf_len, y1]; exact hn⟩ sm.names sm.places namesOf_fault
theorem Inv.gate1 {s : Rs} (h : Inv s) (F : List UInt8 → Int) (k : Int) (n : Nat) (hk : k ≠ 0) (h0 : 0 ≤ k ∧ k ≤ 4) (hn : n = usesK k) : Inv (withUses nameL n (withOp F (PureRd.begin nameL k s))) := by
  obtain ⟨y, hl, y1, y2, y3⟩ := begin_lines k s
  have so := op_same F (PureRd.begin nameL k s)
  have ho : withOp F (PureRd.begin nameL k s) = { (op F (PureRd.begin nameL k s)).2 with lines := s.lines ++ [{ y with op := (op F (PureRd.begin nameL k s)).1 }] } := mapLast_of (by rw [so.lines]; exact hl) _
  obtain ⟨t, ht⟩ : ∃ t, t = withOp F (PureRd.begin nameL k s) := ⟨_, rfl⟩
  have hlt : t.lines = s.lines ++ [{ y with op := (op F (PureRd.begin nameL k s)).1 }] := by rw [ht, ho]
  have hnt : t.names = (PureRd.begin nameL k s).names := by rw [ht, ho]; exact so.names
  have hpt : t.places = (PureRd.begin nameL k s).places := by rw [ht, ho]; exact so.places
  have hft : t.fault = none → (PureRd.begin nameL k s).fault = none := by rw [ht, ho]; exact op_fault
  rw [← ht]
  have sm := namesOf_same nameL t n
  have hw : withUses nameL n t = { (namesOf nameL n t).2 with lines := s.lines ++ [{ { y with op := (op F (PureRd.begin nameL k s)).1 } with uses := (namesOf nameL n t).1 }] } := mapLast_of (by rw [sm.lines]; exact hlt) _
  rw [hw]
  exact h.begun (k := k) _ rfl (by show y.kind ≠ 0; rw [y1]; exact hk) ⟨by show 0 ≤ y.kind; rw [y1]; exact h0.1, by show y.kind ≤ 4; rw [y1]; exact h0.2, by show (namesOf nameL n _).1.length = usesK y.kind; rw [namesOf_len, y1]; exact hn⟩ (sm.names.trans hnt) (sm.places.trans hpt) (fun q => hft (namesOf_fault q))
theorem Inv.input {s : Rs} (h : Inv s) : Inv (PureRd.begin nameL 1 s) := by
  obtain ⟨y, hl, y1, y2, y3⟩ := begin_lines 1 s
  exact h.begun (k := 1) y hl (by rw [y1]; decide) ⟨by rw [y1]; decide, by rw [y1]; decide, by rw [y1, y3]; rfl⟩ rfl rfl id
theorem Inv.output {s : Rs} (h : Inv s) : Inv (PureRd.output nameL s) := by
  have h1 : Same s (if s.outs = 65536 then refuse s 8 s.last.2 else s) := by split; exact refuse_same _ _ _; exact Same.refl _
  obtain ⟨t, ht⟩ : ∃ t, t = { (if s.outs = 65536 then refuse s 8 s.last.2 else s) with outs := (if s.outs = 65536 then refuse s 8 s.last.2 else s).outs + 1 } := ⟨_, rfl⟩
  have hto : PureRd.output nameL s = { (namesOf nameL 1 t).2 with lines := (namesOf nameL 1 t).2.lines ++ [⟨0, [], 0, (namesOf nameL 1 t).1⟩] } := by rw [ht]; rfl
  have e2 := namesOf_same nameL t 1
  have hl : (namesOf nameL 1 t).2.lines = s.lines := by rw [e2.lines, ht]; exact h1.lines
  have hn : (namesOf nameL 1 t).2.names = s.names := by rw [e2.names, ht]; exact h1.names
  have hp : (namesOf nameL 1 t).2.places = s.places := by rw [e2.places, ht]; exact h1.places
  rw [hto]
  refine ⟨?_, ?_, ?_, fun q => ?_⟩
  · show (((namesOf nameL 1 t).2.lines ++ [_]).filter _).length = (namesOf nameL 1 t).2.names.length
    rw [hl, hn, List.filter_append, List.length_append, h.cnt]
    simp
  · show ∀ p ∈ (namesOf nameL 1 t).2.places, p.2 < (namesOf nameL 1 t).2.names.length
    rw [hp, hn]
    exact h.pl
  · show ∀ l ∈ (namesOf nameL 1 t).2.lines ++ [_], LnOk l
    rw [hl]
    intro l hm
    rcases List.mem_append.1 hm with hm | hm
    · exact h.form l hm
    · have : l = ⟨0, [], 0, (namesOf nameL 1 t).1⟩ := by simpa using hm
      rw [this]
      exact ⟨by show (0 : Int) ≤ 0; decide, by show (0 : Int) ≤ 4; decide, by show (namesOf nameL 1 t).1.length = usesK 0; rw [namesOf_len]; rfl⟩
  · show (namesOf nameL 1 t).2.names.length ≤ 65536
    rw [hn]
    have hf := namesOf_fault (nm := nameL) (n := 1) (s := t) q
    rw [ht] at hf
    refine h.many ?_
    have hf2 : (if s.outs = 65536 then refuse s 8 s.last.2 else s).fault = none := hf
    split at hf2
    · exact absurd hf2 (refuse_fault _ _ _)
    · exact hf2
theorem Inv.step {s : Rs} (h : Inv s) (T : Nat → List UInt8) (f : Nat) : Inv (stepF T f s) := by
  unfold stepF
  repeat' split
  · have u := h.same (name_same nameL s) name_fault
    exact ⟨u.cnt, u.pl, u.form, u.many⟩
  · exact h.input
  · exact h.gate1 _ 2 2 (by decide) (by decide) rfl
  · exact h.gate0 4 3 (by decide) (by decide) rfl
  · exact h.gate1 _ 3 1 (by decide) (by decide) rfl
  · exact h.output
  · exact ⟨h.cnt, h.pl, h.form, h.many⟩
theorem shut_fault {s : Rs} (h : (shut s).fault = none) : s.fault = none ∧ s.left = [] := by
  unfold shut at h
  split at h
  · rename_i e
    exact ⟨h, e⟩
  · exact absurd h (refuse_fault _ _ _)
theorem Inv.line {s : Rs} (h : Inv s) (T : Nat → List UInt8) (ws : List Wd) : Inv (lineF T ws s) := by
  unfold lineF
  split
  · exact h
  · have h1 : ∀ y t, Inv { s with last := y, left := t } := fun y t => ⟨h.cnt, h.pl, h.form, h.many⟩
    split
    · exact (h1 _ _).same (refuse_same _ _ _) (fun q => absurd q (refuse_fault _ _ _))
    · exact ((h1 _ _).step T _).same (shut_same _) (fun q => (shut_fault q).1)
theorem Inv.lines (T : Nat → List UInt8) (text : List UInt8) : ∀ (f p : Nat) (s : Rs), Inv s → Inv (linesF T text f p s)
  | 0, _, _, h => h
  | f + 1, p, s, h => by
    rw [linesF]
    split
    · exact Inv.lines T text f _ _ (h.line T _)
    · exact h
theorem Inv.start : Inv PureRd.start := ⟨rfl, fun p hp => by simp [PureRd.start] at hp, fun l hl => by simp [PureRd.start] at hl, fun _ => Nat.zero_le _⟩
theorem Inv.all (T : Nat → List UInt8) (text : List UInt8) : Inv (readLinesF T text PureRd.start) := by
  unfold readLinesF
  have h := Inv.lines T text (text.length + 1) 0 _ Inv.start
  split
  · exact h.same (refuse_same _ _ _) (fun q => absurd q (refuse_fault _ _ _))
  · exact h
theorem placeOf_lt {s : Rs} (h : Inv s) {k : List UInt8} {p : Nat} (hp : placeOf s k = some p) : p < s.names.length := by
  unfold placeOf at hp
  cases hf : s.places.find? (fun p => p.1 == k) with
  | none => rw [hf] at hp; cases hp
  | some q =>
    rw [hf] at hp
    have : q.2 = p := by simpa using hp
    rw [← this]
    exact h.pl q (List.mem_of_find?_eq_some hf)
theorem Inv.uses3 {s : Rs} (h : Inv s) : ∀ l ∈ s.lines, l.uses.length ≤ 3 := fun l hl => by
  have := (h.form l hl).2.2
  rw [this]
  unfold usesK
  repeat' split
  all_goals omega
end Go.Proofs.YtfmmmhcpdinhgabGreatDoor
/-
  What holds of connected lines. Pure.
-/
namespace Go.Proofs.YtfmmmhcpdinhgabGreatDoor
open Go.RowKit Go.Deep PureNet PureRd ShfKit
set_option maxRecDepth 100000

theorem plcI_in {s : Rs} (h : Inv s) {ws : List Wd} (hu : unk s ws = none) {i : Nat} (hi : i < ws.length) : 0 ≤ plcI s ws i ∧ plcI s ws i < (s.names.length : Int) := by
  have hy : ws[i]? = some ws[i] := List.getElem?_eq_getElem hi
  unfold plcI
  rw [hy]
  unfold unk at hu
  have hk := List.find?_eq_none.1 hu ws[i] (List.getElem_mem hi)
  cases hp : placeOf s ws[i].1 with
  | none => rw [hp] at hk; simp at hk
  | some p =>
    have := placeOf_lt h hp
    show 0 ≤ (((placeOf s ws[i].1).getD 0 : Nat) : Int) ∧ (((placeOf s ws[i].1).getD 0 : Nat) : Int) < _
    rw [hp]
    show 0 ≤ (p : Int) ∧ (p : Int) < _
    omega
theorem connF_out (s : Rs) : ∀ (ls : List Ln) (gs : List Ga) (os : List Int) (gs' : List Ga) (os' : List Int), connF s ls gs os = (none, gs', os') →
    gs'.length = gs.length + (ls.filter fun l => decide (l.kind ≠ 0)).length ∧ os'.length ≤ os.length + ls.length ∧ (∀ g ∈ gs', g ∈ gs ∨ ∃ l ∈ ls, l.kind ≠ 0 ∧ unk s l.uses = none ∧ g = gaOf s l) ∧ (∀ a ∈ os', a ∈ os ∨ ∃ l ∈ ls, l.kind = 0 ∧ unk s l.uses = none ∧ a = plcI s l.uses 0)
  | [], gs, os, gs', os', h => by
    simp only [connF, Prod.mk.injEq] at h
    obtain ⟨_, rfl, rfl⟩ := h
    exact ⟨rfl, Nat.le_refl _, fun g hg => .inl hg, fun a ha => .inl ha⟩
  | l :: t, gs, os, gs', os', h => by
    rw [connF] at h
    cases hu : unk s l.uses with
    | some y => rw [hu] at h; simp at h
    | none =>
      rw [hu] at h
      simp only at h
      by_cases hk : l.kind = 0
      · rw [if_pos hk] at h
        obtain ⟨a1, a2, a3, a4⟩ := connF_out s t gs _ gs' os' h
        refine ⟨by rw [a1]; simp [hk], by simp at a2 ⊢; omega, fun g hg => ?_, fun a ha => ?_⟩
        · rcases a3 g hg with q | ⟨m, m1, m2⟩
          · exact .inl q
          · exact .inr ⟨m, List.mem_cons_of_mem _ m1, m2⟩
        · rcases a4 a ha with q | ⟨m, m1, m2⟩
          · rcases List.mem_append.1 q with q | q
            · exact .inl q
            · exact .inr ⟨l, by simp, hk, hu, by simpa using q⟩
          · exact .inr ⟨m, List.mem_cons_of_mem _ m1, m2⟩
      · rw [if_neg hk] at h
        obtain ⟨a1, a2, a3, a4⟩ := connF_out s t _ os gs' os' h
        refine ⟨by rw [a1]; simp [hk]; omega, by simp at a2 ⊢; omega, fun g hg => ?_, fun a ha => ?_⟩
        · rcases a3 g hg with q | ⟨m, m1, m2⟩
          · rcases List.mem_append.1 q with q | q
            · exact .inl q
            · exact .inr ⟨l, by simp, hk, hu, by simpa using q⟩
          · exact .inr ⟨m, List.mem_cons_of_mem _ m1, m2⟩
        · rcases a4 a ha with q | ⟨m, m1, m2⟩
          · exact .inl q
          · exact .inr ⟨m, List.mem_cons_of_mem _ m1, m2⟩
/-- connected lines: as many gates as names, and each leans on lines. -/
theorem connF_fit {s : Rs} (h : Inv s) {gs : List Ga} {os : List Int} (hc : connF s s.lines [] [] = (none, gs, os)) : gs.length = s.names.length ∧ (∀ (i : Nat) (g : Ga), gs[i]? = some g → (1 ≤ g.kind ∧ g.kind ≤ 4) ∧ ∀ a ∈ leansOn g, 0 ≤ a ∧ a < (gs.length : Int)) := by
  obtain ⟨a1, a2, a3, a4⟩ := connF_out s s.lines [] [] gs os hc
  have hl : gs.length = s.names.length := by rw [a1, h.cnt]; simp
  refine ⟨hl, fun i g hg => ?_⟩
  rcases a3 g (List.mem_of_getElem? hg) with q | ⟨l, hm, hk, hu, rfl⟩
  · simp at q
  · obtain ⟨f1, f2, f3⟩ := h.form l hm
    refine ⟨⟨by show 1 ≤ l.kind; omega, f2⟩, fun a ha => ?_⟩
    rw [hl]
    unfold leansOn at ha
    have hk2 : (gaOf s l).kind = l.kind := rfl
    rw [hk2] at ha
    split at ha
    · rename_i h2
      have hlen : l.uses.length = 2 := by rw [f3, h2]; rfl
      simp only [List.mem_cons, List.not_mem_nil, or_false] at ha
      rcases ha with rfl | rfl
      · exact plcI_in h hu (i := 0) (by omega)
      · exact plcI_in h hu (i := 1) (by omega)
    · split at ha
      · rename_i h2
        have hlen : l.uses.length = 3 := by rw [f3, h2]; rfl
        simp only [List.mem_cons, List.not_mem_nil, or_false] at ha
        rcases ha with rfl | rfl | rfl
        · exact plcI_in h hu (i := 0) (by omega)
        · exact plcI_in h hu (i := 1) (by omega)
        · exact plcI_in h hu (i := 2) (by omega)
      · simp at ha
end Go.Proofs.YtfmmmhcpdinhgabGreatDoor
