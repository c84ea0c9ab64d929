import Derived.ProofKit
import Derived.Deep.Slices
import Derived.LaidLaws
import Derived.MakeChecks
import Derived.Laws.IdiomArrays
import Derived.ChangeArms
import Derived.DataElems
import Derived.Lib.LaidTab
import Derived.Test.YthehcjjckabljaaGreatDoorZ22
/-
  Catalog's laws: what comes in (the laid variables, a table).
-/
namespace Go.Proofs.YthehcjjckabljaaGreatDoor
open Go.ChangeShapes Go.WideShapes Go.ChangeAt Go.RowKit Go.Deep
set_option maxRecDepth 100000

theorem own : ownKnob Tryz.prog.godebug = none := by kernel_rfl
theorem laidOut : laidOutB Tryz.prog = true := by kernel_rfl
theorem cells3 : Tryz.prog.cellsOf 3 = 1 := by kernel_rfl
theorem cells9 : Tryz.prog.cellsOf 9 = 1 := by kernel_rfl
theorem cells22 : Tryz.prog.cellsOf 22 = 1 := by kernel_rfl
theorem cells23 : Tryz.prog.cellsOf 23 = 1 := by kernel_rfl
theorem cells24 : Tryz.prog.cellsOf 24 = 1 := by kernel_rfl
theorem cells26 : Tryz.prog.cellsOf 26 = 5 := by kernel_rfl
theorem cells45 : Tryz.prog.cellsOf 45 = 2 := by kernel_rfl
/-! ### what the bound gives -/
theorem bulk_one {H : Type} (d : DataW H) : 1 ≤ Rows.uptoBulk d := by
  cases d with
  | lit l => cases l <;> simp [Rows.uptoBulk]
  | nil => simp [Rows.uptoBulk]
  | ptr d => simp [Rows.uptoBulk]
  | slice elems spare => simp [Rows.uptoBulk]
  | agg parts => simp [Rows.uptoBulk]
  | iface t d => simp [Rows.uptoBulk]
  | map entries => simp [Rows.uptoBulk]
  | held h => simp [Rows.uptoBulk]
theorem bulk_part {H : Type} {d : DataW H} {l : List (DataW H)} (h : d ∈ l) : Rows.uptoBulk d ≤ Rows.uptoBulkAll l := by
  induction l with
  | nil => cases h
  | cons x r ih =>
    simp only [Rows.uptoBulkAll]
    cases List.mem_cons.1 h with
    | inl e => subst e; omega
    | inr e => have := ih e; omega
theorem bulk_length {H : Type} (l : List (DataW H)) : l.length ≤ Rows.uptoBulkAll l := by
  induction l with
  | nil => simp [Rows.uptoBulkAll]
  | cons x r ih => have := bulk_one x; simp only [Rows.uptoBulkAll, List.length_cons]; omega

theorem cells182 : Tryz.prog.cellsOf 343 = 1 := by kernel_rfl
theorem star : "*" ++ "errors.errorString" = "*errors.errorString" := by decide
theorem row158 (u : TypeId) (h : Tryz.prog.typeName? 3 u = some "*errors.errorString") : u = 341 :=
  typeName_ptr_named (nm := "errors.errorString") (by rw [star]; kernel_rfl) (by kernel_rfl) (by decide) u (by rw [star]; exact h)
set_option maxRecDepth 100000 in
theorem laid_step {W : World} {n : String} {i : Nat} {text : List UInt8} {r : List (String × DataW Unit)} {ps all : List MemPlace} (hg : Tryz.prog.globalNamed n = some i) (ht : (Tryz.prog.globals[i]?).map (·.type) = some 86)
    (h : DataW.LaidVars Tryz.prog W ((n, .iface "*errors.errorString" (.ptr (.agg [.lit (.string text)]))) :: r) ps) (hsub : ∀ x ∈ ps, x ∈ all)
    (hrows : ∀ b off, MemPlace.cell b off ∈ all → (∃ c t, W.heap[b]? = some (.cells c t (0, 0))) ∧ ∀ u v, W.cell? ⟨b, off, none⟩ = some (.iface u v) → Value.okWide Tryz.prog W .any 0 u v) :
    ∃ (a : Addr) (q : List MemPlace), W.cell? ⟨i, 0, none⟩ = some (.iface 341 (.pointer (some a))) ∧ (∃ c t, W.heap[a.block]? = some (.cells c t (0, 0))) ∧ a.spot = none ∧ DataW.LaidVars Tryz.prog W r q ∧ ps = .cell i 0 :: .cell a.block a.off :: q := by
  obtain ⟨g, t, cs, f, p, q, hg0, ht0, hv0, hd0, hr, e⟩ := h
  obtain rfl := Option.some.inj (hg.symm.trans hg0)
  obtain rfl := Option.some.inj (ht.symm.trans ht0)
  obtain ⟨l0⟩ := cs
  have ok0 : ∀ u v, l0 = [.iface u v] → Value.okWide Tryz.prog W .any 0 u v := fun u v el => by
    subst el
    exact (hrows i 0 (hsub _ (by rw [e]; simp [MemPlace.row]))).2 u v (by simpa using World.var?_cell hg0 hv0 0)
  obtain ⟨a, s, rfl, hc, _, _, rfl⟩ := errorString_of_trod Tryz.underlying86 row158 Tryz.underlying341 Tryz.underlying343 rfl rfl Tryz.underlying9 cells182 cells9 hd0 ok0
  have hsp := World.cell?_spot hc
  have hps : ps = .cell i 0 :: .cell a.block a.off :: q := by rw [e]; simp [MemPlace.row]
  exact ⟨a, q, by simpa using World.var?_cell hg0 hv0 0, (hrows a.block a.off (hsub _ (by rw [hps]; simp))).1, hsp, hr, hps⟩

theorem tab64_is : (Rows.laid_math_bits_deBruijn64tab : DataW Unit) = Lib.tabData .u8 [0, 1, 56, 2, 57, 49, 28, 3, 61, 58, 42, 50, 38, 29, 17, 4, 62, 47, 59, 36, 45, 43, 51, 22, 53, 39, 33, 30, 24, 18, 12, 5, 63, 55, 48, 27, 60, 41, 37, 16, 46, 35, 44, 21, 52, 32, 23, 11, 54, 26, 40, 15, 34, 20, 31, 10, 25, 14, 19, 9, 13, 8, 7, 6] := by kernel_rfl
theorem laid_skip {W : World} {n : String} {d : DataW Unit} {r : List (String × DataW Unit)} {ps : List MemPlace} (h : DataW.LaidVars Tryz.prog W ((n, d) :: r) ps) : ∃ pre q, DataW.LaidVars Tryz.prog W r q ∧ ps = pre ++ q := by
  obtain ⟨g, t, cs, f, p, q, hg0, ht0, hv0, hd0, hr, e⟩ := h
  exact ⟨_, q, hr, e⟩
theorem tab_of_laid {W : World} {r : List (String × DataW Unit)} {ps : List MemPlace} (h : DataW.LaidVars Tryz.prog W (("math/bits.deBruijn64tab", Rows.laid_math_bits_deBruijn64tab) :: r) ps) : Nm.Tz W := by
  obtain ⟨g', t', cs, fuel, p, q, hg', ht', hvar, hd, _, _⟩ := h
  obtain rfl : 16 = g' := Option.some.inj ((show Tryz.prog.globalNamed "math/bits.deBruijn64tab" = some 16 by kernel_rfl).symm.trans hg')
  obtain rfl : 335 = t' := Option.some.inj ((show (Tryz.prog.globals[16]?).map (·.type) = some 335 by kernel_rfl).symm.trans ht')
  rw [tab64_is] at hd
  have hc := Lib.cells_of_tab Tryz.underlying335 Tryz.underlying5 (by kernel_rfl) (by kernel_rfl) hd
  have hcell : W.cell? ⟨16, 15, none⟩ = cs.toList[15]? := by simpa using World.var?_cell hg' hvar 15
  rw [hc] at hcell
  refine ⟨hcell, ?_⟩
  have : W.heap[16]? ≠ none := by
    intro e
    simp [World.cell?, e] at hcell
  exact Nat.lt_of_not_le fun e => this (Array.getElem?_eq_none e)

set_option maxHeartbeats 4000000 in
/-- the laid variables, as the rows' list gives them. -/
theorem sents_of_laid {W : World} (h0 : laidMetH Tryz.prog Rows.catalogFormsUptoRow.laid W) : ∃ E, Env W W.heap.size E ∧ Tabs W ∧ 17 ≤ W.heap.size := by
  have h : laidMet Tryz.prog Rows.catalogFormsUptoRow.laid W := h0
  obtain ⟨ps, hl0, hnd, hrows⟩ := h
  obtain ⟨pre0, z0, hz0, f0⟩ := laid_skip hl0
  have htz := tab_of_laid hz0
  obtain ⟨pre1, z1, hz1, f1⟩ := laid_skip hz0
  obtain ⟨pre2, z2, hz2, f2⟩ := laid_skip hz1
  have hsub3 : ∀ x ∈ z2, x ∈ ps := fun x hx => by rw [f0, f1, f2]; simp [hx]
  have hnd3 : z2.Nodup := by
    rw [f0, f1, f2] at hnd
    exact List.Nodup.sublist ((List.sublist_append_right _ _).trans ((List.sublist_append_right _ _).trans (List.sublist_append_right _ _))) hnd
  obtain ⟨b0, q0, v0, o0, s0, hl1, e0⟩ := laid_step (W := W) (i := 14) (by kernel_rfl) (by kernel_rfl) hz2 (fun x hx => hsub3 x hx) hrows
  obtain ⟨b1, q1, v1, o1, s1, hl2, e1⟩ := laid_step (W := W) (i := 13) (by kernel_rfl) (by kernel_rfl) hl1 (fun x hx => hsub3 x (by rw [e0]; simp [hx])) hrows
  obtain ⟨a0, q2, v2, o2, s2, hl3, e2⟩ := laid_step (W := W) (i := 10) (by kernel_rfl) (by kernel_rfl) hl2 (fun x hx => hsub3 x (by rw [e0, e1]; simp [hx])) hrows
  obtain ⟨a1, q3, v3, o3, s3, hl4, e3⟩ := laid_step (W := W) (i := 0) (by kernel_rfl) (by kernel_rfl) hl3 (fun x hx => hsub3 x (by rw [e0, e1, e2]; simp [hx])) hrows
  obtain ⟨a2, q4, v4, o4, s4, hl5, e4⟩ := laid_step (W := W) (i := 6) (by kernel_rfl) (by kernel_rfl) hl4 (fun x hx => hsub3 x (by rw [e0, e1, e2, e3]; simp [hx])) hrows
  obtain ⟨a3, q5, v5, o5, s5, hl6, e5⟩ := laid_step (W := W) (i := 7) (by kernel_rfl) (by kernel_rfl) hl5 (fun x hx => hsub3 x (by rw [e0, e1, e2, e3, e4]; simp [hx])) hrows
  obtain ⟨a4, q6, v6, o6, s6, hl7, e6⟩ := laid_step (W := W) (i := 3) (by kernel_rfl) (by kernel_rfl) hl6 (fun x hx => hsub3 x (by rw [e0, e1, e2, e3, e4, e5]; simp [hx])) hrows
  obtain ⟨a5, q7, v7, o7, s7, hl8, e7⟩ := laid_step (W := W) (i := 2) (by kernel_rfl) (by kernel_rfl) hl7 (fun x hx => hsub3 x (by rw [e0, e1, e2, e3, e4, e5, e6]; simp [hx])) hrows
  obtain ⟨a6, q8, v8, o8, s8, hl9, e8⟩ := laid_step (W := W) (i := 4) (by kernel_rfl) (by kernel_rfl) hl8 (fun x hx => hsub3 x (by rw [e0, e1, e2, e3, e4, e5, e6, e7]; simp [hx])) hrows
  obtain ⟨a7, q9, v9, o9, s9, hl10, e9⟩ := laid_step (W := W) (i := 8) (by kernel_rfl) (by kernel_rfl) hl9 (fun x hx => hsub3 x (by rw [e0, e1, e2, e3, e4, e5, e6, e7, e8]; simp [hx])) hrows
  obtain ⟨a8, q10, v10, o10, s10, hl11, e10⟩ := laid_step (W := W) (i := 9) (by kernel_rfl) (by kernel_rfl) hl10 (fun x hx => hsub3 x (by rw [e0, e1, e2, e3, e4, e5, e6, e7, e8, e9]; simp [hx])) hrows
  obtain ⟨a9, q11, v11, o11, s11, hl12, e11⟩ := laid_step (W := W) (i := 1) (by kernel_rfl) (by kernel_rfl) hl11 (fun x hx => hsub3 x (by rw [e0, e1, e2, e3, e4, e5, e6, e7, e8, e9, e10]; simp [hx])) hrows
  obtain ⟨a10, q12, v12, o12, s12, hl13, e12⟩ := laid_step (W := W) (i := 5) (by kernel_rfl) (by kernel_rfl) hl12 (fun x hx => hsub3 x (by rw [e0, e1, e2, e3, e4, e5, e6, e7, e8, e9, e10, e11]; simp [hx])) hrows
  rw [e0, e1, e2, e3, e4, e5, e6, e7, e8, e9, e10, e11, e12] at hnd3
  have hsub : ([a0, a1, a2, a3, a4, a5, a6, a7, a8, a9, a10].map fun a => MemPlace.cell a.block a.off).Nodup := List.Nodup.sublist (.cons _ (.cons _ (.cons _ (.cons _ (.cons _ (.cons_cons _ (.cons _ (.cons_cons _ (.cons _ (.cons_cons _ (.cons _ (.cons_cons _ (.cons _ (.cons_cons _ (.cons _ (.cons_cons _ (.cons _ (.cons_cons _ (.cons _ (.cons_cons _ (.cons _ (.cons_cons _ (.cons _ (.cons_cons _ (.cons _ (.cons_cons _ (List.nil_sublist _))))))))))))))))))))))))))) hnd3
  have hL : [a0, a1, a2, a3, a4, a5, a6, a7, a8, a9, a10].Nodup := (List.pairwise_map.1 hsub).imp (fun {a b} hab e => hab (by rw [e]))
  have hne : ∀ i j : Nat, i < 11 → j < 11 → (fun k => #[a0, a1, a2, a3, a4, a5, a6, a7, a8, a9, a10].getD k a0) i = (fun k => #[a0, a1, a2, a3, a4, a5, a6, a7, a8, a9, a10].getD k a0) j → i = j := fun i j hi hj e => by
    have e1 : ∀ k (hk : k < 11), #[a0, a1, a2, a3, a4, a5, a6, a7, a8, a9, a10].getD k a0 = [a0, a1, a2, a3, a4, a5, a6, a7, a8, a9, a10][k]'(by simpa using hk) := fun k hk => by simp [Array.getD, hk]
    simp only [e1 i hi, e1 j hj] at e
    have hp := List.pairwise_iff_getElem.1 hL
    rcases Nat.lt_trichotomy i j with h | h | h
    · exact absurd e (hp i j _ _ h)
    · exact h
    · exact absurd e.symm (hp j i _ _ h)
  have hz16 := htz.2
  refine ⟨fun k => #[a0, a1, a2, a3, a4, a5, a6, a7, a8, a9, a10].getD k a0, ⟨⟨fun i hi => ?_, fun i hi => ?_, hne⟩, ?_, fun i hi => ?_, Nat.le_refl _⟩, ⟨htz, ⟨_, _, v1⟩, ⟨_, _, v0⟩⟩, by omega⟩
  · match i, hi with
    | 0, _ => exact v2
    | 1, _ => exact v3
    | 2, _ => exact v4
    | 3, _ => exact v5
    | 4, _ => exact v6
    | 5, _ => exact v7
    | 6, _ => exact v8
    | 7, _ => exact v9
    | 8, _ => exact v10
    | 9, _ => exact v11
    | 10, _ => exact v12
  · match i, hi with
    | 0, _ => exact o2
    | 1, _ => exact o3
    | 2, _ => exact o4
    | 3, _ => exact o5
    | 4, _ => exact o6
    | 5, _ => exact o7
    | 6, _ => exact o8
    | 7, _ => exact o9
    | 8, _ => exact o10
    | 9, _ => exact o11
    | 10, _ => exact o12
  · have := World.block_lt_of_cell? W _ v2
    exact this
  · match i, hi with
    | 0, _ => exact (by obtain ⟨c, t, ho⟩ := o2; exact lt_of_block ho)
    | 1, _ => exact (by obtain ⟨c, t, ho⟩ := o3; exact lt_of_block ho)
    | 2, _ => exact (by obtain ⟨c, t, ho⟩ := o4; exact lt_of_block ho)
    | 3, _ => exact (by obtain ⟨c, t, ho⟩ := o5; exact lt_of_block ho)
    | 4, _ => exact (by obtain ⟨c, t, ho⟩ := o6; exact lt_of_block ho)
    | 5, _ => exact (by obtain ⟨c, t, ho⟩ := o7; exact lt_of_block ho)
    | 6, _ => exact (by obtain ⟨c, t, ho⟩ := o8; exact lt_of_block ho)
    | 7, _ => exact (by obtain ⟨c, t, ho⟩ := o9; exact lt_of_block ho)
    | 8, _ => exact (by obtain ⟨c, t, ho⟩ := o10; exact lt_of_block ho)
    | 9, _ => exact (by obtain ⟨c, t, ho⟩ := o11; exact lt_of_block ho)
    | 10, _ => exact (by obtain ⟨c, t, ho⟩ := o12; exact lt_of_block ho)


theorem u64_wf {n : Int} (h : (Lit.int .u64 n).wf = true) : 0 ≤ n ∧ n ≤ 18446744073709551615 := by
  have e1 : IntKind.u64.min = 0 := rfl
  have e2 : IntKind.u64.max = 18446744073709551615 := rfl
  simpa [Lit.wf, e1, e2] using h
theorem i64_rng {n : Int} (h : (Lit.int .i64 n).wf = true) : -9223372036854775808 ≤ n ∧ n < 9223372036854775808 := by
  have e1 : IntKind.i64.min = -9223372036854775808 := rfl
  have e2 : IntKind.i64.max = 9223372036854775807 := rfl
  simp [Lit.wf, e1, e2] at h
  omega

section
variable {H : Type} {enc : TypeId × Value → H} {W : World} {spare : Nat → Bool} {held : Bool}

theorem addC0 (a : Addr) : a.add 0 = a := add_nil a
/-- a row. -/
theorem open_row {n : Nat} {a : Addr} {cs : List Value} {x : DataW H × List MemPlace} (h1 : W.cells? 0 a 2 = some cs) (h2 : DataW.trod enc Tryz.prog W 0 spare held n 45 cs = some x) :
    ∃ r : Int × Nat, (-9223372036854775808 ≤ r.1 ∧ r.1 < 9223372036854775808) ∧ r.2 < 18446744073709551616 ∧ a.block < W.heap.size ∧ W.cell? a = some (.int .i64 r.1) ∧ W.cell? ⟨a.block, a.off + 1, none⟩ = some (.int .u64 (r.2 : Int)) := by
  have hm : (List.range 2).mapM (fun i => W.cell? (a.add i)) = some cs := by
    simpa [World.cells?] using h1
  have g : ∀ i, i < 2 → W.cell? (a.add i) = cs[i]? := fun i hi => mapM_some_get hm i i (by simp [hi])
  obtain ⟨xs, m, rfl, e2, hl, hxs, hall⟩ := DataW.trod_struct Tryz.underlying45 h2
  rw [cells45] at hl
  match cs, hl with
  | [v0, v1], _ =>
  have f0 := hall 0 _ rfl
  have f1 := hall 1 _ rfl
  simp [cells3, cells24] at f0 f1
  have hx2 : xs.length = 2 := by simpa using hxs
  rw [List.getElem?_eq_getElem (by omega)] at f0 f1
  obtain ⟨n0, q0, _, w0⟩ := DataW.trod_int Tryz.underlying3 f0
  obtain ⟨n1, q1, _, w1⟩ := DataW.trod_int Tryz.underlying24 f1
  simp at q0 q1
  subst q0
  subst q1
  have w0 := i64_rng w0
  have w1 := u64_wf w1
  have g0 := g 0 (by omega)
  have g1 := g 1 (by omega)
  have hs1 := World.cell?_spot g0
  obtain ⟨b, off, spot⟩ := a
  have hsn : spot = none := by simpa [Addr.add] using hs1
  subst hsn
  rw [addC] at g0 g1
  have hlt : b < W.heap.size := by simpa using World.block_lt_of_cell? W _ g0
  refine ⟨(n0, n1.toNat), w0, by show n1.toNat < _; omega, hlt, by simpa using g0, ?_⟩
  show _ = some (Value.int .u64 ((n1.toNat : Nat) : Int))
  rw [Int.toNat_of_nonneg w1.1]
  simpa using g1

/-- rows. -/
theorem open_rws {fuel : Nat} {v : Value} {x : DataW H × List MemPlace} (hf : DataW.trod enc Tryz.prog W 0 spare held fuel 23 [v] = some x) (hk : Rows.uptoBulk x.1 ≤ 1048576) :
    ∃ (sa : Option Addr) (ca : Nat) (l : List (Int × Nat)), v = .slice sa l.length ca ∧ RowsAt W sa l ∧ l.length ≤ 1048576 ∧ ∀ x ∈ l, (-9223372036854775808 ≤ x.1 ∧ x.1 < 9223372036854775808) ∧ x.2 < 18446744073709551616 := by
  rcases open_slice Tryz.underlying23 hf with ⟨hcs, hx⟩ | ⟨a, len, cap, m, n, D, Pl, hcs, _, hl, hm, hmm, hx, hall⟩
  · simp at hcs
    subst hcs
    exact ⟨none, 0, [], rfl, RowsAt.nil _ _, Nat.zero_le _, fun x hx => by cases hx⟩
  · simp at hcs
    subst hcs
    rw [cells45] at hx hall
    subst hx
    have hlm : len ≤ m := by rw [hmm]; split <;> omega
    have hb1 : Rows.uptoBulkAll ((List.range len).map D) ≤ 1048576 := by
      simp only [Rows.uptoBulk] at hk
      omega
    have hlen2 := bulk_length ((List.range len).map D)
    simp only [List.length_map, List.length_range] at hlen2
    have each : ∀ i, i < len → ∃ r : Int × Nat, (-9223372036854775808 ≤ r.1 ∧ r.1 < 9223372036854775808) ∧ r.2 < 18446744073709551616 ∧ (a.add (i * 2)).block < W.heap.size ∧ W.cell? (a.add (i * 2)) = some (.int .i64 r.1) ∧ W.cell? ⟨(a.add (i * 2)).block, (a.add (i * 2)).off + 1, none⟩ = some (.int .u64 (r.2 : Int)) := fun i hi => by
      obtain ⟨cs', h1, h2⟩ := hall i (by omega)
      exact open_row h1 h2
    obtain ⟨f, hf⟩ := choose_lt each
    have hlen : ((List.range len).map f).length = len := by simp
    refine ⟨some a, cap, (List.range len).map f, by rw [hlen], ⟨fun k hk => ?_⟩, by rw [hlen]; omega, fun y hy => ?_⟩
    · rw [hlen] at hk
      obtain ⟨_, _, h0, c0, c1⟩ := hf k hk
      rw [add_block] at h0
      exact ⟨a, rfl, h0, by simpa using c0, by simpa using c1⟩
    · obtain ⟨k, hk, rfl⟩ := List.mem_map.1 hy
      have := hf k (List.mem_range.1 hk)
      exact ⟨this.1, this.2.1⟩

/-- numbers. -/
theorem open_nums {fuel : Nat} {v : Value} {x : DataW H × List MemPlace} (hf : DataW.trod enc Tryz.prog W 0 spare held fuel 22 [v] = some x) (hk : Rows.uptoBulk x.1 ≤ 1048576) :
    ∃ (sa : Option Addr) (ca : Nat) (l : List Int), v = .slice sa l.length ca ∧ IntsAt W sa l ∧ l.length ≤ 1048576 ∧ ∀ x ∈ l, -9223372036854775808 ≤ x ∧ x < 9223372036854775808 := by
  rcases open_slice Tryz.underlying22 hf with ⟨hcs, hx⟩ | ⟨a, len, cap, m, n, D, Pl, hcs, _, hl, hm, hmm, hx, hall⟩
  · simp at hcs
    subst hcs
    exact ⟨none, 0, [], rfl, IntsAt.nil _ _, Nat.zero_le _, fun x hx => by cases hx⟩
  · simp at hcs
    subst hcs
    rw [cells3] at hx hall
    subst hx
    have hlm : len ≤ m := by rw [hmm]; split <;> omega
    have hb1 : Rows.uptoBulkAll ((List.range len).map D) ≤ 1048576 := by
      simp only [Rows.uptoBulk] at hk
      omega
    have hlen2 := bulk_length ((List.range len).map D)
    simp only [List.length_map, List.length_range] at hlen2
    have each : ∀ i, i < len → ∃ r : Int, (-9223372036854775808 ≤ r ∧ r < 9223372036854775808) ∧ (a.add i).block < W.heap.size ∧ W.cell? (a.add i) = some (.int .i64 r) := fun i hi => by
      obtain ⟨cs', h1, h2⟩ := hall i (by omega)
      obtain ⟨z, e0, _, w0⟩ := DataW.trod_int Tryz.underlying3 h2
      subst e0
      have h3 : W.cell? (a.add i) = some (.int .i64 z) := by
        simp [World.cells?, Nat.mul_one, addC0] at h1
        cases hq : W.cell? (a.add i) with
        | none => rw [hq] at h1; cases h1
        | some u =>
          rw [hq] at h1
          simp at h1
          rw [h1]
      exact ⟨z, i64_rng w0, World.block_lt_of_cell? W _ h3, h3⟩
    obtain ⟨f, hf⟩ := choose_lt each
    have hlen : ((List.range len).map f).length = len := by simp
    refine ⟨some a, cap, (List.range len).map f, by rw [hlen], ⟨fun k hk => ?_⟩, by rw [hlen]; omega, fun y hy => ?_⟩
    · rw [hlen] at hk
      obtain ⟨_, h0, c0⟩ := hf k hk
      rw [add_block] at h0
      exact ⟨a, rfl, h0, by simpa using c0⟩
    · obtain ⟨k, hk, rfl⟩ := List.mem_map.1 hy
      exact (hf k (List.mem_range.1 hk)).1

end
end Go.Proofs.YthehcjjckabljaaGreatDoor
/-
  CatalogTurns, the pure side: names, a disk of one table's files, what tidy leaves.
-/
namespace Go.Proofs.YthehcjjckabljaaGreatDoor
open Go.RowKit Go.Deep
set_option maxRecDepth 100000
set_option linter.unusedSimpArgs false
set_option linter.unusedVariables false

/-! ### names -/
theorem parU_hex {u : Nat} (hu : u < 18446744073709551616) : parU (PureHex.hexW 16 u) = (u, 0) := by
  unfold parU
  rw [if_neg (by intro h; have := PureHex.hexW_len 16 u; rw [h] at this; cases this)]
  have := parH_hex 16 u [] (by omega)
  rw [List.append_nil] at this
  rw [this, Nat.mod_eq_of_lt (by omega)]
  rfl
theorem fileN_inj {u v : Nat} (hu : u < 18446744073709551616) (hv : v < 18446744073709551616) (h : fileN u = fileN v) : u = v := by
  have h1 : PureHex.hexW 16 u = PureHex.hexW 16 v := List.append_cancel_left h
  have h2 := parU_hex hu
  rw [h1, parU_hex hv] at h2
  exact (Prod.mk.inj h2).1.symm
theorem catN_inj {u v : Nat} (hu : u < 18446744073709551616) (hv : v < 18446744073709551616) (h : catN u = catN v) : u = v := by
  have h1 := genN_cat hu
  rw [h, genN_cat hv] at h1
  exact h1.symm
theorem cat_ne_file (g u : Nat) : catN g ≠ fileN u := fun h => by
  have := congrArg List.head? h
  simp [catN, fileN] at this
theorem genN_file (u : Nat) : genN (fileN u) = 0 := by
  have h1 : trimC (fileN u) = fileN u := by
    unfold trimC fileN
    rw [if_neg]
    simp
  have h2 : (parU (fileN u)).2 = 2 := by
    have d1 : digH (100 : UInt8).toNat = 13 := by decide
    have d2 : digH (45 : UInt8).toNat = 36 := by decide
    have e : fileN u = 100 :: 100 :: 45 :: PureHex.hexW 16 u := by unfold fileN; simp only [List.cons_append, List.nil_append]
    rw [e]
    generalize PureHex.hexW 16 u = r
    unfold parU
    rw [if_neg (List.cons_ne_nil _ _), parH_on (n := 0) (c := 100) (by rw [d1]; omega) (by omega), d1, parH_on (n := 0 * 16 + 13) (c := 100) (by rw [d1]; omega) (by omega), d1, parH_dig (c := 45) (by rw [d2]; omega)]
  unfold genN
  rw [h1, h2]
  rw [if_neg (by simp)]
theorem nameFile (u : Nat) : nameB (bs (fileN u)) = true := by
  have h1 : (bs (fileN u)).size = 19 := by
    show (fileN u).toArray.size = 19
    rw [List.size_toArray, fileN_len]
  have h2 : (bs (fileN u)).data.toList.all (fun c => nbB c.toNat) = true := by
    show (fileN u).all _ = true
    rw [List.all_eq_true]
    intro c hc
    unfold fileN at hc
    rcases List.mem_append.1 hc with h | h
    · simp only [List.mem_cons, List.not_mem_nil, or_false] at h
      rcases h with rfl | rfl | rfl <;> rfl
    · exact hexW_name _ _ c h
  unfold nameB
  rw [h1, h2]
  rfl

/-! ### files by name -/
theorem find_mem {k : List UInt8} {f : FileA} : ∀ {l : List (List UInt8 × FileA)}, (l.Pairwise fun a b => a.1 ≠ b.1) → (k, f) ∈ l → findA l k = some f
  | [], _, h => by cases h
  | a :: l, hp, h => by
    rw [List.pairwise_cons] at hp
    rcases List.mem_cons.1 h with rfl | h
    · simp [findA]
    · have hne : a.1 ≠ k := hp.1 _ h
      have := find_mem hp.2 h
      simpa [findA, hne] using this
theorem mem_find {k : List UInt8} {f : FileA} : ∀ {l : List (List UInt8 × FileA)}, findA l k = some f → (k, f) ∈ l
  | [], h => by simp [findA] at h
  | a :: l, h => by
    by_cases ha : a.1 = k
    · have hf : f = a.2 := by simp [findA, ha] at h; exact h.symm
      subst hf
      subst ha
      exact List.mem_cons_self
    · have h' : findA l k = some f := by simpa [findA, ha] using h
      exact List.mem_cons_of_mem _ (mem_find h')
theorem mem_ins {e x : List UInt8 × FileA} {l : List (List UInt8 × FileA)} : x ∈ insA e l ↔ x = e ∨ x ∈ l := by
  rw [(perm_ins e l).mem_iff, List.mem_cons]
theorem find_drop {k k' : List UInt8} (h : k' ≠ k) : ∀ {l : List (List UInt8 × FileA)}, findA (dropA k l) k' = findA l k'
  | [] => rfl
  | a :: l => by
    have ih := find_drop h (l := l)
    unfold dropA at ih ⊢
    rw [List.filter_cons]
    by_cases ha : a.1 = k
    · rw [if_neg (by simp [ha]), ih]
      simp [findA, ha, Ne.symm h]
    · rw [if_pos (by simp [ha])]
      by_cases hb : a.1 = k'
      · simp [findA, hb]
      · simpa [findA, hb] using ih

/-! ### tidy, where no trouble befalls it -/
theorem delete_x {A : PubA} {x : ByteArray} (ho : A.on = true) (hn : nameB x = true) {f : FileA} (hf : findA A.files (nm x) = some f) : deleteB x noTr A = (0, { A with files := dropA (nm x) A.files, c := { A.c with calls := A.c.calls + 1, used := A.c.used - f.blocks.length, most := max A.c.most (A.c.used - f.blocks.length) } }) := by
  have e : deleteA x A = (0, { A with files := dropA (nm x) A.files, c := { A.c with calls := A.c.calls + 1, used := A.c.used - f.blocks.length, most := max A.c.most (A.c.used - f.blocks.length) } }) := by
    unfold deleteA
    rw [if_pos hn, hf]
  unfold deleteB befX
  rw [if_pos ho, e]
  simp
theorem tidyL_all {b : Bn} (hb : b.l = []) {kept : List (List UInt8)} : ∀ (l : List ByteArray) (A : PubA), A.on = true → (∀ x ∈ l, nameB x = true) → (l.map nm).Nodup → (∀ x ∈ l, (findA A.files (nm x)).isSome = true) →
    ∃ A2, tidyL b kept l A = (0, A2) ∧ A2.on = true ∧ A2.B = A.B ∧ A2.Bs = A.Bs ∧ A2.c.used ≤ A.c.used ∧ A2.files = A.files.filter fun e => decide (e.1 ∈ kept) || !decide (e.1 ∈ l.map nm)
  | [], A, ho, _, _, _ => ⟨A, rfl, ho, rfl, rfl, Int.le_refl _, (List.filter_eq_self.2 (by simp)).symm⟩
  | x :: r, A, ho, hn, hd, hf => by
    rw [List.map_cons, List.nodup_cons] at hd
    by_cases hk : nm x ∈ kept
    · obtain ⟨A2, h1, h2, h3, h4, h5, h6⟩ := tidyL_all hb r A ho (fun y hy => hn y (by simp [hy])) hd.2 (fun y hy => hf y (by simp [hy]))
      refine ⟨A2, by rw [tidyL_kept hk]; exact h1, h2, h3, h4, h5, ?_⟩
      rw [h6]
      apply List.filter_congr
      intro e he
      by_cases hx : e.1 = nm x
      · rw [hx]; simp [hk]
      · simp [hx]
    · obtain ⟨f, hff⟩ := Option.isSome_iff_exists.1 (hf x (by simp))
      have hdel := delete_x ho (hn x (by simp)) hff
      have htr : b.tr A = noTr := tr_nil hb A
      obtain ⟨A2, h1, h2, h3, h4, h5, h6⟩ := tidyL_all hb r { A with files := dropA (nm x) A.files, c := { A.c with calls := A.c.calls + 1, used := A.c.used - f.blocks.length, most := max A.c.most (A.c.used - f.blocks.length) } } ho (fun y hy => hn y (by simp [hy])) hd.2 (fun y hy => by
        have hne : nm y ≠ nm x := fun e => hd.1 (by rw [← e]; exact List.mem_map.2 ⟨y, hy, rfl⟩)
        show (findA (dropA (nm x) A.files) (nm y)).isSome = true
        rw [find_drop hne]
        exact hf y (by simp [hy]))
      refine ⟨A2, ?_, h2, h3, h4, ?_, ?_⟩
      · rw [tidyL_on hk (by rw [htr, hdel]), htr, hdel]
        exact h1
      · have : A2.c.used ≤ A.c.used - (f.blocks.length : Int) := h5
        omega
      · rw [h6]
        show (dropA (nm x) A.files).filter _ = _
        unfold dropA
        rw [List.filter_filter]
        apply List.filter_congr
        intro e he
        by_cases hx : e.1 = nm x
        · simp [hx, hk]
        · simp [hx]
theorem map_names {A : PubA} (ho : A.on = true) : (namesA A).map nm = A.files.map Prod.fst := by
  unfold namesA
  rw [if_pos ho, List.map_map]
  rfl
theorem tidyB_all {b : Bn} (hb : b.l = []) {kept : List (List UInt8)} {A : PubA} (ho : A.on = true) (hr : Rise A.files) (hn : ∀ e ∈ A.files, nameB (bs e.1) = true) :
    ∃ A2, tidyB b kept A = (0, A2) ∧ A2.on = true ∧ A2.B = A.B ∧ A2.Bs = A.Bs ∧ A2.c.used ≤ A.c.used ∧ A2.files = A.files.filter fun e => decide (e.1 ∈ kept) := by
  have hne := hr.ne
  obtain ⟨A2, h1, h2, h3, h4, h5, h6⟩ := tidyL_all hb (kept := kept) (namesA A) A ho (fun x hx => by
    unfold namesA at hx
    rw [if_pos ho] at hx
    obtain ⟨e, he, rfl⟩ := List.mem_map.1 hx
    exact hn e he) (by rw [map_names ho]; exact List.pairwise_map.2 hne) (fun x hx => by
    unfold namesA at hx
    rw [if_pos ho] at hx
    obtain ⟨e, he, rfl⟩ := List.mem_map.1 hx
    rw [nm_bs, find_mem hne (f := e.2) he]
    rfl)
  refine ⟨A2, h1, h2, h3, h4, h5, ?_⟩
  rw [h6]
  apply List.filter_congr
  intro e he
  have : e.1 ∈ (namesA A).map nm := by rw [map_names ho]; exact List.mem_map.2 ⟨e, he, rfl⟩
  simp [this]

/-! ### the newest -/
theorem fold_newest {A : PubA} {G : Nat} : ∀ (l : List ByteArray) (m : Nat), m ≤ G → (∀ x ∈ l, genN (nm x) ≤ G) → (m = G ∨ ∃ x ∈ l, genN (nm x) = G ∧ (lengthB x A).2.2 = 0 ∧ (lengthB x A).2.1 = true) → l.foldl (stepN A) m = G
  | [], m, _, _, h => by
    rcases h with h | ⟨x, hx, _⟩
    · exact h
    · cases hx
  | x :: r, m, hm, hl, h => by
    have hx := hl x (by simp)
    show r.foldl (stepN A) (stepN A m x) = G
    refine fold_newest r _ ?_ (fun y hy => hl y (by simp [hy])) ?_
    · unfold stepN
      split
      · exact hx
      · exact hm
    · rcases h with h | ⟨y, hy, h1, h2, h3⟩
      · subst h
        left
        unfold stepN
        rw [if_neg (by omega)]
      · rcases List.mem_cons.1 hy with rfl | hy
        · left
          unfold stepN
          split
          · exact h1
          · next hc =>
            have : ¬ m < genN (nm y) := fun hlt => hc ⟨hlt, h2, h3⟩
            omega
        · exact .inr ⟨y, hy, h1, h2, h3⟩
end Go.Proofs.YthehcjjckabljaaGreatDoor
/-
  CatalogTurns, the pure side: the disk between two commits.
-/
namespace Go.Proofs.YthehcjjckabljaaGreatDoor
open Go.RowKit Go.Deep
set_option maxRecDepth 100000
set_option linter.unusedSimpArgs false
set_option linter.unusedVariables false

abbrev namesF1 (A : PubA) : List (List UInt8) := A.files.map Prod.fst
/-- the disk behind i tables, g of them committed. -/
structure TuA (A : PubA) (B g i : Nat) : Prop where
  on : A.on = true
  B : A.B = B
  Bs : A.Bs = 1099511627776
  used : A.c.used ≤ (i : Int) * 70000
  rise : Rise A.files
  each : ∀ e ∈ A.files, e.2.shut = true ∧ ((0 < g ∧ e.1 = catN g) ∨ ∃ u, u < 18446744073709551616 ∧ e.1 = fileN u)

/-- a diagram's file put there. -/
def putF (A : PubA) (u : Nat) : PubA := { A with files := insA (fileN u, ⟨true, []⟩) A.files, c := { A.c with calls := A.c.calls + 2 } }

section
variable {A : PubA} {B g i u : Nat} {b : Bn}
theorem create_has (ho : A.on = true) {x : ByteArray} (hn : nameB x = true) (h : (findA A.files (nm x)).isSome = true) (t : TrA) : createB x t A = (13, A) := by
  have e : createA x A = (13, A) := by
    unfold createA
    rw [if_pos hn, if_pos h]
  unfold createB befX
  rw [if_pos ho, e]
  simp
theorem create_new (ho : A.on = true) (h : findA A.files (fileN u) = none) : createB (bs (fileN u)) noTr A = (0, mkX A (bs (fileN u)) false [] 1) := create_x ⟨ho, nameFile u, h⟩
theorem seal_new (ho : A.on = true) (h : findA A.files (fileN u) = none) : sealB (bs (fileN u)) noTr (mkX A (bs (fileN u)) false [] 1) = (0, putF A u) := by
  rw [seal_x ⟨ho, nameFile u, h⟩]
  unfold mkX putF mostX
  simp
  rfl
theorem TuA.put (h : TuA A B g i) (hu : u < 18446744073709551616) (hn : findA A.files (fileN u) = none) : TuA (putF A u) B g i :=
  ⟨h.on, h.B, h.Bs, h.used, rise_ins h.rise hn _, fun e he => by
    rcases mem_ins.1 he with rfl | he
    · exact ⟨rfl, .inr ⟨u, hu, rfl⟩⟩
    · exact h.each e he⟩
theorem put_old {x : List UInt8} (h : (findA A.files x).isSome = true) (hn : findA A.files (fileN u) = none) : (findA (putF A u).files x).isSome = true := by
  by_cases hx : x = fileN u
  · subst hx; rw [hn] at h; cases h
  · show (findA (insA _ A.files) x).isSome = true
    rw [find_ins_other hx]
    exact h
theorem put_there (hn : findA A.files (fileN u) = none) : (findA (putF A u).files (fileN u)).isSome = true := by
  show (findA (insA _ A.files) (fileN u)).isSome = true
  rw [find_ins hn]
  rfl

theorem TuA.good (h : TuA A B g i) : ∀ e ∈ A.files, nameB (bs e.1) = true := fun e he => by
  rcases (h.each e he).2 with ⟨_, e1⟩ | ⟨u, _, e1⟩
  · rw [e1]; exact nameCat g
  · rw [e1]; exact nameFile u
theorem mem_namesA {x : ByteArray} (ho : A.on = true) (hx : x ∈ namesA A) : ∃ e ∈ A.files, x = bs e.1 := by
  unfold namesA at hx
  rw [if_pos ho] at hx
  obtain ⟨e, he, rfl⟩ := List.mem_map.1 hx
  exact ⟨e, he, rfl⟩
/-- nothing of a later generation is there. -/
theorem TuA.over (h : TuA A B g i) (hg : g < 18446744073709551616) : overA A g = false := by
  unfold overA
  rw [List.any_eq_false]
  intro x hx
  obtain ⟨e, he, rfl⟩ := mem_namesA h.on hx
  rw [nm_bs]
  rcases (h.each e he).2 with ⟨_, e1⟩ | ⟨u, _, e1⟩
  · rw [e1, genN_cat hg]; simp
  · rw [e1, genN_file]; simp
theorem TuA.none (h : TuA A B g i) (hg : g + 1 < 18446744073709551616) : findA A.files (catN (g + 1)) = none := by
  cases hf : findA A.files (catN (g + 1)) with
  | none => rfl
  | some f =>
    have hm := mem_find hf
    rcases (h.each _ hm).2 with ⟨_, e1⟩ | ⟨u, _, e1⟩
    · have := catN_inj hg (by omega) e1
      omega
    · exact absurd e1 (cat_ne_file _ _)
/-- files that are there can be read. -/
theorem ready_there {A : PubA} (ho : A.on = true) (hr : Rise A.files) (hs : ∀ e ∈ A.files, e.2.shut = true) : ∀ l : List ByteArray, (∀ x ∈ l, nameB x = true ∧ (findA A.files (nm x)).isSome = true) → readyE A l [] = 0 := by
  have hin : ∀ l : List ByteArray, (∀ x ∈ l, nameB x = true ∧ (findA A.files (nm x)).isSome = true) → readyIn A l = 0 := by
    intro l
    induction l with
    | nil => intro _; rfl
    | cons x r ih =>
      intro hl
      obtain ⟨hn, hf⟩ := hl x (by simp)
      obtain ⟨f, hff⟩ := Option.isSome_iff_exists.1 hf
      have hsh := hs _ (mem_find hff)
      have he : readE A x = 0 := by
        unfold readE lengthB lengthA
        rw [if_pos ho, if_pos hn, hff]
        unfold readOf
        simp only [] at hsh
        simp [hsh]
      show (if readE A x ≠ 0 then readE A x else readyIn A r) = 0
      rw [if_neg (by simp [he])]
      exact ih (fun y hy => hl y (by simp [hy]))
  intro l hl
  unfold readyE
  rw [if_neg (by simp [ho]), if_neg (by simp [readyOut])]
  exact hin l hl
theorem mem_sortU {x : ByteArray} {l : List (List UInt8)} (h : x ∈ sortU l) : ∃ y ∈ l, x = bs y := by
  unfold sortU at h
  obtain ⟨y, hy, rfl⟩ := List.mem_map.1 h
  exact ⟨y, mem_uniq.1 (List.mem_mergeSort.1 hy), rfl⟩
theorem ready_rows {A : PubA} (ho : A.on = true) (hr : Rise A.files) (hs : ∀ e ∈ A.files, e.2.shut = true) {rows : List (Int × Nat)} (h : ∀ x ∈ rows, (findA A.files (fileN x.2)).isSome = true) : readyE A (sortU (filesN rows)) [] = 0 :=
  ready_there ho hr hs _ (fun x hx => by
    obtain ⟨y, hy, rfl⟩ := mem_sortU hx
    unfold filesN at hy
    obtain ⟨r, hr, rfl⟩ := List.mem_map.1 hy
    exact ⟨nameFile _, h r hr⟩)

/-- what a commit asks of the bench. -/
theorem TuA.lay (h : TuA A B g i) (hb : b.l = []) {K : Nat} (hB : B = 32 + 32 * K) (hK : 1 ≤ K ∧ K ≤ 2046) {t : Tbl} (hf : FormedIs t) (hn : t.Num) (hg : g + 1 < 18446744073709551616) (hi : i ≤ 1048576) : LayOk b A (bs (catN (g + 1))) 5 K (recsN t (g + 1)) := by
  have hl : (recsN t (g + 1)).length ≤ 70000 := by
    rw [recsN_len]
    have := hf.vars.2
    have := hf.rows
    omega
  have hnb : nBlocks K (recsN t (g + 1)).length ≤ 70000 := by
    unfold nBlocks
    calc ((recsN t (g + 1)).length + K - 1) / K ≤ ((recsN t (g + 1)).length * K) / K := by
          apply Nat.div_le_div_right
          have h1 : 1 ≤ (recsN t (g + 1)).length := by rw [recsN_len]; omega
          obtain ⟨a, ha⟩ : ∃ a, (recsN t (g + 1)).length = a + 1 := ⟨_, (Nat.sub_add_cancel h1).symm⟩
          obtain ⟨c, hc⟩ : ∃ c, K = c + 1 := ⟨_, (Nat.sub_add_cancel hK.1).symm⟩
          rw [ha, hc, Nat.add_mul, Nat.mul_add]
          omega
      _ = (recsN t (g + 1)).length := Nat.mul_div_cancel _ (by omega)
      _ ≤ 70000 := hl
  refine ⟨hb, ⟨h.on, nameCat _, h.none hg⟩, ⟨?_, ?_, ?_, ?_⟩, ⟨hK.1, by omega⟩, by decide, by decide, recs_small hn hg (by have := hf.vars.2; omega), by omega, ?_⟩
  · rw [h.B]; omega
  · rw [h.B]; omega
  · rw [h.B]; omega
  · rw [h.B]; omega
  · rw [h.Bs]
    have := h.used
    omega
end
end Go.Proofs.YthehcjjckabljaaGreatDoor
/-
  CatalogTurns, the pure side: behind a commit; how many files there are.
-/
namespace Go.Proofs.YthehcjjckabljaaGreatDoor
open Go.RowKit Go.Deep
set_option maxRecDepth 100000
set_option linter.unusedSimpArgs false
set_option linter.unusedVariables false

section
variable {A : PubA} {B g i u K : Nat} {b : Bn} {t : Tbl}
abbrev blsT (K B : Nat) (t : Tbl) (g : Nat) : List (List UInt8) := blocksOf 5 K B (recsN t g) (nBlocks K (recsN t g).length)
theorem blsT_few (hK : 1 ≤ K) (hf : FormedIs t) : (blsT K B t g).length ≤ 70000 := by
  have hl : (recsN t g).length ≤ 70000 := by
    rw [recsN_len]
    have := hf.vars.2
    have := hf.rows
    omega
  rw [blocksOf_length]
  unfold nBlocks
  calc ((recsN t g).length + K - 1) / K ≤ ((recsN t g).length * K) / K := by
        apply Nat.div_le_div_right
        have h1 : 1 ≤ (recsN t g).length := by rw [recsN_len]; omega
        obtain ⟨a, ha⟩ : ∃ a, (recsN t g).length = a + 1 := ⟨_, (Nat.sub_add_cancel h1).symm⟩
        obtain ⟨c, hc⟩ : ∃ c, K = c + 1 := ⟨_, (Nat.sub_add_cancel hK).symm⟩
        rw [ha, hc, Nat.add_mul, Nat.mul_add]
        omega
    _ = (recsN t g).length := Nat.mul_div_cancel _ (by omega)
    _ ≤ 70000 := hl

theorem after_commit (h : TuA A B g i) (hK : 1 ≤ K) (hf : FormedIs t) (hn : t.Num) (hg : g + 1 < 18446744073709551616) (C : LayOk b A (bs (catN (g + 1))) 5 K (recsN t (g + 1))) (hrows : ∀ x ∈ t.rows, (findA A.files (fileN x.2)).isSome = true) :
    ∃ A2, tidyB b (filesN t.rows ++ [catN (g + 1)]) (putA A K t (g + 1)) = (0, A2) ∧ TuA A2 B (g + 1) (i + 1) ∧ TapX b A2 (bs (catN (g + 1))) K 5 (blsT K A.B t (g + 1)) (recsN t (g + 1)) ∧ newestA A2 = g + 1 ∧ readyE A2 (sortU (filesN t.rows)) [] = 0 ∧ (∀ x, x ∈ namesF1 A2 ↔ x = catN (g + 1) ∨ x ∈ filesN t.rows) := by
  have hnone := h.none hg
  have hfl : (putA A K t (g + 1)).files = insA (catN (g + 1), ⟨true, blsT K A.B t (g + 1)⟩) A.files := rfl
  have hrise : Rise (putA A K t (g + 1)).files := by rw [hfl]; exact rise_ins h.rise hnone _
  have hgood : ∀ e ∈ (putA A K t (g + 1)).files, nameB (bs e.1) = true := fun e he => by
    rw [hfl] at he
    rcases mem_ins.1 he with rfl | he
    · exact nameCat _
    · exact h.good e he
  obtain ⟨A2, h1, h2, h3, h4, h5, h6⟩ := tidyB_all C.nil (kept := filesN t.rows ++ [catN (g + 1)]) (A := putA A K t (g + 1)) h.on hrise hgood
  have hrise2 : Rise A2.files := by rw [h6]; exact hrise.filter _
  have hcat : (catN (g + 1), (⟨true, blsT K A.B t (g + 1)⟩ : FileA)) ∈ A2.files := by
    rw [h6]
    exact List.mem_filter.2 ⟨by rw [hfl]; exact mem_ins.2 (.inl rfl), by simp⟩
  have hused : A2.c.used ≤ ((i + 1 : Nat) : Int) * 70000 := by
    have e1 : (putA A K t (g + 1)).c.used = A.c.used + ((blsT K A.B t (g + 1)).length : Int) := rfl
    rw [e1] at h5
    have := blsT_few (B := A.B) (g := g + 1) hK hf
    have := h.used
    omega
  have hT : TuA A2 B (g + 1) (i + 1) := by
    refine ⟨h2, h3.trans h.B, h4.trans h.Bs, hused, hrise2, fun e he => ?_⟩
    rw [h6] at he
    obtain ⟨he1, he2⟩ := List.mem_filter.1 he
    rw [hfl] at he1
    rcases mem_ins.1 he1 with rfl | he1
    · exact ⟨rfl, .inl ⟨by omega, rfl⟩⟩
    · obtain ⟨a1, a2⟩ := h.each e he1
      refine ⟨a1, ?_⟩
      rcases a2 with ⟨p1, p2⟩ | a2
      · exfalso
        have hk := of_decide_eq_true he2
        rcases List.mem_append.1 hk with hk | hk
        · obtain ⟨r, _, hr⟩ := List.mem_map.1 hk
          exact cat_ne_file g r.2 (by rw [← p2]; exact hr.symm)
        · rw [List.mem_singleton, p2] at hk
          have := catN_inj (by omega) hg hk
          omega
      · exact .inr a2
  have hHas : Has A2 (bs (catN (g + 1))) (blsT K A.B t (g + 1)) := ⟨h2, nameCat _, find_mem hrise2.ne hcat⟩
  have hmem : ∀ x, x ∈ namesF1 A2 ↔ x = catN (g + 1) ∨ x ∈ filesN t.rows := fun x => by
    constructor
    · intro hx
      obtain ⟨e, he, rfl⟩ := List.mem_map.1 hx
      rw [h6] at he
      have hk := of_decide_eq_true (List.mem_filter.1 he).2
      rcases List.mem_append.1 hk with hk | hk
      · exact .inr hk
      · exact .inl (List.mem_singleton.1 hk)
    · intro hx
      rcases hx with rfl | hx
      · exact List.mem_map.2 ⟨_, hcat, rfl⟩
      · obtain ⟨r, hr, e1⟩ := List.mem_map.1 hx
        obtain ⟨f, hff⟩ := Option.isSome_iff_exists.1 (hrows r hr)
        refine List.mem_map.2 ⟨(x, f), ?_, rfl⟩
        rw [h6]
        refine List.mem_filter.2 ⟨?_, by simp [hx]⟩
        rw [hfl]
        refine mem_ins.2 (.inr ?_)
        rw [← e1]
        exact mem_find hff
  have hrows2 : ∀ x ∈ t.rows, (findA A2.files (fileN x.2)).isSome = true := fun x hx => by
    have := (hmem (fileN x.2)).2 (.inr (List.mem_map.2 ⟨x, hx, rfl⟩))
    obtain ⟨e, he, e1⟩ := List.mem_map.1 this
    rw [find_mem hrise2.ne (k := fileN x.2) (f := e.2) (by rw [← e1]; exact he)]
    rfl
  refine ⟨A2, h1, hT, ⟨C.nil, hHas, ⟨by rw [hT.B, ← h.B]; exact C.fit.h64, by rw [hT.B, ← h.B]; exact C.fit.hmax, by rw [hT.B, ← h.B]; exact C.fit.h32, by rw [hT.B, ← h.B]; exact C.fit.k⟩, C.hK, C.k1, C.k2, C.small, C.len, blocksOf_length _ _ _ _ _, fun j hj => ?_⟩, ?_, ready_rows h2 hrise2 (fun e he => (hT.each e he).1) hrows2, hmem⟩
  · rw [blocksOf_length] at hj
    rw [hT.B, ← h.B]
    exact blocksOf_get hj
  · unfold newestA
    refine fold_newest _ _ (Nat.zero_le _) (fun x hx => ?_) (.inr ⟨bs (catN (g + 1)), ?_, ?_, ?_, ?_⟩)
    · obtain ⟨e, he, rfl⟩ := mem_namesA h2 hx
      rw [nm_bs]
      rcases (hT.each e he).2 with ⟨_, e1⟩ | ⟨u, _, e1⟩
      · rw [e1, genN_cat hg]; exact Nat.le_refl _
      · rw [e1, genN_file]; omega
    · unfold namesA
      rw [if_pos h2]
      exact List.mem_map.2 ⟨_, hcat, rfl⟩
    · rw [nm_bs]; exact genN_cat hg
    · rw [length_has hHas]
    · rw [length_has hHas]
theorem TuA.rd (h : TuA A B g i) (c : Int) : TuA (rdX A c) B g i := ⟨h.on, h.B, h.Bs, h.used, h.rise, h.each⟩
theorem TuA.next (h : TuA A B g i) : TuA A B g (i + 1) := ⟨h.on, h.B, h.Bs, by have := h.used; omega, h.rise, h.each⟩
end

/-! ### how many files there are -/
/-- each once, as it first comes. -/
def dd (l : List Nat) : List Nat := l.foldl (fun acc u => if u ∈ acc then acc else acc ++ [u]) []
theorem dd_snoc (l : List Nat) (u : Nat) : dd (l ++ [u]) = if u ∈ dd l then dd l else dd l ++ [u] := by
  unfold dd
  rw [List.foldl_append]
  rfl
theorem dd_take (l : List Nat) : ∀ k, k ≤ l.length → (∀ u, u ∈ dd (l.take k) ↔ u ∈ l.take k) ∧ (dd (l.take k)).Nodup
  | 0, _ => by simp [dd]
  | k + 1, hk => by
    obtain ⟨ih1, ih2⟩ := dd_take l k (by omega)
    have e := List.take_succ_eq_append_getElem (l := l) (i := k) (by omega)
    rw [e, dd_snoc]
    by_cases h : l[k] ∈ dd (l.take k)
    · rw [if_pos h]
      refine ⟨fun u => ?_, ih2⟩
      rw [ih1, List.mem_append, List.mem_singleton]
      constructor
      · exact .inl
      · rintro (h1 | rfl)
        · exact h1
        · exact (ih1 _).1 h
    · rw [if_neg h]
      refine ⟨fun u => ?_, ?_⟩
      · rw [List.mem_append, List.mem_append, ih1]
      · rw [List.nodup_append]
        refine ⟨ih2, by simp, fun a ha b hb => ?_⟩
        rw [List.mem_singleton] at hb
        subst hb
        exact fun e1 => h (by rw [← e1]; exact ha)
theorem mem_dd {l : List Nat} {u : Nat} : u ∈ dd l ↔ u ∈ l := by
  have := (dd_take l l.length (Nat.le_refl _)).1 u
  rwa [List.take_length] at this
theorem nodup_dd (l : List Nat) : (dd l).Nodup := by
  have := (dd_take l l.length (Nat.le_refl _)).2
  rwa [List.take_length] at this
theorem dd_len_take (l : List Nat) {k : Nat} (hk : k < l.length) : (dd (l.take (k + 1))).length = (dd (l.take k)).length + if l[k] ∈ l.take k then 0 else 1 := by
  have e := List.take_succ_eq_append_getElem (l := l) (i := k) hk
  rw [e, dd_snoc]
  by_cases h : l[k] ∈ l.take k
  · rw [if_pos (mem_dd.2 h), if_pos h]; rfl
  · rw [if_neg (fun hx => h (mem_dd.1 hx)), if_neg h]; simp

theorem file_not_cat (u g : Nat) : bytesBefore (fileN u) (catN g) = false := by
  unfold fileN catN
  generalize PureHex.hexW 16 u = a
  generalize PureHex.hexW 16 g = c
  rfl
theorem head_rise {A : PubA} {g : Nat} {rows : List (Int × Nat)} (hr : Rise A.files) (hm : ∀ x, x ∈ namesF1 A ↔ x = catN g ∨ x ∈ filesN rows) : ∃ r, namesF1 A = catN g :: r := by
  cases hf : A.files with
  | nil =>
    have := (hm (catN g)).2 (.inl rfl)
    simp [hf] at this
  | cons e r =>
    refine ⟨r.map Prod.fst, ?_⟩
    have h1 : namesF1 A = e.1 :: r.map Prod.fst := by show A.files.map Prod.fst = _; rw [hf]; rfl
    rw [h1]
    have h2 := (hm e.1).1 (by rw [h1]; simp)
    rcases h2 with h2 | h2
    · rw [h2]
    · exfalso
      obtain ⟨x, _, hx⟩ := List.mem_map.1 h2
      have h3 := (hm (catN g)).2 (.inl rfl)
      rw [h1] at h3
      rcases List.mem_cons.1 h3 with h3 | h3
      · exact cat_ne_file g x.2 (h3.trans hx.symm)
      · obtain ⟨y, hy, hy2⟩ := List.mem_map.1 h3
        rw [hf] at hr
        have hb := (List.pairwise_cons.1 hr).1 y hy
        rw [hy2, ← hx] at hb
        rw [file_not_cat] at hb
        cases hb
theorem names_count {A : PubA} {g : Nat} {rows : List (Int × Nat)} (hr : Rise A.files) (hm : ∀ x, x ∈ namesF1 A ↔ x = catN g ∨ x ∈ filesN rows) (hlt : ∀ r ∈ rows, r.2 < 18446744073709551616) : (namesF1 A).length = (dd (rows.map Prod.snd)).length + 1 := by
  have hnd : (namesF1 A).Nodup := List.pairwise_map.2 hr.ne
  have hnd2 : (catN g :: (dd (rows.map Prod.snd)).map fileN).Nodup := by
    rw [List.nodup_cons]
    refine ⟨fun h => ?_, ?_⟩
    · obtain ⟨u, _, hu⟩ := List.mem_map.1 h
      exact cat_ne_file g u hu.symm
    · refine List.pairwise_map.2 ((nodup_dd _).imp_of_mem ?_)
      intro a c ha hc hne e
      refine hne (fileN_inj ?_ ?_ e)
      · obtain ⟨r, hr, rfl⟩ := List.mem_map.1 (mem_dd.1 ha)
        exact hlt r hr
      · obtain ⟨r, hr, rfl⟩ := List.mem_map.1 (mem_dd.1 hc)
        exact hlt r hr
  have hp : (namesF1 A).Perm (catN g :: (dd (rows.map Prod.snd)).map fileN) := (List.perm_ext_iff_of_nodup hnd hnd2).2 fun x => by
    rw [hm, List.mem_cons]
    constructor
    · rintro (h | h)
      · exact .inl h
      · obtain ⟨r, hr, rfl⟩ := List.mem_map.1 h
        exact .inr (List.mem_map.2 ⟨r.2, mem_dd.2 (List.mem_map.2 ⟨r, hr, rfl⟩), rfl⟩)
    · rintro (h | h)
      · exact .inl h
      · obtain ⟨u, hu, rfl⟩ := List.mem_map.1 h
        obtain ⟨r, hr, rfl⟩ := List.mem_map.1 (mem_dd.1 hu)
        exact .inr (List.mem_map.2 ⟨r, hr, rfl⟩)
  rw [hp.length_eq]
  simp
end Go.Proofs.YthehcjjckabljaaGreatDoor
/-
  CatalogTurns: block; tables that came in; what the loop has in hand.
-/
namespace Go.Proofs.YthehcjjckabljaaGreatDoor
open Go.RowKit Go.Deep
set_option maxRecDepth 100000
set_option linter.unusedSimpArgs false
set_option linter.unusedVariables false

theorem block_pos {n : Int} (h0 : 0 ≤ n) (h1 : n < 9223372036854775808) (w : World) : Calls Tryz.prog 15 #[.int .i64 n] w fun e w' => e = .returned (.int .i64 (64 + 32 * (n % 40))) ∧ w' = w := by
  have a1 : ¬ n < 0 := by omega
  have hm : n.tmod 40 = n % 40 := Int.tmod_eq_emod_of_nonneg h0
  have h2 := Int.emod_nonneg n (show (40 : Int) ≠ 0 by omega)
  have h3 := Int.emod_lt_of_pos n (show (0 : Int) < 40 by omega)
  have hw1 : IntKind.i64.wrap (32 * (n % 40)) = 32 * (n % 40) := by rw [IntKind.wrap_i64]; omega
  have hw2 : IntKind.i64.wrap (64 + 32 * (n % 40)) = 64 + 32 * (n % 40) := by rw [IntKind.wrap_i64]; omega
  go_enter Tryz.func15, Tryz.ntmps15
  go_wp2
  go_ret
  exact ⟨rfl, rfl⟩
theorem block_neg {n : Int} (h0 : n < 0) (h1 : -9223372036854775808 ≤ n) (w : World) : Calls Tryz.prog 15 #[.int .i64 n] w fun e w' => e = .returned (.int .i64 (64 + 32 * ((-(n + 1)) % 40))) ∧ w' = w := by
  have hw0 : IntKind.i64.wrap (n + 1) = n + 1 := by rw [IntKind.wrap_i64]; omega
  have hw3 : IntKind.i64.wrap (-(n + 1)) = -(n + 1) := by rw [IntKind.wrap_i64]; omega
  have h2 := Int.emod_nonneg (-(n + 1)) (show (40 : Int) ≠ 0 by omega)
  have h3 := Int.emod_lt_of_pos (-(n + 1)) (show (0 : Int) < 40 by omega)
  have hm : (-(n + 1)).tmod 40 = (-(n + 1)) % 40 := Int.tmod_eq_emod_of_nonneg (by omega)
  have hw1 : wrap64 (32 * ((-(n + 1)) % 40)) = 32 * ((-(n + 1)) % 40) := by have := IntKind.wrap_i64 (32 * ((-(n + 1)) % 40)); unfold wrap64; omega
  have hw2 : wrap64 (64 + 32 * ((-(n + 1)) % 40)) = 64 + 32 * ((-(n + 1)) % 40) := by unfold wrap64; omega
  go_enter Tryz.func15, Tryz.ntmps15
  go_wp2
  go_ret
  exact ⟨rfl, rfl⟩
theorem block_any {n : Int} (h : -9223372036854775808 ≤ n ∧ n < 9223372036854775808) (w : World) : ∃ B : Nat, (64 ≤ B ∧ B ≤ 65536 ∧ B % 32 = 0 ∧ B ≤ 1312) ∧ Calls Tryz.prog 15 #[.int .i64 n] w fun e w' => e = .returned (.int .i64 (B : Int)) ∧ w' = w := by
  by_cases h0 : n < 0
  · have h2 := Int.emod_nonneg (-(n + 1)) (show (40 : Int) ≠ 0 by omega)
    have h3 := Int.emod_lt_of_pos (-(n + 1)) (show (0 : Int) < 40 by omega)
    refine ⟨(64 + 32 * ((-(n + 1)) % 40)).toNat, by omega, ?_⟩
    rw [Int.toNat_of_nonneg (by omega)]
    exact block_neg h0 h.1 w
  · have h2 := Int.emod_nonneg n (show (40 : Int) ≠ 0 by omega)
    have h3 := Int.emod_lt_of_pos n (show (0 : Int) < 40 by omega)
    refine ⟨(64 + 32 * (n % 40)).toNat, by omega, ?_⟩
    rw [Int.toNat_of_nonneg (by omega)]
    exact block_pos (by omega) h.2 w

/-- a table that came in. -/
structure TbI where
  t : Tbl
  so : Option Addr
  sr : Option Addr
  co : Nat
  cr : Nat
structure TbsAt (w : World) (lo : Nat) (sa : Option Addr) (l : List TbI) : Prop where
  at_ : ∀ k (hk : k < l.length), ∃ a, sa = some a ∧ a.block < lo ∧ a.block < w.heap.size ∧ w.cell? (a.add (k * 5)) = some (.int .i64 l[k].t.vars) ∧ w.cell? ⟨(a.add (k * 5)).block, (a.add (k * 5)).off + 1, none⟩ = some (.slice l[k].so l[k].t.order.length l[k].co) ∧ w.cell? ⟨(a.add (k * 5)).block, (a.add (k * 5)).off + 2, none⟩ = some (.slice l[k].sr l[k].t.rows.length l[k].cr) ∧ w.cell? ⟨(a.add (k * 5)).block, (a.add (k * 5)).off + 3, none⟩ = some (.int .i64 l[k].t.next) ∧ w.cell? ⟨(a.add (k * 5)).block, (a.add (k * 5)).off + 4, none⟩ = some (.int .u64 (l[k].t.nf : Int)) ∧ TblAt w l[k].t l[k].so l[k].sr ∧ (∀ c, l[k].so = some c → l[k].t.order ≠ [] → c.block < lo) ∧ (∀ c, l[k].sr = some c → l[k].t.rows ≠ [] → c.block < lo)
theorem TbsAt.touch {w w' : World} {lo : Nat} {sa : Option Addr} {l : List TbI} {G : List Nat} (h : TbsAt w lo sa l) (t : Touch G w w') (hG : ∀ y ∈ G, lo ≤ y) : TbsAt w' lo sa l := ⟨fun k hk => by
  obtain ⟨a, e, h1, h2, c0, c1, c2, c3, c4, ht, ho, hr⟩ := h.at_ k hk
  have hb : (a.add (k * 5)).block = a.block := add_block a _
  have hn : a.block ∉ G := fun hx => by have := hG _ hx; omega
  have cc : ∀ q : Addr, q.block = a.block → w'.cell? q = w.cell? q := fun q hq => t.cell (by rw [hq]; exact h2) (by rw [hq]; exact hn)
  exact ⟨a, e, h1, Nat.lt_of_lt_of_le h2 t.size, (cc _ hb).trans c0, (cc ⟨_, _ + 1, none⟩ hb).trans c1, (cc ⟨_, _ + 2, none⟩ hb).trans c2, (cc ⟨_, _ + 3, none⟩ hb).trans c3, (cc ⟨_, _ + 4, none⟩ hb).trans c4, ht.touch2 t (fun c hc hne hx => by have := ho c hc hne; have := hG _ hx; omega) (fun c hc hne hx => by have := hr c hc hne; have := hG _ hx; omega), ho, hr⟩⟩

/-- k tables have been seen, g of them committed. -/
def TuW (w0 W : World) (b : Bn) (s0 : Pu.St) (F : List Nat) (B g k : Nat) : Prop :=
  ∃ n A s F', Here w0 W b n A s F F' ∧ TuA A B g k ∧ n ≤ 200000 * k ∧ SameP s0 s ∧ A.files.length ≤ 1025 ∧ s.lb = s0.lb
end Go.Proofs.YthehcjjckabljaaGreatDoor
/-
  CatalogTurns: a commit and a read of the loop.
-/
namespace Go.Proofs.YthehcjjckabljaaGreatDoor
open Go.RowKit Go.Deep
set_option maxRecDepth 100000
set_option linter.unusedSimpArgs false
set_option linter.unusedVariables false

section
variable {W : World} {b : Bn} {n : Nat} {A : PubA} {s : Pu.St} {F' : List Nat} {kb K B gen k : Nat} {t : Tbl} {so sr : Option Addr} {co cr : Nat}
theorem names_len_eq {A : PubA} (ho : A.on = true) : (namesA A).length = A.files.length := by
  unfold namesA
  rw [if_pos ho, List.length_map]
theorem turn_commit (S : Stand W b n A s F') (TA : TuA A B gen k) (hb : b.l = []) (hB : B = 32 + 32 * K) (hK : 1 ≤ K ∧ K ≤ 40) (hn : n < 274877906944) (hdk : DeskAt W kb b (K : Int) 1) (hkF : kb ∉ F') (hT : Tabs W) (h17 : 17 ≤ b.lo) (ht : TblAt W t so sr) (ho : ∀ a, so = some a → t.order ≠ [] → a.block ∉ F' ∧ a.block < W.heap.size) (hr : ∀ a, sr = some a → t.rows ≠ [] → a.block ∉ F' ∧ a.block < W.heap.size) (hfree : 64 * (K : Int) ≤ s.free) (hg : gen ≤ 1048576) (hk : k ≤ 1048576) (hf : formedB t = true) (hrows : ∀ x ∈ t.rows, (findA A.files (fileN x.2)).isSome = true) :
    ∃ A3 n3, n3 ≤ n + 70003 + (A.files.length + 1) ∧ TuA A3 B (gen + 1) (k + 1) ∧ TapX b A3 (bs (catN (gen + 1))) K 5 (blsT K A.B t (gen + 1)) (recsN t (gen + 1)) ∧ newestA A3 = gen + 1 ∧ readyE A3 (sortU (filesN t.rows)) [] = 0 ∧ (∀ x, x ∈ namesF1 A3 ↔ x = catN (gen + 1) ∨ x ∈ filesN t.rows) ∧
      Calls Tryz.prog 19 #[ptr kb, tblV t so sr co cr, .int .u64 (gen : Int)] W fun e w' => e = .returned (.int .i64 0) ∧ Went W w' b n3 A3 ((s.take (K : Int)).give (K : Int)) F' [] := by
  have FI := formed_is hf
  have C := TA.lay hb hB ⟨hK.1, by omega⟩ FI ht.num (by omega) hk (b := b)
  obtain ⟨A3, h1, h2, h3, h4, h5, h6⟩ := after_commit TA hK.1 FI ht.num (by omega) C hrows
  have hcm := commit_ok (gen := gen) (co := co) (cr := cr) S C hn hdk hkF hT h17 ht ho hr hfree (by omega) hf (TA.over (by omega)) (ready_rows TA.on TA.rise (fun e he => (TA.each e he).1) hrows)
  rw [h1] at hcm
  have hl : (recsN t (gen + 1)).length ≤ 70000 := by
    rw [recsN_len]
    have := FI.vars.2
    have := FI.rows
    omega
  have hnl : (namesA (putA A K t (gen + 1))).length = A.files.length + 1 := by
    rw [names_len_eq (A := putA A K t (gen + 1)) TA.on]
    exact (perm_ins _ _).length_eq
  exact ⟨A3, _, by rw [hnl]; omega, h2, h3, h4, h5, h6, hcm⟩
theorem turn_read (S : Stand W b n A s F') (hn : n < 549755813888) {bl : List (List UInt8)} (C : TapX b A (bs (catN (gen + 1))) K 5 bl (recsN t (gen + 1))) (hbl : bl.length ≤ 70000) (hdk : DeskAt W kb b (K : Int) 1) (hkF : kb ∉ F') (hlk : b.lo ≤ kb) (hT : Tabs W) (h17 : 17 ≤ b.lo) (hfree : 64 * (K : Int) ≤ s.free) (hg : gen ≤ 1048576) (hf : formedB t = true) (hnum : t.Num) (hnew : newestA A = gen + 1) (hrd : readyE A (sortU (filesN t.rows)) [] = 0) :
    Calls Tryz.prog 20 #[ptr kb] W fun e w' => ∃ so sr co cr, e = .returned (.tuple #[.agg #[.int .i64 t.vars, .slice so t.order.length co, .slice sr t.rows.length cr, .int .i64 t.next, .int .u64 (t.nf : Int)], .int .u64 ((gen + 1 : Nat) : Int), .int .i64 0]) ∧ TblAt w' t so sr ∧
      Went W w' b (n + 70000) (rdX A (bl.length : Int)) ((s.take (K : Int)).give (K : Int)) F' [] := by
  have h := readC_ok (gen := gen + 1) (K := K) S C hn hdk hkF hlk h17 hT hf hnum hfree (by omega) (by omega) hnew hrd
  exact h.mono fun e w' ⟨v, e1, ⟨so, sr, co, cr, e2, h1, _⟩, g⟩ => ⟨so, sr, co, cr, by rw [e1, e2]; rfl, h1, g.mono_n (by omega)⟩
theorem dd_few (l : List Nat) : ∀ k, k ≤ l.length → (dd (l.take k)).length ≤ k
  | 0, _ => by simp [dd]
  | k + 1, hk => by
    have := dd_few l k (by omega)
    rw [dd_len_take l (by omega)]
    split <;> omega
end
end Go.Proofs.YthehcjjckabljaaGreatDoor
