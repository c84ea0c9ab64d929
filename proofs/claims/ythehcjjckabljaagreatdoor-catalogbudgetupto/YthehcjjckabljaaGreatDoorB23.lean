import Derived.ProofKit
import Derived.Deep.Slices
import Derived.LaidLaws
import Derived.MakeChecks
import Derived.Laws.IdiomArrays
import Derived.ChangeArms
import Derived.DataElems
import Derived.Lib.LaidTab
import Derived.Deep.RegionHeld3
import Derived.BigQuiet
import Derived.Deep.RegionLaw
import Derived.Deep.AppendLies
import Derived.OwnWalk
import Derived.Laws.OwnMore
import Derived.Test.YthehcjjckabljaaGreatDoorB22
namespace Go.Proofs.YthehcjjckabljaaGreatDoor
open Go.ChangeShapes Go.WideShapes Go.ChangeAt Go.RowKit Go.Deep
set_option maxRecDepth 100000
theorem own : ownKnob Tryz.prog.godebug = none := by kernel_rfl
theorem laidOut : laidOutB Tryz.prog = true := by kernel_rfl
theorem cells3 : Tryz.prog.cellsOf 3 = 1 := by kernel_rfl
theorem cells9 : Tryz.prog.cellsOf 9 = 1 := by kernel_rfl
theorem cells22 : Tryz.prog.cellsOf 22 = 1 := by kernel_rfl
theorem cells23 : Tryz.prog.cellsOf 23 = 1 := by kernel_rfl
theorem cells24 : Tryz.prog.cellsOf 24 = 1 := by kernel_rfl
theorem cells26 : Tryz.prog.cellsOf 26 = 5 := by kernel_rfl
theorem cells45 : Tryz.prog.cellsOf 45 = 2 := by kernel_rfl
theorem bulk_one {H : Type} (d : DataW H) : 1 ≤ Rows.uptoBulk d := by
 cases d with
 | lit l => cases l <;> simp [Rows.uptoBulk]
 | nil => simp [Rows.uptoBulk]
 | ptr d => simp [Rows.uptoBulk]
 | slice elems spare => simp [Rows.uptoBulk]
 | agg parts => simp [Rows.uptoBulk]
 | iface t d => simp [Rows.uptoBulk]
 | map entries => simp [Rows.uptoBulk]
 | held h => simp [Rows.uptoBulk]
theorem bulk_part {H : Type} {d : DataW H} {l : List (DataW H)} (h : d ∈ l) : Rows.uptoBulk d ≤ Rows.uptoBulkAll l := by
 induction l with
 | nil => cases h
 | cons x r ih =>
  simp only [Rows.uptoBulkAll]
  cases List.mem_cons.1 h with
  | inl e => subst e; omega
  | inr e => have := ih e; omega
theorem bulk_length {H : Type} (l : List (DataW H)) : l.length ≤ Rows.uptoBulkAll l := by
 induction l with
 | nil => simp [Rows.uptoBulkAll]
 | cons x r ih => have := bulk_one x; simp only [Rows.uptoBulkAll, List.length_cons]; omega
theorem cells182 : Tryz.prog.cellsOf 343 = 1 := by kernel_rfl
theorem star : "*" ++ "errors.errorString" = "*errors.errorString" := by decide
theorem row158 (u : TypeId) (h : Tryz.prog.typeName? 3 u = some "*errors.errorString") : u = 341 :=
 typeName_ptr_named (nm := "errors.errorString") (by rw [star]; kernel_rfl) (by kernel_rfl) (by decide) u (by rw [star]; exact h)
set_option maxRecDepth 100000 in
theorem laid_step {W : World} {n : String} {i : Nat} {text : List UInt8} {r : List (String × DataW Unit)} {ps all : List MemPlace} (hg : Tryz.prog.globalNamed n = some i) (ht : (Tryz.prog.globals[i]?).map (·.type) = some 86)
  (h : DataW.LaidVars Tryz.prog W ((n, .iface "*errors.errorString" (.ptr (.agg [.lit (.string text)]))) :: r) ps) (hsub : ∀ x ∈ ps, x ∈ all)
  (hrows : ∀ b off, MemPlace.cell b off ∈ all → (∃ c t, W.heap[b]? = some (.cells c t (0, 0))) ∧ ∀ u v, W.cell? ⟨b, off, none⟩ = some (.iface u v) → Value.okWide Tryz.prog W .any 0 u v) :
  ∃ (a : Addr) (q : List MemPlace), W.cell? ⟨i, 0, none⟩ = some (.iface 341 (.pointer (some a))) ∧ (∃ c t, W.heap[a.block]? = some (.cells c t (0, 0))) ∧ a.spot = none ∧ DataW.LaidVars Tryz.prog W r q ∧ ps = .cell i 0 :: .cell a.block a.off :: q := by
 obtain ⟨g, t, cs, f, p, q, hg0, ht0, hv0, hd0, hr, e⟩ := h
 obtain rfl := Option.some.inj (hg.symm.trans hg0)
 obtain rfl := Option.some.inj (ht.symm.trans ht0)
 obtain ⟨l0⟩ := cs
 have ok0 : ∀ u v, l0 = [.iface u v] → Value.okWide Tryz.prog W .any 0 u v := fun u v el => by
  subst el
  exact (hrows i 0 (hsub _ (by rw [e]; simp [MemPlace.row]))).2 u v (by simpa using World.var?_cell hg0 hv0 0)
 obtain ⟨a, s, rfl, hc, _, _, rfl⟩ := errorString_of_trod Tryz.underlying86 row158 Tryz.underlying341 Tryz.underlying343 rfl rfl Tryz.underlying9 cells182 cells9 hd0 ok0
 have hsp := World.cell?_spot hc
 have hps : ps = .cell i 0 :: .cell a.block a.off :: q := by rw [e]; simp [MemPlace.row]
 exact ⟨a, q, by simpa using World.var?_cell hg0 hv0 0, (hrows a.block a.off (hsub _ (by rw [hps]; simp))).1, hsp, hr, hps⟩
theorem tab64_is : (Rows.laid_math_bits_deBruijn64tab : DataW Unit) = Lib.tabData .u8 [0, 1, 56, 2, 57, 49, 28, 3, 61, 58, 42, 50, 38, 29, 17, 4, 62, 47, 59, 36, 45, 43, 51, 22, 53, 39, 33, 30, 24, 18, 12, 5, 63, 55, 48, 27, 60, 41, 37, 16, 46, 35, 44, 21, 52, 32, 23, 11, 54, 26, 40, 15, 34, 20, 31, 10, 25, 14, 19, 9, 13, 8, 7, 6] := by kernel_rfl
theorem laid_skip {W : World} {n : String} {d : DataW Unit} {r : List (String × DataW Unit)} {ps : List MemPlace} (h : DataW.LaidVars Tryz.prog W ((n, d) :: r) ps) : ∃ pre q, DataW.LaidVars Tryz.prog W r q ∧ ps = pre ++ q := by
 obtain ⟨g, t, cs, f, p, q, hg0, ht0, hv0, hd0, hr, e⟩ := h
 exact ⟨_, q, hr, e⟩
theorem tab_of_laid {W : World} {r : List (String × DataW Unit)} {ps : List MemPlace} (h : DataW.LaidVars Tryz.prog W (("math/bits.deBruijn64tab", Rows.laid_math_bits_deBruijn64tab) :: r) ps) : Nm.Tz W := by
 obtain ⟨g', t', cs, fuel, p, q, hg', ht', hvar, hd, _, _⟩ := h
 obtain rfl : 16 = g' := Option.some.inj ((show Tryz.prog.globalNamed "math/bits.deBruijn64tab" = some 16 by kernel_rfl).symm.trans hg')
 obtain rfl : 335 = t' := Option.some.inj ((show (Tryz.prog.globals[16]?).map (·.type) = some 335 by kernel_rfl).symm.trans ht')
 rw [tab64_is] at hd
 have hc := Lib.cells_of_tab Tryz.underlying335 Tryz.underlying5 (by kernel_rfl) (by kernel_rfl) hd
 have hcell : W.cell? ⟨16, 15, none⟩ = cs.toList[15]? := by simpa using World.var?_cell hg' hvar 15
 rw [hc] at hcell
 refine ⟨hcell, ?_⟩
 have : W.heap[16]? ≠ none := by
  intro e
  simp [World.cell?, e] at hcell
 exact Nat.lt_of_not_le fun e => this (Array.getElem?_eq_none e)
set_option maxHeartbeats 4000000 in
theorem sents_of_laid {W : World} (h0 : laidMetH Tryz.prog Rows.catalogFormsUptoRow.laid W) : ∃ E, Env W W.heap.size E ∧ Tabs W ∧ 17 ≤ W.heap.size := by
 have h : laidMet Tryz.prog Rows.catalogFormsUptoRow.laid W := h0
 obtain ⟨ps, hl0, hnd, hrows⟩ := h
 obtain ⟨pre0, z0, hz0, f0⟩ := laid_skip hl0
 have htz := tab_of_laid hz0
 obtain ⟨pre1, z1, hz1, f1⟩ := laid_skip hz0
 obtain ⟨pre2, z2, hz2, f2⟩ := laid_skip hz1
 have hsub3 : ∀ x ∈ z2, x ∈ ps := fun x hx => by rw [f0, f1, f2]; simp [hx]
 have hnd3 : z2.Nodup := by
  rw [f0, f1, f2] at hnd
  exact List.Nodup.sublist ((List.sublist_append_right _ _).trans ((List.sublist_append_right _ _).trans (List.sublist_append_right _ _))) hnd
 obtain ⟨b0, q0, v0, o0, s0, hl1, e0⟩ := laid_step (W := W) (i := 14) (by kernel_rfl) (by kernel_rfl) hz2 (fun x hx => hsub3 x hx) hrows
 obtain ⟨b1, q1, v1, o1, s1, hl2, e1⟩ := laid_step (W := W) (i := 13) (by kernel_rfl) (by kernel_rfl) hl1 (fun x hx => hsub3 x (by rw [e0]; simp [hx])) hrows
 obtain ⟨a0, q2, v2, o2, s2, hl3, e2⟩ := laid_step (W := W) (i := 10) (by kernel_rfl) (by kernel_rfl) hl2 (fun x hx => hsub3 x (by rw [e0, e1]; simp [hx])) hrows
 obtain ⟨a1, q3, v3, o3, s3, hl4, e3⟩ := laid_step (W := W) (i := 0) (by kernel_rfl) (by kernel_rfl) hl3 (fun x hx => hsub3 x (by rw [e0, e1, e2]; simp [hx])) hrows
 obtain ⟨a2, q4, v4, o4, s4, hl5, e4⟩ := laid_step (W := W) (i := 6) (by kernel_rfl) (by kernel_rfl) hl4 (fun x hx => hsub3 x (by rw [e0, e1, e2, e3]; simp [hx])) hrows
 obtain ⟨a3, q5, v5, o5, s5, hl6, e5⟩ := laid_step (W := W) (i := 7) (by kernel_rfl) (by kernel_rfl) hl5 (fun x hx => hsub3 x (by rw [e0, e1, e2, e3, e4]; simp [hx])) hrows
 obtain ⟨a4, q6, v6, o6, s6, hl7, e6⟩ := laid_step (W := W) (i := 3) (by kernel_rfl) (by kernel_rfl) hl6 (fun x hx => hsub3 x (by rw [e0, e1, e2, e3, e4, e5]; simp [hx])) hrows
 obtain ⟨a5, q7, v7, o7, s7, hl8, e7⟩ := laid_step (W := W) (i := 2) (by kernel_rfl) (by kernel_rfl) hl7 (fun x hx => hsub3 x (by rw [e0, e1, e2, e3, e4, e5, e6]; simp [hx])) hrows
 obtain ⟨a6, q8, v8, o8, s8, hl9, e8⟩ := laid_step (W := W) (i := 4) (by kernel_rfl) (by kernel_rfl) hl8 (fun x hx => hsub3 x (by rw [e0, e1, e2, e3, e4, e5, e6, e7]; simp [hx])) hrows
 obtain ⟨a7, q9, v9, o9, s9, hl10, e9⟩ := laid_step (W := W) (i := 8) (by kernel_rfl) (by kernel_rfl) hl9 (fun x hx => hsub3 x (by rw [e0, e1, e2, e3, e4, e5, e6, e7, e8]; simp [hx])) hrows
 obtain ⟨a8, q10, v10, o10, s10, hl11, e10⟩ := laid_step (W := W) (i := 9) (by kernel_rfl) (by kernel_rfl) hl10 (fun x hx => hsub3 x (by rw [e0, e1, e2, e3, e4, e5, e6, e7, e8, e9]; simp [hx])) hrows
 obtain ⟨a9, q11, v11, o11, s11, hl12, e11⟩ := laid_step (W := W) (i := 1) (by kernel_rfl) (by kernel_rfl) hl11 (fun x hx => hsub3 x (by rw [e0, e1, e2, e3, e4, e5, e6, e7, e8, e9, e10]; simp [hx])) hrows
 obtain ⟨a10, q12, v12, o12, s12, hl13, e12⟩ := laid_step (W := W) (i := 5) (by kernel_rfl) (by kernel_rfl) hl12 (fun x hx => hsub3 x (by rw [e0, e1, e2, e3, e4, e5, e6, e7, e8, e9, e10, e11]; simp [hx])) hrows
 rw [e0, e1, e2, e3, e4, e5, e6, e7, e8, e9, e10, e11, e12] at hnd3
 have hsub : ([a0, a1, a2, a3, a4, a5, a6, a7, a8, a9, a10].map fun a => MemPlace.cell a.block a.off).Nodup := List.Nodup.sublist (.cons _ (.cons _ (.cons _ (.cons _ (.cons _ (.cons_cons _ (.cons _ (.cons_cons _ (.cons _ (.cons_cons _ (.cons _ (.cons_cons _ (.cons _ (.cons_cons _ (.cons _ (.cons_cons _ (.cons _ (.cons_cons _ (.cons _ (.cons_cons _ (.cons _ (.cons_cons _ (.cons _ (.cons_cons _ (.cons _ (.cons_cons _ (List.nil_sublist _))))))))))))))))))))))))))) hnd3
 have hL : [a0, a1, a2, a3, a4, a5, a6, a7, a8, a9, a10].Nodup := (List.pairwise_map.1 hsub).imp (fun {a b} hab e => hab (by rw [e]))
 have hne : ∀ i j : Nat, i < 11 → j < 11 → (fun k => #[a0, a1, a2, a3, a4, a5, a6, a7, a8, a9, a10].getD k a0) i = (fun k => #[a0, a1, a2, a3, a4, a5, a6, a7, a8, a9, a10].getD k a0) j → i = j := fun i j hi hj e => by
  have e1 : ∀ k (hk : k < 11), #[a0, a1, a2, a3, a4, a5, a6, a7, a8, a9, a10].getD k a0 = [a0, a1, a2, a3, a4, a5, a6, a7, a8, a9, a10][k]'(by simpa using hk) := fun k hk => by simp [Array.getD, hk]
  simp only [e1 i hi, e1 j hj] at e
  have hp := List.pairwise_iff_getElem.1 hL
  rcases Nat.lt_trichotomy i j with h | h | h
  ·exact absurd e (hp i j _ _ h)
  ·exact h
  ·exact absurd e.symm (hp j i _ _ h)
 have hz16 := htz.2
 refine ⟨fun k => #[a0, a1, a2, a3, a4, a5, a6, a7, a8, a9, a10].getD k a0, ⟨⟨fun i hi => ?_, fun i hi => ?_, hne⟩, ?_, fun i hi => ?_, Nat.le_refl _⟩, ⟨htz, ⟨_, _, v1⟩, ⟨_, _, v0⟩⟩, by omega⟩
 ·match i, hi with
  | 0, _ => exact v2
  | 1, _ => exact v3
  | 2, _ => exact v4
  | 3, _ => exact v5
  | 4, _ => exact v6
  | 5, _ => exact v7
  | 6, _ => exact v8
  | 7, _ => exact v9
  | 8, _ => exact v10
  | 9, _ => exact v11
  | 10, _ => exact v12
 ·match i, hi with
  | 0, _ => exact o2
  | 1, _ => exact o3
  | 2, _ => exact o4
  | 3, _ => exact o5
  | 4, _ => exact o6
  | 5, _ => exact o7
  | 6, _ => exact o8
  | 7, _ => exact o9
  | 8, _ => exact o10
  | 9, _ => exact o11
  | 10, _ => exact o12
 ·have := World.block_lt_of_cell? W _ v2
  exact this
 ·match i, hi with
  | 0, _ => exact (by obtain ⟨c, t, ho⟩ := o2; exact ltB ho)
  | 1, _ => exact (by obtain ⟨c, t, ho⟩ := o3; exact ltB ho)
  | 2, _ => exact (by obtain ⟨c, t, ho⟩ := o4; exact ltB ho)
  | 3, _ => exact (by obtain ⟨c, t, ho⟩ := o5; exact ltB ho)
  | 4, _ => exact (by obtain ⟨c, t, ho⟩ := o6; exact ltB ho)
  | 5, _ => exact (by obtain ⟨c, t, ho⟩ := o7; exact ltB ho)
  | 6, _ => exact (by obtain ⟨c, t, ho⟩ := o8; exact ltB ho)
  | 7, _ => exact (by obtain ⟨c, t, ho⟩ := o9; exact ltB ho)
  | 8, _ => exact (by obtain ⟨c, t, ho⟩ := o10; exact ltB ho)
  | 9, _ => exact (by obtain ⟨c, t, ho⟩ := o11; exact ltB ho)
  | 10, _ => exact (by obtain ⟨c, t, ho⟩ := o12; exact ltB ho)
theorem u64_wf {n : Int} (h : (Lit.int .u64 n).wf = true) : 0 ≤ n ∧ n ≤ 18446744073709551615 := by
 have e1 : IntKind.u64.min = 0 := rfl
 have e2 : IntKind.u64.max = 18446744073709551615 := rfl
 simpa [Lit.wf, e1, e2] using h
theorem i64_rng {n : Int} (h : (Lit.int .i64 n).wf = true) : -9223372036854775808 ≤ n ∧ n < 9223372036854775808 := by
 have e1 : IntKind.i64.min = -9223372036854775808 := rfl
 have e2 : IntKind.i64.max = 9223372036854775807 := rfl
 simp [Lit.wf, e1, e2] at h
 omega
section
variable {H : Type} {enc : TypeId × Value → H} {W : World} {spare : Nat → Bool} {held : Bool}
theorem addC0 (a : Addr) : a.add 0 = a := add_nil a
theorem open_row {n : Nat} {a : Addr} {cs : List Value} {x : DataW H × List MemPlace} (h1 : W.cells? 0 a 2 = some cs) (h2 : DataW.trod enc Tryz.prog W 0 spare held n 45 cs = some x) :
  ∃ r : Int × Nat, (-9223372036854775808 ≤ r.1 ∧ r.1 < 9223372036854775808) ∧ r.2 < 18446744073709551616 ∧ a.block < W.heap.size ∧ W.cell? a = some (.int .i64 r.1) ∧ W.cell? ⟨a.block, a.off + 1, none⟩ = some (.int .u64 (r.2 : Int)) := by
 have hm : (List.range 2).mapM (fun i => W.cell? (a.add i)) = some cs := by
  simpa [World.cells?] using h1
 have g : ∀ i, i < 2 → W.cell? (a.add i) = cs[i]? := fun i hi => mapM_some_get hm i i (by simp [hi])
 obtain ⟨xs, m, rfl, e2, hl, hxs, hall⟩ := DataW.trod_struct Tryz.underlying45 h2
 rw [cells45] at hl
 match cs, hl with
 | [v0, v1], _ =>
 have f0 := hall 0 _ rfl
 have f1 := hall 1 _ rfl
 simp [cells3, cells24] at f0 f1
 have hx2 : xs.length = 2 := by simpa using hxs
 rw [List.getElem?_eq_getElem (by omega)] at f0 f1
 obtain ⟨n0, q0, _, w0⟩ := DataW.trod_int Tryz.underlying3 f0
 obtain ⟨n1, q1, _, w1⟩ := DataW.trod_int Tryz.underlying24 f1
 simp at q0 q1
 subst q0
 subst q1
 have w0 := i64_rng w0
 have w1 := u64_wf w1
 have g0 := g 0 (by omega)
 have g1 := g 1 (by omega)
 have hs1 := World.cell?_spot g0
 obtain ⟨b, off, spot⟩ := a
 have hsn : spot = none := by simpa [Addr.add] using hs1
 subst hsn
 rw [addC] at g0 g1
 have hlt : b < W.heap.size := by simpa using World.block_lt_of_cell? W _ g0
 refine ⟨(n0, n1.toNat), w0, by show n1.toNat < _; omega, hlt, by simpa using g0, ?_⟩
 show _ = some (Value.int .u64 ((n1.toNat : Nat) : Int))
 rw [Int.toNat_of_nonneg w1.1]
 simpa using g1
theorem open_rws {fuel : Nat} {v : Value} {x : DataW H × List MemPlace} (hf : DataW.trod enc Tryz.prog W 0 spare held fuel 23 [v] = some x) (hk : Rows.uptoBulk x.1 ≤ 1048576) :
  ∃ (sa : Option Addr) (ca : Nat) (l : List (Int × Nat)), v = .slice sa l.length ca ∧ RowsAt W sa l ∧ l.length ≤ 1048576 ∧ ∀ x ∈ l, (-9223372036854775808 ≤ x.1 ∧ x.1 < 9223372036854775808) ∧ x.2 < 18446744073709551616 := by
 rcases open_slice Tryz.underlying23 hf with ⟨hcs, hx⟩ | ⟨a, len, cap, m, n, D, Pl, hcs, _, hl, hm, hmm, hx, hall⟩
 ·simp at hcs
  subst hcs
  exact ⟨none, 0, [], rfl, RowsAt.nil _ _, Nat.zero_le _, fun x hx => by cases hx⟩
 ·simp at hcs
  subst hcs
  rw [cells45] at hx hall
  subst hx
  have hlm : len ≤ m := by rw [hmm]; split <;> omega
  have hb1 : Rows.uptoBulkAll ((List.range len).map D) ≤ 1048576 := by
   simp only [Rows.uptoBulk] at hk
   omega
  have hlen2 := bulk_length ((List.range len).map D)
  simp only [List.length_map, List.length_range] at hlen2
  have each : ∀ i, i < len → ∃ r : Int × Nat, (-9223372036854775808 ≤ r.1 ∧ r.1 < 9223372036854775808) ∧ r.2 < 18446744073709551616 ∧ (a.add (i * 2)).block < W.heap.size ∧ W.cell? (a.add (i * 2)) = some (.int .i64 r.1) ∧ W.cell? ⟨(a.add (i * 2)).block, (a.add (i * 2)).off + 1, none⟩ = some (.int .u64 (r.2 : Int)) := fun i hi => by
   obtain ⟨cs', h1, h2⟩ := hall i (by omega)
   exact open_row h1 h2
  obtain ⟨f, hf⟩ := choose_lt each
  have hlen : ((List.range len).map f).length = len := by simp
  refine ⟨some a, cap, (List.range len).map f, by rw [hlen], ⟨fun k hk => ?_⟩, by rw [hlen]; omega, fun y hy => ?_⟩
  ·rw [hlen] at hk
   obtain ⟨_, _, h0, c0, c1⟩ := hf k hk
   rw [add_block] at h0
   exact ⟨a, rfl, h0, by simpa using c0, by simpa using c1⟩
  ·obtain ⟨k, hk, rfl⟩ := List.mem_map.1 hy
   have := hf k (List.mem_range.1 hk)
   exact ⟨this.1, this.2.1⟩
theorem open_nums {fuel : Nat} {v : Value} {x : DataW H × List MemPlace} (hf : DataW.trod enc Tryz.prog W 0 spare held fuel 22 [v] = some x) (hk : Rows.uptoBulk x.1 ≤ 1048576) :
  ∃ (sa : Option Addr) (ca : Nat) (l : List Int), v = .slice sa l.length ca ∧ IntsAt W sa l ∧ l.length ≤ 1048576 ∧ ∀ x ∈ l, -9223372036854775808 ≤ x ∧ x < 9223372036854775808 := by
 rcases open_slice Tryz.underlying22 hf with ⟨hcs, hx⟩ | ⟨a, len, cap, m, n, D, Pl, hcs, _, hl, hm, hmm, hx, hall⟩
 ·simp at hcs
  subst hcs
  exact ⟨none, 0, [], rfl, IntsAt.nil _ _, Nat.zero_le _, fun x hx => by cases hx⟩
 ·simp at hcs
  subst hcs
  rw [cells3] at hx hall
  subst hx
  have hlm : len ≤ m := by rw [hmm]; split <;> omega
  have hb1 : Rows.uptoBulkAll ((List.range len).map D) ≤ 1048576 := by
   simp only [Rows.uptoBulk] at hk
   omega
  have hlen2 := bulk_length ((List.range len).map D)
  simp only [List.length_map, List.length_range] at hlen2
  have each : ∀ i, i < len → ∃ r : Int, (-9223372036854775808 ≤ r ∧ r < 9223372036854775808) ∧ (a.add i).block < W.heap.size ∧ W.cell? (a.add i) = some (.int .i64 r) := fun i hi => by
   obtain ⟨cs', h1, h2⟩ := hall i (by omega)
   obtain ⟨z, e0, _, w0⟩ := DataW.trod_int Tryz.underlying3 h2
   subst e0
   have h3 : W.cell? (a.add i) = some (.int .i64 z) := by
    simp [World.cells?, Nat.mul_one, addC0] at h1
    cases hq : W.cell? (a.add i) with
    | none => rw [hq] at h1; cases h1
    | some u =>
     rw [hq] at h1
     simp at h1
     rw [h1]
   exact ⟨z, i64_rng w0, World.block_lt_of_cell? W _ h3, h3⟩
  obtain ⟨f, hf⟩ := choose_lt each
  have hlen : ((List.range len).map f).length = len := by simp
  refine ⟨some a, cap, (List.range len).map f, by rw [hlen], ⟨fun k hk => ?_⟩, by rw [hlen]; omega, fun y hy => ?_⟩
  ·rw [hlen] at hk
   obtain ⟨_, h0, c0⟩ := hf k hk
   rw [add_block] at h0
   exact ⟨a, rfl, h0, by simpa using c0⟩
  ·obtain ⟨k, hk, rfl⟩ := List.mem_map.1 hy
   exact (hf k (List.mem_range.1 hk)).1
theorem open_tbl {v : Value} {d : DataW H} {ps : List MemPlace} {base : Nat} (hval : Value.okWide Tryz.prog W .any base 26 v) (h : DataW.Trod enc Tryz.prog W 0 spare held 26 v d ps) (hk : Rows.uptoBulk d ≤ 1048576) :
  ∃ (t : Tbl) (so sr : Option Addr) (co cr : Nat), v = tblV t so sr co cr ∧ TblAt W t so sr := by
 obtain ⟨cs, rfl, hcs⟩ := okWide_struct Tryz.underlying26 hval
 obtain ⟨fuel, hf⟩ := h
 obtain ⟨xs, k, rfl, hx, hl, hxs, hall⟩ := DataW.trod_struct Tryz.underlying26 hf
 rw [cells26] at hcs
 obtain ⟨v0, v1, v2, v3, v4, rfl⟩ : ∃ v0 v1 v2 v3 v4, cs = #[v0, v1, v2, v3, v4] := by
  obtain ⟨l⟩ := cs
  match l, hcs with
  | [v0, v1, v2, v3, v4], _ => exact ⟨v0, v1, v2, v3, v4, rfl⟩
 have f0 := hall 0 _ rfl
 have f1 := hall 1 _ rfl
 have f2 := hall 2 _ rfl
 have f3 := hall 3 _ rfl
 have f4 := hall 4 _ rfl
 simp [Value.cells, cells3, cells22, cells23, cells24] at f0 f1 f2 f3 f4
 have hx5 : xs.length = 5 := by simpa using hxs
 rw [List.getElem?_eq_getElem (by omega)] at f0 f1 f2 f3 f4
 obtain ⟨rfl, -⟩ := Prod.mk.inj hx
 simp only [Rows.uptoBulk] at hk
 have b1 := bulk_part (H := H) (d := (xs[1]'(by omega)).1) (l := xs.map (·.1)) (List.mem_map.2 ⟨_, List.getElem_mem _, rfl⟩)
 have b2 := bulk_part (H := H) (d := (xs[2]'(by omega)).1) (l := xs.map (·.1)) (List.mem_map.2 ⟨_, List.getElem_mem _, rfl⟩)
 obtain ⟨n0, e0, _, w0⟩ := DataW.trod_int Tryz.underlying3 f0
 obtain ⟨n3, e3, _, w3⟩ := DataW.trod_int Tryz.underlying3 f3
 obtain ⟨n4, e4, _, w4⟩ := DataW.trod_int Tryz.underlying24 f4
 obtain ⟨so, co, o, e1, ho, hol, hoi⟩ := open_nums f1 (by omega)
 obtain ⟨sr, cr, l, e2, hr, hrl, hri⟩ := open_rws f2 (by omega)
 simp at e0 e3 e4
 subst e0 e1 e2 e3 e4
 have w4 := u64_wf w4
 refine ⟨⟨n0, o, l, n3, n4.toNat⟩, so, sr, co, cr, ?_, ⟨ho, hr, hol, hrl, i64_rng w0, i64_rng w3, by show n4.toNat < _; omega, hoi, hri⟩⟩
 show _ = Value.agg #[.int .i64 n0, .slice so o.length co, .slice sr l.length cr, .int .i64 n3, .int .u64 ((n4.toNat : Nat) : Int)]
 rw [Int.toNat_of_nonneg w4.1]
end
open Go.RowKit Go.Deep
set_option linter.unusedSimpArgs false
set_option linter.unusedVariables false
theorem nameFile (u : Nat) : nameB (bs (fileN u)) = true := by
 have h1 : (bs (fileN u)).size = 19 := by
  show (fileN u).toArray.size = 19
  rw [List.size_toArray, fileN_len]
 have h2 : (bs (fileN u)).data.toList.all (fun c => nbB c.toNat) = true := by
  show (fileN u).all _ = true
  rw [List.all_eq_true]
  intro c hc
  unfold fileN at hc
  rcases List.mem_append.1 hc with h | h
  ·simp only [List.mem_cons, List.not_mem_nil, or_false] at h
   rcases h with rfl | rfl | rfl <;> rfl
  ·exact hexW_name _ _ c h
 unfold nameB
 rw [h1, h2]
 rfl
theorem block_pos {n : Int} (h0 : 0 ≤ n) (h1 : n < 9223372036854775808) (w : World) : Calls Tryz.prog 15 #[.int .i64 n] w fun e w' => e = .returned (.int .i64 (64 + 32 * (n % 40))) ∧ w' = w := by
 have a1 : ¬ n < 0 := by omega
 have hm : n.tmod 40 = n % 40 := Int.tmod_eq_emod_of_nonneg h0
 have h2 := Int.emod_nonneg n (show (40 : Int) ≠ 0 by omega)
 have h3 := Int.emod_lt_of_pos n (show (0 : Int) < 40 by omega)
 have hw1 : IntKind.i64.wrap (32 * (n % 40)) = 32 * (n % 40) := by rw [IntKind.wrap_i64]; omega
 have hw2 : IntKind.i64.wrap (64 + 32 * (n % 40)) = 64 + 32 * (n % 40) := by rw [IntKind.wrap_i64]; omega
 go_enter Tryz.func15, Tryz.ntmps15
 go_wp2
 go_ret
 exact ⟨rfl, rfl⟩
theorem block_neg {n : Int} (h0 : n < 0) (h1 : -9223372036854775808 ≤ n) (w : World) : Calls Tryz.prog 15 #[.int .i64 n] w fun e w' => e = .returned (.int .i64 (64 + 32 * ((-(n + 1)) % 40))) ∧ w' = w := by
 have hw0 : IntKind.i64.wrap (n + 1) = n + 1 := by rw [IntKind.wrap_i64]; omega
 have hw3 : IntKind.i64.wrap (-(n + 1)) = -(n + 1) := by rw [IntKind.wrap_i64]; omega
 have h2 := Int.emod_nonneg (-(n + 1)) (show (40 : Int) ≠ 0 by omega)
 have h3 := Int.emod_lt_of_pos (-(n + 1)) (show (0 : Int) < 40 by omega)
 have hm : (-(n + 1)).tmod 40 = (-(n + 1)) % 40 := Int.tmod_eq_emod_of_nonneg (by omega)
 have hw1 : wrap64 (32 * ((-(n + 1)) % 40)) = 32 * ((-(n + 1)) % 40) := by have := IntKind.wrap_i64 (32 * ((-(n + 1)) % 40)); unfold wrap64; omega
 have hw2 : wrap64 (64 + 32 * ((-(n + 1)) % 40)) = 64 + 32 * ((-(n + 1)) % 40) := by unfold wrap64; omega
 go_enter Tryz.func15, Tryz.ntmps15
 go_wp2
 go_ret
 exact ⟨rfl, rfl⟩
theorem block_any {n : Int} (h : -9223372036854775808 ≤ n ∧ n < 9223372036854775808) (w : World) : ∃ B : Nat, (64 ≤ B ∧ B ≤ 65536 ∧ B % 32 = 0 ∧ B ≤ 1312) ∧ Calls Tryz.prog 15 #[.int .i64 n] w fun e w' => e = .returned (.int .i64 (B : Int)) ∧ w' = w := by
 by_cases h0 : n < 0
 ·have h2 := Int.emod_nonneg (-(n + 1)) (show (40 : Int) ≠ 0 by omega)
  have h3 := Int.emod_lt_of_pos (-(n + 1)) (show (0 : Int) < 40 by omega)
  refine ⟨(64 + 32 * ((-(n + 1)) % 40)).toNat, by omega, ?_⟩
  rw [Int.toNat_of_nonneg (by omega)]
  exact block_neg h0 h.1 w
 ·have h2 := Int.emod_nonneg n (show (40 : Int) ≠ 0 by omega)
  have h3 := Int.emod_lt_of_pos n (show (0 : Int) < 40 by omega)
  refine ⟨(64 + 32 * (n % 40)).toNat, by omega, ?_⟩
  rw [Int.toNat_of_nonneg (by omega)]
  exact block_pos (by omega) h.2 w
structure TbI where
 t : Tbl
 so : Option Addr
 sr : Option Addr
 co : Nat
 cr : Nat
theorem file_str (u : Nat) : Nm.str ([100, 100, 45] ++ PureHex.hexW 16 u) = .string (bs (fileN u)) := by
 unfold fileN
 generalize [100, 100, 45] ++ PureHex.hexW 16 u = x
 rfl
theorem cat_str (u : Nat) : Nm.str ([99, 97, 116, 45] ++ PureHex.hexW 16 u) = .string (bs (catN u)) := by
 unfold catN
 generalize [99, 97, 116, 45] ++ PureHex.hexW 16 u = x
 rfl
section
variable {w : World}
end
theorem info176 : (Tryz.prog.info? 176).map (fun i => (i.zero, i.size, i.bytes)) = some (some (.agg #[.int .u64 0, .int .u64 0, .int .u64 0, .int .u64 0]), 4, 32) := by kernel_rfl
def recC (l : List Rc) : List Value := (flatR l).map fun x : Nat => Value.int .u64 (x : Int)
theorem recC_snoc (l : List Rc) (r : Rc) : recC (l ++ [r]) = recC l ++ [.int .u64 (r.1 : Int), .int .u64 (r.2.1 : Int), .int .u64 (r.2.2.1 : Int), .int .u64 (r.2.2.2 : Int)] := by
 unfold recC flatR
 simp [Rc.words]
section
theorem run_rec (w : World) (ty : TypeId) (base : Nat) (v : Value) (n : Nat) (xs : List Value) (b : Nat) (c0 c1 c2 c3 : Value) (hown : w.ownsRow base 176 4 v n xs) (hb : w.heap[b]? = some (.cells #[c0, c1, c2, c3] 176 (0, 0))) (h0 : c0.oneCell' = true) (h1 : c1.oneCell' = true) (h2 : c2.oneCell' = true) (h3 : c3.oneCell' = true) (hn : n ≤ 1099511627776) (hbase : base ≤ w.heap.size) :
  ∃ v' w', (Builtin.append_ #[130, 130] ty #[v, .slice (some ⟨b, 0, none⟩) 1 1]).run Tryz.prog w = .ok v' w' ∧ w'.ownsRow base 176 4 v' (n + 1) (xs ++ [c0, c1, c2, c3]) ∧ Below base w w' := by
 obtain ⟨i, hi, hz0, hz1, hz2⟩ := info_parts info176
 have hnews : ∀ j u, [c0, c1, c2, c3][j]? = some u → w.cell? ((⟨b, 0, none⟩ : Addr).add j) = some u := by
  intro j u hu
  have hadd : (⟨b, 0, none⟩ : Addr).add j = ⟨b, j, none⟩ := by unfold Addr.add; split <;> simp_all
  rw [hadd, cRw hb j]
  simpa using hu
 obtain ⟨v', w', hrun, ho, hg, _⟩ := run_append_own (P := Tryz.prog) w base 130 ty 176 i _ 4 32 Tryz.underlying130 hi hz0 hz1 hz2 rfl (by decide) v n xs hown ⟨b, 0, none⟩ 1 1 [c0, c1, c2, c3] rfl hnews (by simp [h0, h1, h2, h3]) (by unfold maxLen; omega) (by omega) hbase
 exact ⟨v', w', hrun, ho, (Below.refl _ w).grown hg hbase (fun k hk => (hown.lt k hk).1)⟩
theorem wpList_rec (w : World) {ops : Array Oper} {rest : List Oper} {o : Oper} {a : Act} {Q : Exit → Act → World → Prop} (hgd : o.guard = none) (s x : Operand)
  (hop : o.op = Op.call { callee := Callee.builtin Builtin.append, args := #[s, x], argTypes := #[130, 130] })
  (base : Nat) (v : Value) (n : Nat) (xs : List Value) (b : Nat) (c0 c1 c2 c3 : Value) (hs : a.eval s = v) (hx : a.eval x = .slice (some ⟨b, 0, none⟩) 1 1) (hown : w.ownsRow base 176 4 v n xs) (hb : w.heap[b]? = some (.cells #[c0, c1, c2, c3] 176 (0, 0))) (h0 : c0.oneCell' = true) (h1 : c1.oneCell' = true) (h2 : c2.oneCell' = true) (h3 : c3.oneCell' = true) (hn : n ≤ 1099511627776) (hbase : base ≤ w.heap.size)
  (hK : ∀ v' w', w'.ownsRow base 176 4 v' (n + 1) (xs ++ [c0, c1, c2, c3]) → Below base w w' → wpList Tryz.prog ops Q rest (a.put o.dst v') w') : wpList Tryz.prog ops Q (o :: rest) a w := by
 refine wpList_plain hgd fun K' hK' => ?_
 obtain ⟨v', w', hrun, ho, hbw⟩ := run_rec w o.type base v n xs b c0 c1 c2 c3 hown hb h0 h1 h2 h3 hn hbase
 unfold Oper.wp
 simp [execOp, hop, resolve, invoke, builtin, hs, hx, hrun, Result.andThen]
 exact hK' _ _ (hK v' w' ho hbw)
theorem step_rec {ops : Array Oper} {o : Oper} {a : Act} {w : World} {K : Act → World → Prop} {Q : Exit → Act → World → Prop} {X : Prop}
  (hg : o.guard = none) (s x : Operand) (hop : o.op = Op.call { callee := Callee.builtin Builtin.append, args := #[s, x], argTypes := #[130, 130] })
  (base : Nat) (v : Value) (n : Nat) (xs : List Value) (b : Nat) (c0 c1 c2 c3 : Value) (hs : a.eval s = v) (hx : a.eval x = .slice (some ⟨b, 0, none⟩) 1 1) (hown : w.ownsRow base 176 4 v n xs) (hb : w.heap[b]? = some (.cells #[c0, c1, c2, c3] 176 (0, 0))) (h0 : c0.oneCell' = true) (h1 : c1.oneCell' = true) (h2 : c2.oneCell' = true) (h3 : c3.oneCell' = true) (hn : n ≤ 1099511627776) (hbase : base ≤ w.heap.size)
  (hK : ∀ v' w', w'.ownsRow base 176 4 v' (n + 1) (xs ++ [c0, c1, c2, c3]) → Below base w w' → K (a.put o.dst v') w') :
  if Region.wanted o (yielded ops a.tmps) = true then Oper.wp Tryz.prog o a w K Q else X := by
 have hw : Region.wanted o (yielded ops a.tmps) = true := by simp [Region.wanted, hg]
 rw [if_pos hw]
 obtain ⟨v', w', hrun, ho, hbw⟩ := run_rec w o.type base v n xs b c0 c1 c2 c3 hown hb h0 h1 h2 h3 hn hbase
 unfold Oper.wp
 simp [execOp, hop, resolve, invoke, builtin, hs, hx, hrun, Result.andThen]
 exact hK v' w' ho hbw
end
section
variable {w : World} {t : Tbl} {so sr : Option Addr} {co cr gen : Nat}
def ordR (o : List Int) (k : Nat) : List Rc := (o.take k).zipIdx.map fun x => (x.2, u64N x.1, 0, 1)
theorem ordR_next {o : List Int} {k : Nat} (hk : k < o.length) : ordR o (k + 1) = ordR o k ++ [(k, u64N o[k], 0, 1)] := by
 unfold ordR
 rw [List.take_succ_eq_append_getElem hk, List.zipIdx_append, List.map_append]
 simp [List.length_take, Nat.min_eq_left (Nat.le_of_lt hk)]
def rowR (l : List (Int × Nat)) (k : Nat) : List Rc := (l.take k).map fun r => (u64N r.1, r.2, 0, 2)
theorem rowR_next {l : List (Int × Nat)} {k : Nat} (hk : k < l.length) : rowR l (k + 1) = rowR l k ++ [(u64N l[k].1, l[k].2, 0, 2)] := by
 unfold rowR
 rw [List.take_succ_eq_append_getElem hk, List.map_append]
 rfl
theorem own_lower {w : World} {b1 b2 : Nat} {e : TypeId} {size n : Nat} {v : Value} {xs : List Value} (h : w.ownsRow b1 e size v n xs) (hb : b2 ≤ b1) : w.ownsRow b2 e size v n xs := by
 refine ⟨h.1, ?_⟩
 rcases h.2 with h | ⟨g, cap, cur, h1, h2, h3⟩
 ·exact .inl h
 ·exact .inr ⟨g, cap, cur, h1, Nat.le_trans hb h2, h3⟩
theorem wrap_u64N (x : Int) : IntKind.u64.wrap x = (u64N x : Int) := by rw [IntKind.wrap_u64]; unfold u64N; omega
set_option maxHeartbeats 8000000 in
theorem rrecs_any (h : TblAt w t so sr) (hg : gen < 18446744073709551616) :
  Calls Tryz.prog 68 #[tblV t so sr co cr, .int .u64 (gen : Int)] w fun e w' => ∃ v, e = .returned v ∧ w'.ownsRow w.heap.size 176 4 v (recsN t gen).length (recC (recsN t gen)) ∧ Tc [] w w' := by
 have HH := hid (fun W (tt : Tc [] w W) => h.touch tt (by simp) (by simp))
 have hol := h.ol
 have hrl := h.rl
 have hnx := h.next
 obtain ⟨Wb, hWb⟩ : ∃ Wb, Wb = w.alloc (.cells #[.int .i64 t.vars, .slice so t.order.length co, .slice sr t.rows.length cr, .int .i64 t.next, .int .u64 (t.nf : Int)] 26) := ⟨_, rfl⟩
 have tb : Tc [] w Wb := by rw [hWb]; exact (Tc.refl [] w).alloc _
 have hrb : Wb.heap[w.heap.size]? = some (.cells #[.int .i64 t.vars, .slice so t.order.length co, .slice sr t.rows.length cr, .int .i64 t.next, .int .u64 (t.nf : Int)] 26 (0, 0)) := by rw [hWb]; exact heap_alloc_new w _
 have hbs : Wb.heap.size = w.heap.size + 1 := by rw [hWb]; simp
 have HBX := hid (fun W (bb : Below Wb.heap.size Wb W) => fun i => cRw ((bb.block _ (ltB hrb)).trans hrb) i)
 have HTB := hid tb
 have HWB := hid hWb
 clear h tb hrb hWb
 simp only [tblV] at *
 go_enter Tryz.func68, Tryz.ntmps68
 go_upto_region 2 with fail
 rw [← HWB.out]
 generalize hbx : w.heap.size = bx at *
 have HBN := hid hbx
 clear hbx
 go_wp2_with fail
 go_loopw [5, 6] (fun v i W => ∃ k : Nat, k ≤ t.order.length ∧ i = .int .i64 k ∧ Hid (W.ownsRow Wb.heap.size 176 4 v k (recC (ordR t.order k))) ∧ Hid (Below Wb.heap.size Wb W)) (fun _ i _ => t.order.length - (intOf i).toNat)
 case atStart => exact ⟨0, Nat.zero_le _, rfl, hid (World.ownsRow_nil _ _ _ _), hid (Below.refl _ _)⟩
 case round =>
  obtain ⟨k, hk, rfl, HV, HT⟩ := hrel
  have cb := HBX.out wr HT.out
  have HTW := hid (HTB.out.trans (Tc.of_below (F := []) HT.out (Nat.le_refl _)) (by simp))
  have hsz := HT.out.size
  by_cases hlt : k < t.order.length
  ·obtain ⟨a, rfl, hab, hc⟩ := (HH.out _ HTW.out).ints.at_ k hlt
   have HNX := hid (ordR_next hlt)
   have hoi := (HH.out _ HTW.out).oi _ (List.getElem_mem hlt)
   clear hab
   generalize t.order[k] = x at *
   obtain ⟨vs, vc, rfl⟩ := oSC HV.out
   go_wp2_with (at_builtin; refine wpList_rec _ rfl _ _ rfl Wb.heap.size (.slice vs k vc) k (recC (ordR t.order k)) wr.heap.size (.int .u64 (k : Int)) (.int .u64 (IntKind.u64.wrap x)) (.int .u64 0) (.int .u64 1) rfl rfl (HV.out.alloc _) (heap_alloc_new wr _) rfl rfl rfl rfl (by omega) (by simp; omega) ?_; intro v5 w5 o5 b5; have HO5 := hid o5; have HB5 := hid b5; clear o5 b5)
   refine ⟨⟨k + 1, hlt, rfl, hid ?_, hid ((HT.out.alloc HT.out.size _).trans HB5.out)⟩, by simp [intOf]; omega⟩
   rw [HNX.out, recC_snoc, ← wrap_u64N]
   exact HO5.out
  ·obtain rfl : k = t.order.length := by omega
   have HE := hid (show ordR t.order t.order.length = (t.order.zipIdx 0).map fun x => ((x.2, u64N x.1, 0, 1) : Rc) by unfold ordR; rw [List.take_length])
   have HV0 := hid HV.out
   go_wp2_with fail
   go_loopw [5, 7] (fun v i W => ∃ k : Nat, k ≤ t.rows.length ∧ i = .int .i64 k ∧ Hid (W.ownsRow Wb.heap.size 176 4 v (t.order.length + k) (recC (ordR t.order t.order.length ++ rowR t.rows k))) ∧ Hid (Below Wb.heap.size Wb W)) (fun _ i _ => t.rows.length - (intOf i).toNat)
   case atStart => exact ⟨0, Nat.zero_le _, rfl, hid (by simpa [rowR] using HV0.out), HT⟩
   case round =>
    clear HV HV0 HT HTW cb hsz
    obtain ⟨k, hk, rfl, HV, HT⟩ := hrel
    have cb := HBX.out wr HT.out
    have HTW := hid (HTB.out.trans (Tc.of_below (F := []) HT.out (Nat.le_refl _)) (by simp))
    have hsz := HT.out.size
    by_cases hlt : k < t.rows.length
    ·obtain ⟨a, rfl, hab, c0, c1⟩ := (HH.out _ HTW.out).rows.at_ k hlt
     have HNX := hid (rowR_next hlt)
     have hki : (k : Int) < (t.rows.length : Int) := by omega
     have hk0 : (0 : Int) ≤ (k : Int) := by omega
     clear hab
     generalize t.rows[k] = x at *
     obtain ⟨x0, x1⟩ := x
     dsimp only at c0 c1
     obtain ⟨vs, vc, rfl⟩ := oSC HV.out
     have HVd := hid (show (wr.drew).ownsRow Wb.heap.size 176 4 (.slice vs (t.order.length + k) vc) (t.order.length + k) (recC (ordR t.order t.order.length ++ rowR t.rows k)) from HV.out)
     go_wp2_with fail
     go_region_law (first
      |(refine step_rec rfl _ _ rfl Wb.heap.size (.slice vs (t.order.length + k) vc) (t.order.length + k) (recC (ordR t.order t.order.length ++ rowR t.rows k)) wr.heap.size (.int .u64 (IntKind.u64.wrap x0)) (.int .u64 (x1 : Int)) (.int .u64 0) (.int .u64 2) rfl rfl (HVd.out.alloc _) (heap_alloc_new wr.drew _) rfl rfl rfl rfl (by omega) (by simp; omega) (fun v5 w5 o5 b5 => ?_); have HO5 := hid o5; have HB5 := hid b5; clear o5 b5)
      | go_simp)
     all_goals
      go_wp2_with fail
      refine ⟨⟨k + 1, hlt, rfl, hid ?_, hid ((show Below Wb.heap.size Wb (wr.drew.alloc _) from (Below.alloc (⟨HT.out.os, HT.out.tape, HT.out.output, HT.out.size, HT.out.block⟩ : Below Wb.heap.size Wb wr.drew) HT.out.size _)).trans HB5.out)⟩, by simp [intOf]; omega⟩
      rw [HNX.out, ← List.append_assoc, recC_snoc, ← wrap_u64N]
      exact HO5.out
    ·obtain rfl : k = t.rows.length := by omega
     have HF := hid (show rowR t.rows t.rows.length = t.rows.map fun r => ((u64N r.1, r.2, 0, 2) : Rc) by unfold rowR; rw [List.take_length])
     obtain ⟨vs, vc, hvs⟩ := oSC HV.out
     subst hvs
     go_wp2_with (at_builtin; refine wpList_rec _ rfl _ _ rfl Wb.heap.size (.slice vs (t.order.length + t.rows.length) vc) (t.order.length + t.rows.length) (recC (ordR t.order t.order.length ++ rowR t.rows t.rows.length)) wr.heap.size (.int .u64 18446744073709551615) (.int .u64 (gen : Int)) (.int .u64 (IntKind.u64.wrap t.next)) (.int .u64 (t.nf : Int)) rfl rfl (HV.out.alloc _) (heap_alloc_new wr _) rfl rfl rfl rfl (by omega) (by simp; omega) ?_; intro v5 w5 o5 b5; have HO5 := hid o5; have HB5 := hid b5; clear o5 b5)
     go_ret
     refine ⟨_, rfl, ?_, (HTB.out.trans (Tc.of_below (F := []) ((HT.out.alloc HT.out.size _).trans HB5.out) (Nat.le_refl _)) (by simp))⟩
     have h := HO5.out
     rw [HE.out, HF.out] at h
     have e : recC (recsN t gen) = recC ((t.order.zipIdx 0).map (fun x => ((x.2, u64N x.1, 0, 1) : Rc)) ++ t.rows.map (fun r => ((u64N r.1, r.2, 0, 2) : Rc))) ++ [.int .u64 18446744073709551615, .int .u64 (gen : Int), .int .u64 (IntKind.u64.wrap t.next), .int .u64 (t.nf : Int)] := by
      rw [recsN_eq, recC_snoc, wrap_u64N]
      rfl
     rw [e, recsN_len]
     exact own_lower h (by rw [HBN.out]; omega)
end
end Go.Proofs.YthehcjjckabljaaGreatDoor
namespace Go.Proofs.YthehcjjckabljaaGreatDoor.Rx
set_option maxRecDepth 100000
open Go.RowKit Go.Deep PureCrc
set_option maxHeartbeats 400000 in
theorem rfit_any (b : Int) (w : World) : Calls Tryz.prog 38 #[.int .i64 b] w fun e w' => e = .returned (.int .i64 (fitN b)) ∧ w' = w := by
 by_cases h1 : b < 64
 ·have HB := hid (show fitN b = 0 by unfold fitN; rw [if_neg (by omega)])
  go_enter Tryz.func38, Tryz.ntmps38
  go_wp2
  go_ret
  rw [HB.out]
  exact ⟨rfl, rfl⟩
 ·by_cases h2 : b > 65536
  ·have HB := hid (show fitN b = 0 by unfold fitN; rw [if_neg (by omega)])
   go_enter Tryz.func38, Tryz.ntmps38
   go_wp2
   go_ret
   rw [HB.out]
   exact ⟨rfl, rfl⟩
  ·have hm : b.tmod 32 = b % 32 := Int.tmod_eq_emod_of_nonneg (by omega)
   have hq : b.tdiv 32 = b / 32 := Int.tdiv_eq_ediv_of_nonneg (by omega)
   by_cases h3 : b % 32 = 0
   ·have HB := hid (show fitN b = b / 32 - 1 by unfold fitN; rw [if_pos (by omega)])
    go_enter Tryz.func38, Tryz.ntmps38
    go_wp2
    go_ret
    rw [HB.out]
    exact ⟨rfl, rfl⟩
   ·have HB := hid (show fitN b = 0 by unfold fitN; rw [if_neg (by omega)])
    have hne : ¬ b % 32 = 0 := h3
    go_enter Tryz.func38, Tryz.ntmps38
    go_wp2
    go_ret
    rw [HB.out]
    exact ⟨rfl, rfl⟩
theorem iter_end (n r : Nat) : iter (n + 1) r = T (iter n r) := iter_succ n r
set_option maxRecDepth 100000 in
set_option maxHeartbeats 1000000 in
theorem rsum_any (l : List Nat) (b o c : Nat) (w : World) (hr : Rd w b o l) (hl : ∀ x ∈ l, x < 256) (hn : l.length ≤ 1099511627776) :
  Calls Tryz.prog 123 #[.slice (some ⟨b, o, none⟩) l.length c] w fun e w' => e = .returned (.int .u32 (crc l : Int)) ∧ w' = w := by
 have HR := hid hr
 have HL := hid hl
 clear hr hl
 go_enter Tryz.func123, Tryz.ntmps123
 go_wp2
 go_loopw [3, 4] (fun s i W => ∃ k : Nat, k ≤ l.length ∧ i = .int .i64 k ∧ s = .int .u32 (reg 4294967295 (l.take k) : Int) ∧ W = w) (fun _ i _ => l.length - (intOf i).toNat)
 case atStart => exact ⟨0, Nat.zero_le _, rfl, rfl, rfl⟩
 case round =>
  obtain ⟨k, hk, rfl, rfl, rfl⟩ := hrel
  by_cases hlt : k < l.length
  ·have hx := HL.out _ (List.getElem_mem hlt)
   have hs := reg_lt (l := l.take k) (fun x hx => HL.out x (List.mem_of_mem_take hx)) (r := 4294967295) (by decide)
   have hs' : reg 4294967295 (l.take k) < 4294967296 := hs
   have hreg : reg 4294967295 (l.take (k + 1)) = iter 8 (reg 4294967295 (l.take k) ^^^ l[k]) := by
    rw [List.take_succ_eq_append_getElem hlt, reg_append]; rfl
   obtain ⟨s, hsd⟩ : ∃ s, s = reg 4294967295 (l.take k) := ⟨_, rfl⟩
   rw [← hsd] at hs' hreg ⊢
   have HREG := hid hreg
   obtain ⟨x, hxd⟩ : ∃ x, x = l[k] := ⟨_, rfl⟩
   have hc := HR.out k hlt
   rw [← hxd] at hx hc HREG
   have hxx := u32_xor_nat s x hs' (by omega)
   have hy : s ^^^ x < 2 ^ 32 := Nat.xor_lt_two_pow hs' (by omega)
   obtain ⟨y, hyd⟩ : ∃ y, y = s ^^^ x := ⟨_, rfl⟩
   rw [← hyd] at hxx hy HREG
   clear hs hsd hreg hxd hyd hs'
   go_wp2
   go_loopw [3, 5] (fun s i W => ∃ j : Nat, j ≤ 8 ∧ i = .int .i64 j ∧ s = .int .u32 (iter j y : Int) ∧ W = wr) (fun _ i _ => 8 - (intOf i).toNat)
   case atStart => exact ⟨0, by omega, rfl, rfl, rfl⟩
   case round =>
    obtain ⟨j, hj, rfl, rfl, hW⟩ := hrel
    subst hW
    by_cases hlt2 : j < 8
    ·have hi := iter_lt j (r := y) hy
     have hi' : iter j y < 4294967296 := hi
     have HIS := hid (iter_end j y)
     obtain ⟨z, hz⟩ : ∃ z, z = iter j y := ⟨_, rfl⟩
     rw [← hz] at hi' HIS ⊢
     have hpl : poly < 4294967296 := by decide
     have HX := hid (u32_xor_nat (z / 2) poly (by omega) hpl)
     clear hz hi hpl
     by_cases ho : z % 2 = 1
     ·have HT : Hid (T z = z / 2 ^^^ poly) := by show _ = _; unfold T; rw [if_pos ho]
      have ho1 : (z : Int) % 2 = 1 := by omega
      go_wp2
      refine ⟨⟨j + 1, hlt2, rfl, ?_, trivial⟩, by simp [intOf]; omega⟩
      rw [HIS.out, HT.out]
      exact congrArg (Value.int .u32) HX.out
     ·have HT : Hid (T z = z / 2) := by show _ = _; unfold T; rw [if_neg ho, Nat.xor_zero]
      have ho1 : (z : Int) % 2 = 0 := by omega
      go_wp2
      refine ⟨⟨j + 1, hlt2, rfl, ?_, trivial⟩, by simp [intOf]; omega⟩
      rw [HIS.out, HT.out]
      simp
    ·have e8 : j = 8 := by omega
     subst e8
     go_wp2
     exact ⟨⟨k + 1, hlt, rfl, by rw [HREG.out], trivial⟩, by simp [intOf]; omega⟩
  ·go_wp2
   go_ret
   have e : k = l.length := by omega
   have hs := reg_lt (l := l) HL.out (r := 4294967295) (by decide)
   have ec : (4294967295 - (reg 4294967295 (l.take k) : Int)) % 4294967296 = (crc l : Int) := by
    rw [e, List.take_length]
    unfold crc
    rw [not_sum hs]
    omega
   exact ⟨congrArg (fun x => Ending.returned (Value.int .u32 x)) ec, rfl⟩
def bcl (l : List Nat) : List Value := l.map fun x : Nat => Value.int .u8 (x : Int)
abbrev OwnB (w : World) (base : Nat) (v : Value) (l : List Nat) : Prop := w.ownsRow base 5 1 v l.length (bcl l)
theorem info_parts {e : TypeId} {z : Value} {n b : Nat} (h : (Tryz.prog.info? e).map (fun i => (i.zero, i.size, i.bytes)) = some (some z, n, b)) : ∃ i, Tryz.prog.info? e = some i ∧ i.zero = some z ∧ i.size = n ∧ i.bytes = b := by
 obtain ⟨i, hi, h2⟩ := Option.map_eq_some_iff.1 h
 simp only [Prod.mk.injEq] at h2
 exact ⟨i, hi, h2.1, h2.2.1, h2.2.2⟩
theorem Tryz.info5b : (Tryz.prog.info? 5).map (fun i => (i.zero, i.size, i.bytes)) = some (some (.int .u8 0), 1, 1) := by kernel_rfl
theorem below_grown {w w' : World} {base : Nat} {row : Option Nat} (hg : w.grownBy w' row) (hr : ∀ k, row = some k → base ≤ k) (hb : base ≤ w.heap.size) : Below base w w' :=
 ⟨hg.os, hg.tape, hg.output, hg.size, fun k hk => hg.block k (by omega) (fun e => by have := hr k e.symm; omega)⟩
theorem wpList_app (w : World) {ops : Array Oper} {rest : List Oper} {o : Oper} {a : Act} {Q : Exit → Act → World → Prop} (hgd : o.guard = none) (s x : Operand)
  (hop : o.op = Op.call { callee := Callee.builtin Builtin.append, args := #[s, x], argTypes := #[118, 118] })
  (base : Nat) (v : Value) (l : List Nat) (ad : Addr) (news : List Nat) (m c : Nat) (hs : a.eval s = v) (hx : a.eval x = .slice (some ad) m c) (hml : news.length = m) (hown : OwnB w base v l) (hc : ∀ j (h : j < news.length), w.cell? (ad.add j) = some (.int .u8 (news[j] : Int)))
  (hm : 0 < m) (hn : l.length + m ≤ 70368744177664) (hb : base ≤ w.heap.size)
  (hK : ∀ v' w', OwnB w' base v' (l ++ news) → Below base w w' → wpList Tryz.prog ops Q rest (a.put o.dst v') w') : wpList Tryz.prog ops Q (o :: rest) a w := by
 obtain ⟨i, h0, hz0, hz1, hz2⟩ := info_parts Tryz.info5b
 refine wpList_append_lies w hgd s x 118 hop base 5 i (.int .u8 0) 1 1 Tryz.underlying118 h0 hz0 hz1 hz2 rfl (by decide) v l.length (bcl l) hs hown ad m c (bcl news) hx (by simp [bcl, hml])
  (fun j u hu => ?_) (fun u hu => ?_) hm (by unfold maxLen; omega) (by omega) hb _ rfl (fun g cap w' r1 r2 r3 _ => hK _ w' ?_ (below_grown r2 (fun k hk => (hown.lt k hk).1) hb))
 ·simp only [bcl, List.getElem?_map] at hu
  obtain ⟨y, hy, rfl⟩ := Option.map_eq_some_iff.1 hu
  obtain ⟨hj, rfl⟩ := List.getElem?_eq_some_iff.1 hy
  exact hc j hj
 ·obtain ⟨y, _, rfl⟩ := List.mem_map.1 hu
  rfl
 ·have e : bcl (l ++ news) = bcl l ++ bcl news := by simp [bcl]
  unfold OwnB
  rw [e, List.length_append, hml]
  exact r1
theorem one_byte (W : World) (y : Nat) : ∀ j (h : j < [y % 256].length), (W.alloc (.cells #[.int .u8 ((y : Int) % 256)] 5)).cell? ((⟨W.heap.size, 0, none⟩ : Addr).add j) = some (.int .u8 (([y % 256][j] : Nat) : Int)) := fun j h => by
 have hj : j = 0 := by simp at h; exact h
 subst hj
 simp [Addr.add]
set_option maxRecDepth 100000 in
set_option maxHeartbeats 1000000 in
theorem number_any (base : Nat) (sv : Value) (l : List Nat) (v n : Nat) (w : World) (h : OwnB w base sv l) (hb : base ≤ w.heap.size) (hn : n ≤ 65536) (hl : l.length ≤ 1099511627776) (hv : v < 18446744073709551616) :
  Calls Tryz.prog 122 #[sv, .int .u64 (v : Int), .int .i64 (n : Int)] w fun e w' => ∃ sv', e = .returned sv' ∧ OwnB w' base sv' (l ++ le n v) ∧ Below base w w' := by
 have HH := hid h
 clear h
 go_enter Tryz.func122, Tryz.ntmps122
 go_wp2
 go_loopw [0, 1, 7] (fun bv vv i W => ∃ k : Nat, k ≤ n ∧ i = .int .i64 k ∧ vv = .int .u64 ((v / 256 ^ k : Nat) : Int) ∧ OwnB W base bv (l ++ le k v) ∧ Below base w W) (fun _ _ i _ => n - (intOf i).toNat)
 case atStart => exact ⟨0, Nat.zero_le _, rfl, by simp, by simpa [le] using HH.out, Below.refl _ _⟩
 case round =>
  obtain ⟨k, hk, rfl, rfl, h1, h2⟩ := hrel
  have hbW : base ≤ wr.heap.size := Nat.le_trans hb h2.size
  by_cases hlt : k < n
  ·have H1 := hid (h1.alloc (.cells #[.int .u8 (((v / 256 ^ k : Nat) : Int) % 256)] 5))
   have HC := hid (one_byte wr (v / 256 ^ k))
   have H2 := hid h2
   have hll : (l ++ le k v).length = l.length + k := by rw [List.length_append, le_length]
   have hdv : v / 256 ^ k / 256 = v / 256 ^ (k + 1) := by rw [Nat.div_div_eq_div_mul, Nat.pow_succ]
   have HDV := hid hdv
   have HLE : Hid (l ++ le (k + 1) v = (l ++ le k v) ++ [v / 256 ^ k % 256]) := by show _ = _; rw [le_succ, List.append_assoc]
   have hyv : v / 256 ^ k < 18446744073709551616 := Nat.lt_of_le_of_lt (Nat.div_le_self ..) hv
   obtain ⟨y, hy⟩ : ∃ y, y = v / 256 ^ k := ⟨_, rfl⟩
   rw [← hy] at HDV HLE H1 HC hyv ⊢
   have hsz : (wr.alloc (.cells #[.int .u8 ((y : Int) % 256)] 5)).heap.size = wr.heap.size + 1 := by simp
   have HLL := hid hll
   clear h1 h2 hdv hy hll
   go_wp2_with (first
    |(at_builtin; refine wpList_app _ rfl _ _ rfl base _ (l ++ le k v) ⟨wr.heap.size, 0, none⟩ [y % 256] 1 1 rfl rfl rfl H1.out HC.out (by omega) (by have := HLL.out; omega) (by omega) ?_; intro v3 w3 r1 r2; have K1 := hid r1; have K2 := hid r2; clear r1 r2))
   have hbe : Below base w w3 := (H2.out.alloc (by omega) _).trans K2.out
   refine ⟨⟨k + 1, hlt, rfl, ?_, by rw [HLE.out]; exact K1.out, hbe⟩, by simp [intOf]; omega⟩
   rw [← HDV.out]
   simp
  ·have HF := hid (And.intro h1 h2)
   have e : k = n := by omega
   subst e
   clear h1 h2
   go_wp2
   go_ret
   exact ⟨_, rfl, HF.out⟩
theorem OwnB.rd {w : World} {base : Nat} {v : Value} {l : List Nat} (h : OwnB w base v l) (h0 : 0 < l.length) : ∃ g cap, v = .slice (some ⟨g, 0, none⟩) l.length cap ∧ base ≤ g ∧ g < w.heap.size ∧ l.length ≤ cap ∧ Rd w g 0 l := by
 rcases h.2 with ⟨_, hn⟩ | ⟨g, cap, cur, hv, hb, hg, hc, _, _, ht⟩
 ·omega
 ·refine ⟨g, cap, hv, hb, ltB hg, hc, fun i hi => ?_⟩
  have h1 := h.cells (g := g) (by rw [hv]; rfl) i (.int .u8 (l[i] : Int)) (by simp [bcl, List.getElem?_eq_getElem hi])
  have ha : (⟨g, 0, none⟩ : Addr).add i = ⟨g, 0 + i, none⟩ := by unfold Addr.add; split <;> simp_all
  rw [ha] at h1
  exact h1
theorem number_at (base : Nat) (sv : Value) (l : List Nat) (v n : Nat) (w : World) (h : OwnB w base sv l) (hb : base ≤ w.heap.size) (hn : n ≤ 65536) (hl : l.length ≤ 1099511627776) (hv : v < 18446744073709551616) (vz nz : Int) (e1 : vz = (v : Int)) (e2 : nz = (n : Int)) :
  Calls Tryz.prog 122 #[sv, .int .u64 vz, .int .i64 nz] w fun e w' => ∃ sv', e = .returned sv' ∧ OwnB w' base sv' (l ++ le n v) ∧ Below base w w' := by
 subst e1 e2
 exact number_any base sv l v n w h hb hn hl hv
set_option maxRecDepth 100000 in
set_option maxHeartbeats 2000000 in
theorem rencode_ok (kind place n N : Nat) (ws : List Nat) (rb ro rc : Nat) (w : World) (hw : Wd w rb ro ws) (hl : ws.length = 4 * n) (hrb : rb < w.heap.size) (hlt : ∀ x ∈ ws, x < 18446744073709551616)
  (hk1 : 1 ≤ kind) (hk2 : kind ≤ 255) (hp : place < 9223372036854775808) (hN1 : 64 ≤ N) (hN2 : N ≤ 65536) (hN3 : N % 32 = 0) (hn1 : 1 ≤ n) (hn2 : n ≤ N / 32 - 1) :
  Calls Tryz.prog 70 #[.int .i64 (kind : Int), .int .i64 (place : Int), .slice (some ⟨rb, ro, none⟩) n rc, .int .i64 (N : Int)] w fun e w' =>
   ∃ sv, e = .returned (.tuple #[sv, .int .i64 0]) ∧ OwnB w' w.heap.size sv (enc kind place n ws N) ∧ Tc [] w w' := by
 have HF := hid (fun W => rfit_any (N : Int) W)
 have hfit : fitN (N : Int) = ((N / 32 - 1 : Nat) : Int) := by unfold fitN; rw [if_pos (by omega)]; omega
 rw [hfit] at HF
 obtain ⟨f, hf⟩ : ∃ f, f = N / 32 - 1 := ⟨_, rfl⟩
 rw [← hf] at HF hn2
 have hf0 : ¬ (f : Int) = 0 := by omega
 have hf1 : ((f : Int) == 0) = false := by simpa using hf0
 have hn0' : ¬ (n : Int) = 0 := by omega
 have hn0 : ((n : Int) == 0) = false := by simpa using hn0'
 have hkm : (kind : Int) % 256 = (kind : Int) := by omega
 have hlit : OwnB (w.alloc (.cells #[.int .u8 83, .int .u8 84, .int .u8 82, .int .u8 65, .int .u8 1, .int .u8 (kind : Int)] 5)) w.heap.size (.slice (some ⟨w.heap.size, 0, none⟩) 6 6) [83, 84, 82, 65, 1, kind] := by
  have := World.ownsRow_lit (base := w.heap.size) (e := 5) (size := 1) w #[.int .u8 83, .int .u8 84, .int .u8 82, .int .u8 65, .int .u8 1, .int .u8 (kind : Int)] 6 (Nat.le_refl _) (by decide) rfl
  exact this
 have HLIT := hid hlit
 have T0 := hid (show Below w.heap.size w (w.alloc (.cells #[.int .u8 83, .int .u8 84, .int .u8 82, .int .u8 65, .int .u8 1, .int .u8 (kind : Int)] 5)) from (Below.refl _ w).alloc (Nat.le_refl _) _)
 have S0 : (w.alloc (.cells #[.int .u8 83, .int .u8 84, .int .u8 82, .int .u8 65, .int .u8 1, .int .u8 (kind : Int)] 5)).heap.size = w.heap.size + 1 := by simp
 have HS0 := hid S0
 have NUM := hid (fun sv l v n W vz nz h hb hn hl hv e1 e2 => number_at w.heap.size sv l v n W h hb hn hl hv vz nz e1 e2)
 have hn3 : n ≤ 2047 := by omega
 have HW := hid hw
 have HL := hid hl
 have HLT := hid hlt
 have HFF := hid hf
 clear hw hl hlt hfit hf hlit S0
 go_enter Tryz.func70, Tryz.ntmps70
 go_wp2_with (first
  |(go_at_call 38; refine (HF.out _).mono ?_; rintro e w3 ⟨rfl, hh⟩; have hh := hh.symm; subst hh))
 with_reducible refine (NUM.out _ _ n 2 _ _ _ HLIT.out ?_ ?_ ?_ ?_ ?_ ?_).mono ?_
 ·rw [HS0.out]; omega
 ·omega
 ·simp
 ·omega
 ·rfl
 ·rfl
 rintro e w1 ⟨v1, rfl, r1, t1⟩
 have O1 := hid r1
 have T1 := hid (T0.out.trans t1)
 clear r1 t1
 go_wp2_with fail
 with_reducible refine (NUM.out _ _ place 8 _ _ _ O1.out ?_ ?_ ?_ ?_ ?_ ?_).mono ?_
 ·exact T1.out.size
 ·omega
 ·simp [le_length]
 ·omega
 ·rfl
 ·rfl
 rintro e w2 ⟨v2, rfl, r2, t2⟩
 have O2 := hid r2
 have T2 := hid (T1.out.trans t2)
 clear r2 t2
 go_wp2_with fail
 with_reducible refine (NUM.out _ _ 0 12 _ _ _ O2.out ?_ ?_ ?_ ?_ ?_ ?_).mono ?_
 ·exact T2.out.size
 ·omega
 ·simp [le_length]
 ·omega
 ·rfl
 ·rfl
 rintro e w3 ⟨v3, rfl, r3, t3⟩
 have hhd : ([83, 84, 82, 65, 1, kind] ++ le 2 n ++ le 8 place ++ le 12 0) = head kind place n := by
  rw [le_zero]
  simp [head, zeros]
 rw [hhd] at r3
 have O3 := hid r3
 have T3 := hid (T2.out.trans t3)
 clear r3 t3 hhd T2 T1 O1 O2 HLIT T0 HS0
 go_wp2_with fail
 go_loopw [10, 11] (fun bv i W => ∃ k : Nat, k ≤ n ∧ i = .int .i64 k ∧ OwnB W w.heap.size bv (head kind place n ++ (ws.take (4 * k)).flatMap (le 8)) ∧ Below w.heap.size w W) (fun _ i _ => n - (intOf i).toNat)
 case atStart => exact ⟨0, Nat.zero_le _, rfl, by simpa using O3.out, T3.out⟩
 case round =>
  obtain ⟨k, hk, rfl, h1, h2⟩ := hrel
  have H1 := hid h1
  have H2 := hid h2
  clear h1 h2
  by_cases hlt : k < n
  ·go_wp2_with fail
   go_loopw [10, 12] (fun bv i W => ∃ j : Nat, j ≤ 4 ∧ i = .int .i64 j ∧ OwnB W w.heap.size bv (head kind place n ++ (ws.take (4 * k + j)).flatMap (le 8)) ∧ Below w.heap.size w W) (fun _ i _ => 4 - (intOf i).toNat)
   case atStart => exact ⟨0, Nat.zero_le _, rfl, H1.out, H2.out⟩
   case round =>
    obtain ⟨j, hj, rfl, h1, h2⟩ := hrel
    by_cases hlt2 : j < 4
    ·have htl : 4 * k + j < ws.length := by rw [HL.out]; omega
     have hwd : Wd wr rb ro ws := fun i hi => (h2.cell (p := ⟨rb, ro + i, none⟩) hrb).trans (HW.out i hi)
     have hc := hwd (4 * k + j) htl
     rw [show ro + (4 * k + j) = ro + k * 4 + j by omega] at hc
     have hxs := HLT.out _ (List.getElem_mem htl)
     have hfl : (head kind place n ++ (ws.take (4 * k + j)).flatMap (le 8)) ++ le 8 ws[4 * k + j] = head kind place n ++ (ws.take (4 * k + (j + 1))).flatMap (le 8) := by
      rw [show 4 * k + (j + 1) = (4 * k + j) + 1 by omega, List.take_succ_eq_append_getElem htl, List.flatMap_append]
      simp
     have hll : (head kind place n ++ (ws.take (4 * k + j)).flatMap (le 8)).length ≤ 1099511627776 := by
      rw [List.length_append, head_length, flat_length, List.length_take]; omega
     obtain ⟨x, hxd⟩ : ∃ x, x = ws[4 * k + j] := ⟨_, rfl⟩
     rw [← hxd] at hc hxs hfl
     have HFL := hid hfl
     have HLL := hid hll
     have K1 := hid h1
     have K2 := hid h2
     clear h1 h2 hwd hxd hfl hll
     go_wp2_with fail
     with_reducible refine (NUM.out _ _ x 8 _ _ _ K1.out ?_ ?_ ?_ ?_ ?_ ?_).mono ?_
     ·exact K2.out.size
     ·omega
     ·exact HLL.out
     ·exact hxs
     ·rfl
     ·rfl
     rintro e w5 ⟨v5, rfl, r5, t5⟩
     rw [HFL.out] at r5
     have R5 := hid r5
     have T5 := hid (K2.out.trans t5)
     clear r5 t5
     go_wp2_with fail
     exact ⟨⟨j + 1, hlt2, rfl, R5.out, T5.out⟩, by simp [intOf]; omega⟩
    ·have e4 : j = 4 := by omega
     subst e4
     have K1 := hid h1
     have K2 := hid h2
     clear h1 h2
     go_wp2_with fail
     exact ⟨⟨k + 1, hlt, rfl, by rw [Nat.mul_succ]; exact K1.out, K2.out⟩, by simp [intOf]; omega⟩
  ·have e4 : k = n := by omega
   subst e4
   have hwl := HL.out
   have hff := HFF.out
   have h32 : 32 + 8 * ws.length ≤ N := by omega
   have o1 : OwnB wr w.heap.size u10 (head kind place k ++ ws.flatMap (le 8)) := by
    have := H1.out
    rwa [← hwl, List.take_length] at this
   have hpl : (head kind place k ++ ws.flatMap (le 8)).length = 28 + 8 * ws.length := by rw [List.length_append, head_length, flat_length]
   obtain ⟨g1, c1, rfl, _, _, _, _⟩ := o1.rd (by rw [hpl]; omega)
   have hbl := body_length (kind := kind) (place := place) (n := k) h32
   obtain ⟨P, hP⟩ : ∃ P, P = (head kind place k ++ ws.flatMap (le 8)).length := ⟨_, rfl⟩
   rw [← hP] at hpl
   have hbody : (head kind place k ++ ws.flatMap (le 8)) ++ le (N - 4 - P) 0 = body kind place k ws N := by
    rw [le_zero, body, List.append_assoc, show N - 4 - P = N - 32 - 8 * ws.length by omega]
    rfl
   have hPN : P + 4 ≤ N := by omega
   have HB := hid hbody
   have HBL := hid hbl
   have O1 := hid o1
   rw [← hP]
   have HP := hid hP
   clear H1 o1 hbody hbl hwl hff hpl hP
   go_wp2_with fail
   have O1' : OwnB wr w.heap.size (.slice (some ⟨g1, 0, none⟩) P c1) (head kind place k ++ ws.flatMap (le 8)) := by rw [HP.out]; exact O1.out
   with_reducible refine (NUM.out _ _ 0 (N - 4 - P) _ _ _ O1' ?_ ?_ ?_ ?_ ?_ ?_).mono ?_
   ·exact H2.out.size
   ·omega
   ·rw [← HP.out]; omega
   ·omega
   ·rfl
   ·omega
   rintro e w5 ⟨v5, rfl, r5, t5⟩
   rw [HB.out] at r5
   obtain ⟨g5, c5, rfl, hg5, hs5, hc5, hrd5⟩ := r5.rd (by rw [HBL.out]; omega)
   have hblt := body_lt (kind := kind) (place := place) (n := k) (ws := ws) (block := N) (by omega)
   have HSM := rsum_any (body kind place k ws N) g5 0 c5 w5 hrd5 hblt (by rw [HBL.out]; omega)
   have hcl : crc (body kind place k ws N) < 4294967296 := crc_lt hblt
   have O5 := hid r5
   have T5 := hid (H2.out.trans t5)
   rw [HBL.out] at HSM ⊢
   have HSM := hid HSM
   have HEN : Hid (body kind place k ws N ++ le 4 (crc (body kind place k ws N)) = enc kind place k ws N) := rfl
   obtain ⟨v, hv⟩ : ∃ v, v = crc (body kind place k ws N) := ⟨_, rfl⟩
   rw [← hv] at HSM HEN hcl
   clear r5 t5 hrd5 hblt hv
   go_wp2_with (first
    |(go_at_call 123; refine HSM.out.mono ?_; rintro e w3 ⟨rfl, hh⟩; have hh := hh.symm; subst hh))
   have O5' : OwnB w5 w.heap.size (.slice (some ⟨g5, 0, none⟩) (N - 4) c5) (body kind place k ws N) := by rw [← HBL.out]; exact O5.out
   with_reducible refine (NUM.out _ _ v 4 _ _ _ O5' ?_ ?_ ?_ ?_ ?_ ?_).mono ?_
   ·exact T5.out.size
   ·omega
   ·rw [HBL.out]; omega
   ·omega
   ·rfl
   ·rfl
   rintro e w6 ⟨v6, rfl, r6, t6⟩
   rw [HEN.out] at r6
   have R6 := hid r6
   have T6 := hid (T5.out.trans t6)
   clear r6 t6
   go_wp2_with fail
   go_ret2
   exact ⟨_, rfl, R6.out, Tc.of_below T6.out (Nat.le_refl _)⟩
end Go.Proofs.YthehcjjckabljaaGreatDoor.Rx
