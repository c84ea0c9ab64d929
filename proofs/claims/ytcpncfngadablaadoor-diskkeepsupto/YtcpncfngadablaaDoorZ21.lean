import Derived.Test.YtcpncfngadablaaDoorZ20
import Derived.Test.YtcpncfngadablaaDoorZ11
import Derived.ProofKit
import Derived.Deep.Slices
import Derived.LaidLaws
import Derived.MakeChecks
namespace Go.Proofs.YtcpncfngadablaaDoor
open Go.ChangeShapes Go.WideShapes Go.ChangeAt Go.RowKit Go.Deep

theorem own : ownKnob Tryd.prog.godebug = none := by kernel_rfl
theorem laidOut : laidOutB Tryd.prog = true := by kernel_rfl
theorem cells3 : Tryd.prog.cellsOf 3 = 1 := by kernel_rfl
theorem cells5 : Tryd.prog.cellsOf 5 = 1 := by kernel_rfl
theorem cells9 : Tryd.prog.cellsOf 9 = 1 := by kernel_rfl
theorem cells31 : Tryd.prog.cellsOf 31 = 1 := by kernel_rfl
theorem cells40 : Tryd.prog.cellsOf 40 = 5 := by kernel_rfl

/-! ### what the bound gives -/
theorem bulk_one {H : Type} (d : DataW H) : 1 ≤ Rows.uptoBulk d := by
  cases d with
  | lit l => cases l <;> simp [Rows.uptoBulk]
  | nil => simp [Rows.uptoBulk]
  | ptr d => simp [Rows.uptoBulk]
  | slice elems spare => simp [Rows.uptoBulk]
  | agg parts => simp [Rows.uptoBulk]
  | iface t d => simp [Rows.uptoBulk]
  | map entries => simp [Rows.uptoBulk]
  | held h => simp [Rows.uptoBulk]
theorem bulk_part {H : Type} {d : DataW H} {l : List (DataW H)} (h : d ∈ l) : Rows.uptoBulk d ≤ Rows.uptoBulkAll l := by
  induction l with
  | nil => cases h
  | cons x r ih =>
    simp only [Rows.uptoBulkAll]
    cases List.mem_cons.1 h with
    | inl e => subst e; omega
    | inr e => have := ih e; omega
theorem bulk_length {H : Type} (l : List (DataW H)) : l.length ≤ Rows.uptoBulkAll l := by
  induction l with
  | nil => simp [Rows.uptoBulkAll]
  | cons x r ih => have := bulk_one x; simp only [Rows.uptoBulkAll, List.length_cons]; omega

section
variable {H : Type} {enc : TypeId × Value → H} {W : World} {spare : Nat → Bool} {held : Bool}

/-- bytes that came in. -/
theorem open_data {fuel : Nat} {v : Value} {x : DataW H × List MemPlace} (h : DataW.trod enc Tryd.prog W 0 spare held fuel 31 [v] = some x) :
    ∃ sb m c d, v = .slice sb m c ∧ Shows W sb m c d ∧ m ≤ Rows.uptoBulk x.1 := by
  rcases open_ints Tryd.underlying31 Tryd.underlying5 cells5 h with ⟨hcs, rfl⟩ | ⟨a, len, cap, zs, hcs, _, hl, hm, hz, rfl, hcell, hwz⟩
  · simp at hcs
    subst hcs
    exact ⟨none, 0, 0, [], rfl, ⟨rfl, Nat.le_refl _, fun h => by omega, fun _ => ⟨rfl, rfl⟩⟩, by omega⟩
  · simp at hcs
    subst hcs
    have hlz : len ≤ zs.length := by rw [hz]; split <;> omega
    have hd : ∀ (j : Nat) (hj : j < len), Value.int .u8 ((UInt8.ofNat (zs[j]'(by omega)).toNat).toNat : Int) = .int .u8 (zs[j]'(by omega)) := fun j hj => by
      have h5 := hwz (zs[j]'(by omega)) (List.getElem_mem _)
      have e1 : IntKind.u8.min = 0 := rfl
      have e2 : IntKind.u8.max = 255 := rfl
      have h6 : 0 ≤ zs[j]'(by omega) ∧ zs[j]'(by omega) ≤ 255 := by simpa [Lit.wf, e1, e2] using h5
      congr 1
      simp
      omega
    refine ⟨some a, len, cap, ((zs.take len).map fun z => UInt8.ofNat z.toNat), rfl, ⟨by simp [hlz], hl, fun h0 => ⟨a, rfl, ?_, fun j u hu => ?_⟩, by simp⟩, ?_⟩
    · have := World.block_lt_of_cell? W _ (hcell 0 (by omega))
      rwa [add_block] at this
    · obtain ⟨hj, hu⟩ := List.getElem?_eq_some_iff.1 hu
      have hj' : j < len := by simpa [Lib.byteCells, hlz] using hj
      rw [hcell j (by omega), ← hu]
      simp only [Lib.byteCells, List.getElem_map, List.getElem_take]
      rw [hd j hj', show zs.getD j 0 = zs[j]'(by omega) by simp [List.getD, List.getElem?_eq_getElem (show j < zs.length by omega)]]
    · simp only [Rows.uptoBulk]
      have h1 := bulk_length (H := H) (lits .u8 (zs.take len))
      simp only [lits, List.length_map, List.length_take] at h1 ⊢
      omega

set_option maxRecDepth 100000 in
theorem open_op {n : Nat} {a : Addr} {cs : List Value} {x : DataW H × List MemPlace} (h1 : W.cells? 0 a 5 = some cs) (h2 : DataW.trod enc Tryd.prog W 0 spare held n 40 cs = some x) :
    ∃ (o : OpA) (sb : Option Addr) (m c : Nat), W.cell? a = some (.int .i64 o.kind) ∧ W.cell? ⟨a.block, a.off + 1, none⟩ = some (.string o.name) ∧ W.cell? ⟨a.block, a.off + 2, none⟩ = some (.int .i64 o.N) ∧ W.cell? ⟨a.block, a.off + 3, none⟩ = some (.int .i64 o.bit) ∧ W.cell? ⟨a.block, a.off + 4, none⟩ = some (.slice sb m c) ∧ Shows W sb m c o.data ∧ m ≤ Rows.uptoBulk x.1 := by
  obtain ⟨xs, k, rfl, rfl, hl, hxs, hf⟩ := DataW.trod_struct Tryd.underlying40 h2
  have hm : (List.range 5).mapM (fun i => W.cell? (a.add i)) = some cs := by
    simpa [World.cells?] using h1
  have g : ∀ i, i < 5 → W.cell? (a.add i) = cs[i]? := fun i hi => mapM_some_get hm i i (by simp [hi])
  rw [cells40] at hl
  match cs, hl with
  | [v0, v1, v2, v3, v4], _ =>
  have g0 := g 0 (by omega)
  have g1 := g 1 (by omega)
  have g2 := g 2 (by omega)
  have g3 := g 3 (by omega)
  have g4 := g 4 (by omega)
  simp at g0 g1 g2 g3 g4
  have hsp := World.cell?_spot g0
  have f0 := hf 0 _ rfl
  have f1 := hf 1 _ rfl
  have f2 := hf 2 _ rfl
  have f3 := hf 3 _ rfl
  have f4 := hf 4 _ rfl
  simp [cells3, cells9, cells31] at f0 f1 f2 f3 f4
  have hx5 : xs.length = 5 := by simpa using hxs
  have hx4 : xs[4]? = some (xs[4]'(by omega)) := List.getElem?_eq_getElem (by omega)
  rw [List.getElem?_eq_getElem (by omega)] at f0 f1 f2 f3 f4
  obtain ⟨n0, e0, _, _⟩ := DataW.trod_int Tryd.underlying3 f0
  obtain ⟨s1, e1, _, _⟩ := DataW.trod_string Tryd.underlying9 f1
  obtain ⟨n2, e2, _, _⟩ := DataW.trod_int Tryd.underlying3 f2
  obtain ⟨n3, e3, _, _⟩ := DataW.trod_int Tryd.underlying3 f3
  obtain ⟨sb, m, c, d, rfl, hs, hmb⟩ := open_data f4
  simp at e0 e1 e2 e3
  subst e0
  subst e1
  subst e2
  subst e3
  obtain ⟨b, off, spot⟩ := a
  obtain rfl : spot = none := hsp
  rw [add_plain] at g1 g2 g3 g4
  refine ⟨⟨n0, s1, n2, n3, d⟩, sb, m, c, by simpa [Addr.add] using g0, g1, g2, g3, g4, hs, Nat.le_trans hmb ?_⟩
  simp only [Rows.uptoBulk]
  have := bulk_part (H := H) (d := (xs[4]'(by omega)).1) (l := xs.map (·.1)) (List.mem_map.2 ⟨_, List.getElem_mem _, rfl⟩)
  omega

set_option maxRecDepth 100000 in
/-- a script that came in. -/
theorem open_ops {v : Value} {d : DataW H} {ps : List MemPlace} {base : Nat} (hval : Value.okWide Tryd.prog W .any base 22 v) (h : DataW.Trod enc Tryd.prog W 0 spare held 22 v d ps) (hk : Rows.uptoBulk d ≤ 1048576) :
    ∃ (sa : Option Addr) (ca : Nat) (l : List OpA), v = .slice sa l.length ca ∧ OpsAt W sa l ∧ l.length ≤ 1073741824 := by
  obtain ⟨a0, len, cap, rfl⟩ := okWide_slice Tryd.underlying22 hval
  obtain ⟨fuel, hf⟩ := h
  rcases open_slice Tryd.underlying22 hf with ⟨hcs, hx⟩ | ⟨a, len', cap', m, n, D, Pl, hcs, _, hl, hm, hmm, hx, hall⟩
  · simp [Value.cells] at hcs
    obtain ⟨rfl, rfl, rfl⟩ := hcs
    exact ⟨none, 0, [], rfl, ⟨fun k hk => by simp at hk⟩, Nat.zero_le _⟩
  · simp [Value.cells] at hcs
    obtain ⟨rfl, rfl, rfl⟩ := hcs
    rw [cells40] at hx hall
    obtain ⟨rfl, -⟩ := Prod.mk.inj hx
    have hlm : len ≤ m := by rw [hmm]; split <;> omega
    have hb1 : Rows.uptoBulkAll ((List.range len).map D) ≤ 1048576 := by
      simp only [Rows.uptoBulk] at hk
      omega
    have hlen2 := bulk_length ((List.range len).map D)
    simp only [List.length_map, List.length_range] at hlen2
    have each : ∀ i, i < len → ∃ o : OpA × Option Addr × Nat × Nat, W.cell? (a.add (i * 5)) = some (.int .i64 o.1.kind) ∧ W.cell? ⟨(a.add (i * 5)).block, (a.add (i * 5)).off + 1, none⟩ = some (.string o.1.name) ∧ W.cell? ⟨(a.add (i * 5)).block, (a.add (i * 5)).off + 2, none⟩ = some (.int .i64 o.1.N) ∧ W.cell? ⟨(a.add (i * 5)).block, (a.add (i * 5)).off + 3, none⟩ = some (.int .i64 o.1.bit) ∧ W.cell? ⟨(a.add (i * 5)).block, (a.add (i * 5)).off + 4, none⟩ = some (.slice o.2.1 o.2.2.1 o.2.2.2) ∧ Shows W o.2.1 o.2.2.1 o.2.2.2 o.1.data ∧ o.2.2.1 ≤ 1073741824 := fun i hi => by
      obtain ⟨cs', h1, h2⟩ := hall i (by omega)
      obtain ⟨o, sb, m, c, c0, c1, c2, c3, c4, hs, hmb⟩ := open_op h1 h2
      have h3 := bulk_part (H := H) (d := D i) (l := (List.range len).map D) (List.mem_map.2 ⟨i, List.mem_range.2 hi, rfl⟩)
      exact ⟨(o, sb, m, c), c0, c1, c2, c3, c4, hs, by show m ≤ 1073741824; simp only at hmb; omega⟩
    haveI : Inhabited (OpA × Option Addr × Nat × Nat) := ⟨⟨0, ⟨#[]⟩, 0, 0, []⟩, none, 0, 0⟩
    obtain ⟨f, hf⟩ := choose_lt each
    have hlen : ((List.range len).map fun i => (f i).1).length = len := by simp
    refine ⟨some a, cap, (List.range len).map fun i => (f i).1, by rw [hlen], ⟨fun k hk => ?_⟩, by rw [hlen]; omega⟩
    rw [hlen] at hk
    obtain ⟨c0, c1, c2, c3, c4, hs, hmb⟩ := hf k hk
    refine ⟨a, (f k).2.1, (f k).2.2.1, (f k).2.2.2, rfl, ?_, by simpa using c0, by simpa using c1, by simpa using c2, by simpa using c3, c4, by simpa using hs, hmb⟩
    have := World.block_lt_of_cell? W _ c0
    rwa [add_block] at this
end
end Go.Proofs.YtcpncfngadablaaDoor
namespace Go.Proofs.YtcpncfngadablaaDoor
open Go.ChangeShapes Go.WideShapes Go.ChangeAt Go.RowKit Go.Deep

theorem cells182 : Tryd.prog.cellsOf 182 = 1 := by kernel_rfl
theorem star : "*" ++ "errors.errorString" = "*errors.errorString" := by decide
theorem row158 (u : TypeId) (h : Tryd.prog.typeName? 3 u = some "*errors.errorString") : u = 158 :=
  typeName_ptr_named (nm := "errors.errorString") (by rw [star]; kernel_rfl) (by kernel_rfl) (by decide) u (by rw [star]; exact h)


set_option maxRecDepth 100000 in
theorem laid_step {W : World} {n : String} {i : Nat} {text : List UInt8} {r : List (String × DataW Unit)} {ps all : List MemPlace} (hg : Tryd.prog.globalNamed n = some i) (ht : (Tryd.prog.globals[i]?).map (·.type) = some 55)
    (h : DataW.LaidVars Tryd.prog W ((n, .iface "*errors.errorString" (.ptr (.agg [.lit (.string text)]))) :: r) ps) (hsub : ∀ x ∈ ps, x ∈ all)
    (hrows : ∀ b off, MemPlace.cell b off ∈ all → (∃ c t, W.heap[b]? = some (.cells c t (0, 0))) ∧ ∀ u v, W.cell? ⟨b, off, none⟩ = some (.iface u v) → Value.okWide Tryd.prog W .any 0 u v) :
    ∃ (a : Addr) (q : List MemPlace), W.cell? ⟨i, 0, none⟩ = some (.iface 158 (.pointer (some a))) ∧ (∃ c t, W.heap[a.block]? = some (.cells c t (0, 0))) ∧ a.spot = none ∧ DataW.LaidVars Tryd.prog W r q ∧ ps = .cell i 0 :: .cell a.block a.off :: q := by
  obtain ⟨g, t, cs, f, p, q, hg0, ht0, hv0, hd0, hr, e⟩ := h
  obtain rfl := Option.some.inj (hg.symm.trans hg0)
  obtain rfl := Option.some.inj (ht.symm.trans ht0)
  obtain ⟨l0⟩ := cs
  have ok0 : ∀ u v, l0 = [.iface u v] → Value.okWide Tryd.prog W .any 0 u v := fun u v el => by
    subst el
    exact (hrows i 0 (hsub _ (by rw [e]; simp [MemPlace.row]))).2 u v (by simpa using World.var?_cell hg0 hv0 0)
  obtain ⟨a, s, rfl, hc, _, _, rfl⟩ := errorString_of_trod Tryd.underlying55 row158 Tryd.underlying158 Tryd.underlying182 rfl rfl Tryd.underlying9 cells182 cells9 hd0 ok0
  have hsp := World.cell?_spot hc
  have hps : ps = .cell i 0 :: .cell a.block a.off :: q := by rw [e]; simp [MemPlace.row]
  exact ⟨a, q, by simpa using World.var?_cell hg0 hv0 0, (hrows a.block a.off (hsub _ (by rw [hps]; simp))).1, hsp, hr, hps⟩

set_option maxRecDepth 100000 in
/-- the eleven errors of the package, as the row's list gives them. -/
theorem sents_of_laid {W : World} (h0 : laidMetH Tryd.prog Rows.diskGoesOnUptoRow.laid W) : ∃ E, Env W W.heap.size E := by
  have h : laidMet Tryd.prog Rows.diskGoesOnUptoRow.laid W := h0
  obtain ⟨ps, hl0, hnd, hrows⟩ := h
  obtain ⟨a0, q0, v0, o0, s0, hl1, e0⟩ := laid_step (W := W) (i := 0) (by kernel_rfl) (by kernel_rfl) hl0 (fun x hx => hx) hrows
  obtain ⟨a1, q1, v1, o1, s1, hl2, e1⟩ := laid_step (W := W) (i := 1) (by kernel_rfl) (by kernel_rfl) hl1 (fun x hx => by rw [e0]; simp [hx]) hrows
  obtain ⟨a2, q2, v2, o2, s2, hl3, e2⟩ := laid_step (W := W) (i := 2) (by kernel_rfl) (by kernel_rfl) hl2 (fun x hx => by rw [e0, e1]; simp [hx]) hrows
  obtain ⟨a3, q3, v3, o3, s3, hl4, e3⟩ := laid_step (W := W) (i := 3) (by kernel_rfl) (by kernel_rfl) hl3 (fun x hx => by rw [e0, e1, e2]; simp [hx]) hrows
  obtain ⟨a4, q4, v4, o4, s4, hl5, e4⟩ := laid_step (W := W) (i := 4) (by kernel_rfl) (by kernel_rfl) hl4 (fun x hx => by rw [e0, e1, e2, e3]; simp [hx]) hrows
  obtain ⟨a5, q5, v5, o5, s5, hl6, e5⟩ := laid_step (W := W) (i := 5) (by kernel_rfl) (by kernel_rfl) hl5 (fun x hx => by rw [e0, e1, e2, e3, e4]; simp [hx]) hrows
  obtain ⟨a6, q6, v6, o6, s6, hl7, e6⟩ := laid_step (W := W) (i := 6) (by kernel_rfl) (by kernel_rfl) hl6 (fun x hx => by rw [e0, e1, e2, e3, e4, e5]; simp [hx]) hrows
  obtain ⟨a7, q7, v7, o7, s7, hl8, e7⟩ := laid_step (W := W) (i := 7) (by kernel_rfl) (by kernel_rfl) hl7 (fun x hx => by rw [e0, e1, e2, e3, e4, e5, e6]; simp [hx]) hrows
  obtain ⟨a8, q8, v8, o8, s8, hl9, e8⟩ := laid_step (W := W) (i := 8) (by kernel_rfl) (by kernel_rfl) hl8 (fun x hx => by rw [e0, e1, e2, e3, e4, e5, e6, e7]; simp [hx]) hrows
  obtain ⟨a9, q9, v9, o9, s9, hl10, e9⟩ := laid_step (W := W) (i := 9) (by kernel_rfl) (by kernel_rfl) hl9 (fun x hx => by rw [e0, e1, e2, e3, e4, e5, e6, e7, e8]; simp [hx]) hrows
  obtain ⟨a10, q10, v10, o10, s10, hl11, e10⟩ := laid_step (W := W) (i := 10) (by kernel_rfl) (by kernel_rfl) hl10 (fun x hx => by rw [e0, e1, e2, e3, e4, e5, e6, e7, e8, e9]; simp [hx]) hrows
  rw [e0, e1, e2, e3, e4, e5, e6, e7, e8, e9, e10] at hnd
  have hsub : ([a0, a1, a2, a3, a4, a5, a6, a7, a8, a9, a10].map fun a => MemPlace.cell a.block a.off).Nodup := List.Nodup.sublist (.cons _ (.cons_cons _ (.cons _ (.cons_cons _ (.cons _ (.cons_cons _ (.cons _ (.cons_cons _ (.cons _ (.cons_cons _ (.cons _ (.cons_cons _ (.cons _ (.cons_cons _ (.cons _ (.cons_cons _ (.cons _ (.cons_cons _ (.cons _ (.cons_cons _ (.cons _ (.cons_cons _ (List.nil_sublist _))))))))))))))))))))))) hnd
  have hL : [a0, a1, a2, a3, a4, a5, a6, a7, a8, a9, a10].Nodup := (List.pairwise_map.1 hsub).imp (fun {a b} hab e => hab (by rw [e]))
  have hne : ∀ i j : Nat, i < 11 → j < 11 → (fun k => #[a0, a1, a2, a3, a4, a5, a6, a7, a8, a9, a10].getD k a0) i = (fun k => #[a0, a1, a2, a3, a4, a5, a6, a7, a8, a9, a10].getD k a0) j → i = j := fun i j hi hj e => by
    have e1 : ∀ k (hk : k < 11), #[a0, a1, a2, a3, a4, a5, a6, a7, a8, a9, a10].getD k a0 = [a0, a1, a2, a3, a4, a5, a6, a7, a8, a9, a10][k]'(by simpa using hk) := fun k hk => by simp [Array.getD, hk]
    simp only [e1 i hi, e1 j hj] at e
    have hp := List.pairwise_iff_getElem.1 hL
    rcases Nat.lt_trichotomy i j with h | h | h
    · exact absurd e (hp i j _ _ h)
    · exact h
    · exact absurd e.symm (hp j i _ _ h)
  refine ⟨fun k => #[a0, a1, a2, a3, a4, a5, a6, a7, a8, a9, a10].getD k a0, ⟨⟨fun i hi => ?_, fun i hi => ?_, hne⟩, ?_, fun i hi => ?_, Nat.le_refl _⟩⟩
  · match i, hi with
    | 0, _ => exact v0
    | 1, _ => exact v1
    | 2, _ => exact v2
    | 3, _ => exact v3
    | 4, _ => exact v4
    | 5, _ => exact v5
    | 6, _ => exact v6
    | 7, _ => exact v7
    | 8, _ => exact v8
    | 9, _ => exact v9
    | 10, _ => exact v10
  · match i, hi with
    | 0, _ => exact o0
    | 1, _ => exact o1
    | 2, _ => exact o2
    | 3, _ => exact o3
    | 4, _ => exact o4
    | 5, _ => exact o5
    | 6, _ => exact o6
    | 7, _ => exact o7
    | 8, _ => exact o8
    | 9, _ => exact o9
    | 10, _ => exact o10
  · have := World.block_lt_of_cell? W _ v10
    exact this
  · match i, hi with
    | 0, _ => exact (by obtain ⟨c, t, ho⟩ := o0; exact lt_of_block ho)
    | 1, _ => exact (by obtain ⟨c, t, ho⟩ := o1; exact lt_of_block ho)
    | 2, _ => exact (by obtain ⟨c, t, ho⟩ := o2; exact lt_of_block ho)
    | 3, _ => exact (by obtain ⟨c, t, ho⟩ := o3; exact lt_of_block ho)
    | 4, _ => exact (by obtain ⟨c, t, ho⟩ := o4; exact lt_of_block ho)
    | 5, _ => exact (by obtain ⟨c, t, ho⟩ := o5; exact lt_of_block ho)
    | 6, _ => exact (by obtain ⟨c, t, ho⟩ := o6; exact lt_of_block ho)
    | 7, _ => exact (by obtain ⟨c, t, ho⟩ := o7; exact lt_of_block ho)
    | 8, _ => exact (by obtain ⟨c, t, ho⟩ := o8; exact lt_of_block ho)
    | 9, _ => exact (by obtain ⟨c, t, ho⟩ := o9; exact lt_of_block ho)
    | 10, _ => exact (by obtain ⟨c, t, ho⟩ := o10; exact lt_of_block ho)
end Go.Proofs.YtcpncfngadablaaDoor
/-
  What befalls a call: a fault, a cut. carry under them, whatever it is to do.
-/
namespace Go.Proofs.YtcpncfngadablaaDoor
open Go.RowKit Go.Deep

section
variable {w w' : World} {E : Nat → Addr} {lo p mf mt : Nat} {D : DiskC}

abbrev DiskC.off (D : DiskC) : DiskC := { D with on := false }

set_option maxHeartbeats 400000 in
theorem carry_fault (V : Env w lo E) (a b : Int) (fv : Value) :
    Calls Tryd.prog 56 #[ptr p, .agg #[.int .i64 a, .int .i64 1, .int .i64 b], fv] w fun e w' => e = .returned (errV E 1) ∧ Touch [] w w' := by
  have c1 : ∀ o : Obj, (w.alloc o).cell? ⟨1, 0, none⟩ = some (errV E 1) := fun o => (V.alloc o).sents.var 1 (by omega)
  go_enter Tryd.func56, Tryd.ntmps56
  go_wp2
  go_ret
  exact ⟨rfl, (Touch.refl [] w).alloc _⟩

theorem Rep.off (R : Rep w lo p mf mt D) : Rep (w.setCell ⟨p, 2, none⟩ (.bool false)) lo p mf mt D.off ∧ Touch [p] w (w.setCell ⟨p, 2, none⟩ (.bool false)) := by
  have ht : Touch [p] w (w.setCell ⟨p, 2, none⟩ (.bool false)) := (Touch.refl [p] w).setCell (by simp) _
  refine ⟨R.setRow rfl rfl rfl ht ?_, ht⟩
  rw [heap_setCell_row R.row 2]
  rfl

set_option maxHeartbeats 400000 in
theorem carry_cut0 (V : Env w lo E) (R : Rep w lo p mf mt D) (a b : Int) (hb : b ≤ 0) (fv : Value) :
    Calls Tryd.prog 56 #[ptr p, .agg #[.int .i64 a, .int .i64 2, .int .i64 b], fv] w fun e w' => e = .returned (errV E 2) ∧ Rep w' lo p mf mt D.off ∧ Touch [p] w w' := by
  have hlop : lo ≤ p := R.base p (by simp [DiskC.foot])
  have VO := V.touch R.off.2 (by simp; exact hlop)
  have c2 : ∀ o : Obj, ((w.setCell ⟨p, 2, none⟩ (.bool false)).alloc o).cell? ⟨2, 0, none⟩ = some (errV E 2) := fun o => (VO.alloc o).sents.var 2 (by omega)
  have k2 := R.cell 2
  simp only [dRow] at k2
  have f2 := R.unfrozen 2
  have HR := hid R.off
  have hp := lt_of_block R.row
  clear V VO
  go_enter Tryd.func56, Tryd.ntmps56
  go_wp2
  go_ret
  exact ⟨rfl, HR.out.1.alloc _, HR.out.2.alloc _⟩
end

end Go.Proofs.YtcpncfngadablaaDoor
/-
  Create under what befalls it.
-/
namespace Go.Proofs.YtcpncfngadablaaDoor
open Go.RowKit Go.Deep

section
variable {w w' : World} {E : Nat → Addr} {lo p mf mt : Nat} {D : DiskC}

set_option maxRecDepth 100000 in
set_option maxHeartbeats 400000 in
theorem carry_create_cut (V : Env w lo E) (R : Rep w lo p mf mt D) {s : ByteArray} {a b : Int} (bd bn : Nat) (hb : 0 < b) (hs : s.size ≤ 32) (hfind : findE D.ents (nm s) = none) (hsmall : D.ents.length ≤ 1099511627776)
    (hbd : w.heap[bd]? = some (.cells #[ptr p] 23 (0, 0))) (hbn : w.heap[bn]? = some (.cells #[.string s] 9 (0, 0))) :
    Calls Tryd.prog 56 #[ptr p, .agg #[.int .i64 a, .int .i64 2, .int .i64 b], .func (.func 58) #[] #[ptr bd, ptr bn]] w fun e w' => e = .returned (errV E 2) ∧ (∃ fb, w.heap.size ≤ fb ∧ Rep w' lo p mf mt { D.off with ents := insE ⟨nm s, ⟨false, []⟩, ⟨fb, .slice none 0 0, []⟩⟩ D.ents }) ∧ Touch [p, mf] w w' := by
  have hlop : lo ≤ p := R.base p (by simp [DiskC.foot])
  have hlom : lo ≤ mf := R.base mf (by simp [DiskC.foot])
  have VO := V.touch R.off.2 (by simp; exact hlop)
  have RO := R.off.1
  have TO := R.off.2
  have hp := lt_of_block R.row
  have lbd := lt_of_block hbd
  have lbn := lt_of_block hbn
  have nbd : bd ≠ p := fun e => by subst e; rw [R.row] at hbd; simp [dRow] at hbd
  have nbn : bn ≠ p := fun e => by subst e; rw [R.row] at hbn; simp [dRow] at hbn
  have obd : (w.setCell ⟨p, 2, none⟩ (.bool false)).heap[bd]? = some (.cells #[ptr p] 23 (0, 0)) := (TO.block bd lbd (by simp [nbd])).trans hbd
  have obn : (w.setCell ⟨p, 2, none⟩ (.bool false)).heap[bn]? = some (.cells #[.string s] 9 (0, 0)) := (TO.block bn lbn (by simp [nbn])).trans hbn
  have hz : (w.setCell ⟨p, 2, none⟩ (.bool false)).heap.size = w.heap.size := by simp [World.setCell]
  have H := hid (fun o : Obj => create1_any (RO.alloc o) b bd bn hs hfind (Nat.le_trans V.room (by simp [hz])) hsmall ((Below.heap_alloc _ o bd (by omega)).trans obd) ((Below.heap_alloc _ o bn (by omega)).trans obn))
  have HV := hid VO
  have HT := hid TO
  have HZ := hid hz
  have k2 := R.cell 2
  simp only [dRow] at k2
  have f2 := R.unfrozen 2
  clear hbd hbn hfind V VO RO TO obd obn hz nbd nbn
  go_enter Tryd.func56, Tryd.ntmps56
  go_wp2_with (go_at_call 58; refine (H.out _).mono ?_; rintro e w1 ⟨rfl, ⟨fb, hfb, hR⟩, ht⟩; have c2 : w1.cell? ⟨2, 0, none⟩ = some (errV E 2) := (((HV.out.alloc _).touch ht (by simp; exact hlom)).sents.var 2 (by omega)))
  go_ret
  have h1 : Touch [p, mf] w w1 := (((HT.out.mono (by simp)).alloc _)).trans ht (by simp)
  exact ⟨rfl, ⟨fb, Nat.le_trans (by simp [HZ.out]) hfb, hR⟩, h1⟩

set_option maxRecDepth 100000 in
set_option maxHeartbeats 400000 in
/-- create, up to what carry does. -/
theorem create_gen (V : Env w lo E) (R : Rep w lo p mf mt D) (s : ByteArray) (ho : D.on = true) (hn : nameB s = true) (hf : findE D.ents (nm s) = none) {a k b : Int} (hT : TroubleIs D.T D.c.calls a k b)
    (h0 : 0 ≤ D.c.calls) (h1 : D.c.calls ≤ 1099511627776) {v : Value} {Post : World → World → Prop}
    (HC : ∀ (w2 : World) (bd bn : Nat), Env w2 lo E → Rep w2 lo p mf mt D.numbered → w.heap.size ≤ w2.heap.size → w2.heap[bd]? = some (.cells #[ptr p] 23 (0, 0)) → w2.heap[bn]? = some (.cells #[.string s] 9 (0, 0)) →
      Calls Tryd.prog 56 #[ptr p, .agg #[.int .i64 a, .int .i64 k, .int .i64 b], .func (.func 58) #[] #[ptr bd, ptr bn]] w2 fun e w3 => e = .returned v ∧ Post w2 w3 ∧ Touch [p, mf] w2 w3) :
    Calls Tryd.prog 42 #[ptr p, .string s] w fun e w' => e = .returned v ∧ (∃ w2, w.heap.size ≤ w2.heap.size ∧ Rep w2 lo p mf mt D.numbered ∧ Post w2 w') ∧ Touch [p, mf, mt] w w' := by
  obtain ⟨W, hW⟩ : ∃ W, W = (w.alloc (.cells #[ptr p] 23)).alloc (.cells #[.string s] 9) := ⟨_, rfl⟩
  have hW1 : W.heap[w.heap.size]? = some (.cells #[ptr p] 23) ∧ W.heap[w.heap.size + 1]? = some (.cells #[.string s] 9) := by rw [hW]; exact heap_two w _ _
  have hTW : Touch [] w W := by rw [hW]; exact ((Touch.refl [] w).alloc _).alloc _
  have VW : Env W lo E := V.touch hTW (by simp)
  have RW : Rep W lo p mf mt D := R.touch hTW (by simp)
  have H := hid (find_none VW.sents RW s ho hn hf)
  have H2 := hid (fun n : Nat => is_at (VW.drewN n).sents 4 4 (by omega) (by omega))
  have c4 : ∀ n : Nat, (W.drewN n).cell? ⟨4, 0, none⟩ = some (errV E 4) := fun n => (VW.drewN n).sents.var 4 (by omega)
  have cd : ∀ n : Nat, (W.drewN n).cell? ⟨w.heap.size, 0, none⟩ = some (ptr p) := fun n => cell_row (w := W.drewN n) hW1.1 0
  have cn : ∀ n : Nat, (W.drewN n).cell? ⟨w.heap.size + 1, 0, none⟩ = some (.string s) := fun n => cell_row (w := W.drewN n) hW1.2 0
  have HV := hid VW
  have HR := hid RW
  have HW := hid hW1
  have HTW := hid hTW
  have HE := hid hW
  have HCC := hid HC
  have hp := lt_of_block R.row
  have hmf := R.files.lt
  have hmt : mt < w.heap.size := R.lt mt (by simp [DiskC.foot])
  have hlop : Hid (lo ≤ p ∧ lo ≤ mt) := hid ⟨R.base p (by simp [DiskC.foot]), R.base mt (by simp [DiskC.foot])⟩
  clear hf V R VW RW hW1 hTW hW HC
  go_enter Tryd.func42, Tryd.ntmps42
  go_wp2_with fail
  rw [← HE.out]
  refine H.out.mono ?_
  rintro e w1 ⟨rfl, n, rfl⟩
  go_wp2_with (go_at_call 39; refine (H2.out _).mono ?_; rintro e w1 ⟨rfl, rfl⟩)
  go_region_held3 (fun W' => W'.cell? ⟨w.heap.size, 0, none⟩ = some (ptr p)) (go_keep)
    (first
      | (go_at_call 57; refine (number_any (HR.out.drewN _) hT h0 h1).mono ?_; rintro e w2 ⟨rfl, hR2, ht2⟩; have hb2 := HW.out; have z2 : w2.cell? ⟨w.heap.size, 0, none⟩ = some (ptr p) := number_box hb2.1 ht2 hp hmt; have q2 := hid (number_row hb2.1 ht2 hp hmt); have q3 := hid (number_row hb2.2 ht2 (by omega) (by omega)); clear hb2)
      | (go_at_call 56; refine (HCC.out w2 _ _ ((HV.out.drewN _).touch ht2 (by simp; exact hlop.out)) hR2 (Nat.le_trans HTW.out.size ht2.size) q2.out q3.out).mono ?_; rintro e w3 ⟨rfl, hpost, ht3⟩; have z3 : w3.cell? ⟨w.heap.size, 0, none⟩ = some (ptr p) := (ht3.cell (p := ⟨w.heap.size, 0, none⟩) (lt_of_block q2.out) (by simp; omega)).trans z2))
  all_goals
    go_wp2
    go_ret
    have t3 : Touch [p, mf, mt] w w3 := (((HTW.out.mono (by simp)).drewN _).trans ht2 (by simp)).trans ht3 (by simp)
    exact ⟨rfl, ⟨w2, Nat.le_trans HTW.out.size ht2.size, hR2, hpost⟩, t3⟩
end

end Go.Proofs.YtcpncfngadablaaDoor
