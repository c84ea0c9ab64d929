import Derived.ChangeKeysEq
import Derived.ProofKit
import Derived.Deep.Slices
import Derived.LaidLaws
import Derived.MakeChecks
import Derived.Laws.IdiomArrays
import Derived.Test.YtclplbnildnifaaGreatDoorZ11
/-
  Records are compared.
-/
namespace Go.Proofs.YtclplbnildnifaaGreatDoor
open Go.RowKit Go.Deep
theorem info36 : ∃ i, Tryz.prog.info? 36 = some i ∧ Tryz.prog.cellsOf 36 = 1 := by
  have h : (Tryz.prog.info? 36).isSome = true := by kernel_rfl
  obtain ⟨i, hi⟩ := Option.isSome_iff_exists.1 h
  exact ⟨i, hi, by kernel_rfl⟩
theorem eq_rec (w : World) (a0 a1 a2 a3 b0 b1 b2 b3 : Int) : (Op.equalIn 10000 38 (.agg #[.int .u64 a0, .int .u64 a1, .int .u64 a2, .int .u64 a3]) (.agg #[.int .u64 b0, .int .u64 b1, .int .u64 b2, .int .u64 b3])).run Tryz.prog w = .ok (a0 == b0 && (a1 == b1 && (a2 == b2 && a3 == b3))) w := by
  obtain ⟨i, hi, hc⟩ := info36
  rw [run_equalIn_array w 9999 _ _ Tryz.underlying38 hi, hc]
  simp only [List.range, List.range.loop, Op.eqItems]
  simp [go_sem]
  by_cases h0 : a0 = b0 <;> by_cases h1 : a1 = b1 <;> by_cases h2 : a2 = b2 <;> by_cases h3 : a3 = b3 <;> simp [h0, h1, h2, h3]

section
variable {W W2 : World} {b : Bn} {k kb K B v z : Nat} {bs : List (List UInt8)} {sa : Src} {l : List Rc}
end
end Go.Proofs.YtclplbnildnifaaGreatDoor
/-
  TapeBits: what comes in.
-/
namespace Go.Proofs.YtclplbnildnifaaGreatDoor
open Go.ChangeShapes Go.WideShapes Go.ChangeAt Go.RowKit Go.Deep

theorem own : ownKnob Tryz.prog.godebug = none := by kernel_rfl
theorem laidOut : laidOutB Tryz.prog = true := by kernel_rfl
theorem cells9 : Tryz.prog.cellsOf 9 = 1 := by kernel_rfl
theorem cells36 : Tryz.prog.cellsOf 36 = 1 := by kernel_rfl
theorem cells38 : Tryz.prog.cellsOf 38 = 4 := by kernel_rfl

/-! ### what the bound gives -/
theorem bulk_one {H : Type} (d : DataW H) : 1 ≤ Rows.uptoBulk d := by
  cases d with
  | lit l => cases l <;> simp [Rows.uptoBulk]
  | nil => simp [Rows.uptoBulk]
  | ptr d => simp [Rows.uptoBulk]
  | slice elems spare => simp [Rows.uptoBulk]
  | agg parts => simp [Rows.uptoBulk]
  | iface t d => simp [Rows.uptoBulk]
  | map entries => simp [Rows.uptoBulk]
  | held h => simp [Rows.uptoBulk]
theorem bulk_length {H : Type} (l : List (DataW H)) : l.length ≤ Rows.uptoBulkAll l := by
  induction l with
  | nil => simp [Rows.uptoBulkAll]
  | cons x r ih => have := bulk_one x; simp only [Rows.uptoBulkAll, List.length_cons]; omega

theorem cells182 : Tryz.prog.cellsOf 342 = 1 := by kernel_rfl
theorem star : "*" ++ "errors.errorString" = "*errors.errorString" := by decide
theorem row158 (u : TypeId) (h : Tryz.prog.typeName? 3 u = some "*errors.errorString") : u = 320 :=
  typeName_ptr_named (nm := "errors.errorString") (by rw [star]; kernel_rfl) (by kernel_rfl) (by decide) u (by rw [star]; exact h)


set_option maxRecDepth 100000 in
theorem laid_step {W : World} {n : String} {i : Nat} {text : List UInt8} {r : List (String × DataW Unit)} {ps all : List MemPlace} (hg : Tryz.prog.globalNamed n = some i) (ht : (Tryz.prog.globals[i]?).map (·.type) = some 100)
    (h : DataW.LaidVars Tryz.prog W ((n, .iface "*errors.errorString" (.ptr (.agg [.lit (.string text)]))) :: r) ps) (hsub : ∀ x ∈ ps, x ∈ all)
    (hrows : ∀ b off, MemPlace.cell b off ∈ all → (∃ c t, W.heap[b]? = some (.cells c t (0, 0))) ∧ ∀ u v, W.cell? ⟨b, off, none⟩ = some (.iface u v) → Value.okWide Tryz.prog W .any 0 u v) :
    ∃ (a : Addr) (q : List MemPlace), W.cell? ⟨i, 0, none⟩ = some (.iface 320 (.pointer (some a))) ∧ (∃ c t, W.heap[a.block]? = some (.cells c t (0, 0))) ∧ a.spot = none ∧ DataW.LaidVars Tryz.prog W r q ∧ ps = .cell i 0 :: .cell a.block a.off :: q := by
  obtain ⟨g, t, cs, f, p, q, hg0, ht0, hv0, hd0, hr, e⟩ := h
  obtain rfl := Option.some.inj (hg.symm.trans hg0)
  obtain rfl := Option.some.inj (ht.symm.trans ht0)
  obtain ⟨l0⟩ := cs
  have ok0 : ∀ u v, l0 = [.iface u v] → Value.okWide Tryz.prog W .any 0 u v := fun u v el => by
    subst el
    exact (hrows i 0 (hsub _ (by rw [e]; simp [MemPlace.row]))).2 u v (by simpa using World.var?_cell hg0 hv0 0)
  obtain ⟨a, s, rfl, hc, _, _, rfl⟩ := errorString_of_trod Tryz.underlying100 row158 Tryz.underlying320 Tryz.underlying342 rfl rfl Tryz.underlying9 cells182 cells9 hd0 ok0
  have hsp := World.cell?_spot hc
  have hps : ps = .cell i 0 :: .cell a.block a.off :: q := by rw [e]; simp [MemPlace.row]
  exact ⟨a, q, by simpa using World.var?_cell hg0 hv0 0, (hrows a.block a.off (hsub _ (by rw [hps]; simp))).1, hsp, hr, hps⟩

set_option maxRecDepth 100000 in
/-- the eleven errors of the package, as the row's list gives them. -/
theorem sents_of_laid {W : World} (h0 : laidMetH Tryz.prog Rows.tapeBitsUptoRow.laid W) : ∃ E, Env W W.heap.size E := by
  have h : laidMet Tryz.prog Rows.tapeBitsUptoRow.laid W := h0
  obtain ⟨ps, hl0, hnd, hrows⟩ := h
  obtain ⟨a0, q0, v0, o0, s0, hl1, e0⟩ := laid_step (W := W) (i := 10) (by kernel_rfl) (by kernel_rfl) hl0 (fun x hx => hx) hrows
  obtain ⟨a1, q1, v1, o1, s1, hl2, e1⟩ := laid_step (W := W) (i := 0) (by kernel_rfl) (by kernel_rfl) hl1 (fun x hx => by rw [e0]; simp [hx]) hrows
  obtain ⟨a2, q2, v2, o2, s2, hl3, e2⟩ := laid_step (W := W) (i := 1) (by kernel_rfl) (by kernel_rfl) hl2 (fun x hx => by rw [e0, e1]; simp [hx]) hrows
  obtain ⟨a3, q3, v3, o3, s3, hl4, e3⟩ := laid_step (W := W) (i := 2) (by kernel_rfl) (by kernel_rfl) hl3 (fun x hx => by rw [e0, e1, e2]; simp [hx]) hrows
  obtain ⟨a4, q4, v4, o4, s4, hl5, e4⟩ := laid_step (W := W) (i := 3) (by kernel_rfl) (by kernel_rfl) hl4 (fun x hx => by rw [e0, e1, e2, e3]; simp [hx]) hrows
  obtain ⟨a5, q5, v5, o5, s5, hl6, e5⟩ := laid_step (W := W) (i := 4) (by kernel_rfl) (by kernel_rfl) hl5 (fun x hx => by rw [e0, e1, e2, e3, e4]; simp [hx]) hrows
  obtain ⟨a6, q6, v6, o6, s6, hl7, e6⟩ := laid_step (W := W) (i := 5) (by kernel_rfl) (by kernel_rfl) hl6 (fun x hx => by rw [e0, e1, e2, e3, e4, e5]; simp [hx]) hrows
  obtain ⟨a7, q7, v7, o7, s7, hl8, e7⟩ := laid_step (W := W) (i := 6) (by kernel_rfl) (by kernel_rfl) hl7 (fun x hx => by rw [e0, e1, e2, e3, e4, e5, e6]; simp [hx]) hrows
  obtain ⟨a8, q8, v8, o8, s8, hl9, e8⟩ := laid_step (W := W) (i := 7) (by kernel_rfl) (by kernel_rfl) hl8 (fun x hx => by rw [e0, e1, e2, e3, e4, e5, e6, e7]; simp [hx]) hrows
  obtain ⟨a9, q9, v9, o9, s9, hl10, e9⟩ := laid_step (W := W) (i := 8) (by kernel_rfl) (by kernel_rfl) hl9 (fun x hx => by rw [e0, e1, e2, e3, e4, e5, e6, e7, e8]; simp [hx]) hrows
  obtain ⟨a10, q10, v10, o10, s10, hl11, e10⟩ := laid_step (W := W) (i := 9) (by kernel_rfl) (by kernel_rfl) hl10 (fun x hx => by rw [e0, e1, e2, e3, e4, e5, e6, e7, e8, e9]; simp [hx]) hrows
  rw [e0, e1, e2, e3, e4, e5, e6, e7, e8, e9, e10] at hnd
  have hsub : ([a0, a1, a2, a3, a4, a5, a6, a7, a8, a9, a10].map fun a => MemPlace.cell a.block a.off).Nodup := List.Nodup.sublist (.cons _ (.cons_cons _ (.cons _ (.cons_cons _ (.cons _ (.cons_cons _ (.cons _ (.cons_cons _ (.cons _ (.cons_cons _ (.cons _ (.cons_cons _ (.cons _ (.cons_cons _ (.cons _ (.cons_cons _ (.cons _ (.cons_cons _ (.cons _ (.cons_cons _ (.cons _ (.cons_cons _ (List.nil_sublist _))))))))))))))))))))))) hnd
  have hL : [a0, a1, a2, a3, a4, a5, a6, a7, a8, a9, a10].Nodup := (List.pairwise_map.1 hsub).imp (fun {a b} hab e => hab (by rw [e]))
  have hne : ∀ i j : Nat, i < 11 → j < 11 → (fun k => #[a0, a1, a2, a3, a4, a5, a6, a7, a8, a9, a10].getD k a0) i = (fun k => #[a0, a1, a2, a3, a4, a5, a6, a7, a8, a9, a10].getD k a0) j → i = j := fun i j hi hj e => by
    have e1 : ∀ k (hk : k < 11), #[a0, a1, a2, a3, a4, a5, a6, a7, a8, a9, a10].getD k a0 = [a0, a1, a2, a3, a4, a5, a6, a7, a8, a9, a10][k]'(by simpa using hk) := fun k hk => by simp [Array.getD, hk]
    simp only [e1 i hi, e1 j hj] at e
    have hp := List.pairwise_iff_getElem.1 hL
    rcases Nat.lt_trichotomy i j with h | h | h
    · exact absurd e (hp i j _ _ h)
    · exact h
    · exact absurd e.symm (hp j i _ _ h)
  refine ⟨fun k => #[a0, a1, a2, a3, a4, a5, a6, a7, a8, a9, a10].getD k a0, ⟨⟨fun i hi => ?_, fun i hi => ?_, hne⟩, ?_, fun i hi => ?_, Nat.le_refl _⟩⟩
  · match i, hi with
    | 0, _ => exact v0
    | 1, _ => exact v1
    | 2, _ => exact v2
    | 3, _ => exact v3
    | 4, _ => exact v4
    | 5, _ => exact v5
    | 6, _ => exact v6
    | 7, _ => exact v7
    | 8, _ => exact v8
    | 9, _ => exact v9
    | 10, _ => exact v10
  · match i, hi with
    | 0, _ => exact o0
    | 1, _ => exact o1
    | 2, _ => exact o2
    | 3, _ => exact o3
    | 4, _ => exact o4
    | 5, _ => exact o5
    | 6, _ => exact o6
    | 7, _ => exact o7
    | 8, _ => exact o8
    | 9, _ => exact o9
    | 10, _ => exact o10
  · have := World.block_lt_of_cell? W _ v0
    exact this
  · match i, hi with
    | 0, _ => exact (by obtain ⟨c, t, ho⟩ := o0; exact lt_of_block ho)
    | 1, _ => exact (by obtain ⟨c, t, ho⟩ := o1; exact lt_of_block ho)
    | 2, _ => exact (by obtain ⟨c, t, ho⟩ := o2; exact lt_of_block ho)
    | 3, _ => exact (by obtain ⟨c, t, ho⟩ := o3; exact lt_of_block ho)
    | 4, _ => exact (by obtain ⟨c, t, ho⟩ := o4; exact lt_of_block ho)
    | 5, _ => exact (by obtain ⟨c, t, ho⟩ := o5; exact lt_of_block ho)
    | 6, _ => exact (by obtain ⟨c, t, ho⟩ := o6; exact lt_of_block ho)
    | 7, _ => exact (by obtain ⟨c, t, ho⟩ := o7; exact lt_of_block ho)
    | 8, _ => exact (by obtain ⟨c, t, ho⟩ := o8; exact lt_of_block ho)
    | 9, _ => exact (by obtain ⟨c, t, ho⟩ := o9; exact lt_of_block ho)
    | 10, _ => exact (by obtain ⟨c, t, ho⟩ := o10; exact lt_of_block ho)


theorem u64_wf {n : Int} (h : (Lit.int .u64 n).wf = true) : 0 ≤ n ∧ n ≤ 18446744073709551615 := by
  have e1 : IntKind.u64.min = 0 := rfl
  have e2 : IntKind.u64.max = 18446744073709551615 := rfl
  simpa [Lit.wf, e1, e2] using h

section
variable {H : Type} {enc : TypeId × Value → H} {W : World} {spare : Nat → Bool} {held : Bool}

/-- a record that came in. -/
theorem open_rec {m : Nat} {a : Addr} {cs : List Value} {x : DataW H × List MemPlace} (h1 : W.cells? 0 a 4 = some cs) (h2 : DataW.trod enc Tryz.prog W 0 spare held m 38 cs = some x) :
    ∃ r : Rc, (∀ y ∈ Rc.words r, y < 18446744073709551616) ∧ a.block < W.heap.size ∧ W.cell? a = some (.int .u64 (r.1 : Int)) ∧ W.cell? ⟨a.block, a.off + 1, none⟩ = some (.int .u64 (r.2.1 : Int)) ∧ W.cell? ⟨a.block, a.off + 2, none⟩ = some (.int .u64 (r.2.2.1 : Int)) ∧ W.cell? ⟨a.block, a.off + 3, none⟩ = some (.int .u64 (r.2.2.2 : Int)) := by
  have hm : (List.range 4).mapM (fun i => W.cell? (a.add i)) = some cs := by
    simpa [World.cells?] using h1
  have g : ∀ i, i < 4 → W.cell? (a.add i) = cs[i]? := fun i hi => mapM_some_get hm i i (by simp [hi])
  have hl : cs.length = 4 := by
    have := mapM_some_length hm
    simpa using this
  match cs, hl with
  | [c0, c1, c2, c3], _ =>
  obtain ⟨y0, y1, y2, y3, m', hx, hy0, hy1, hy2, hy3⟩ := trod_array4 Tryz.underlying38 cells36 h2
  obtain ⟨x0, e0, _, w0⟩ := DataW.trod_int Tryz.underlying36 hy0
  obtain ⟨x1, e1, _, w1⟩ := DataW.trod_int Tryz.underlying36 hy1
  obtain ⟨x2, e2, _, w2⟩ := DataW.trod_int Tryz.underlying36 hy2
  obtain ⟨x3, e3, _, w3⟩ := DataW.trod_int Tryz.underlying36 hy3
  simp at e0 e1 e2 e3
  subst e0 e1 e2 e3
  have w0 := u64_wf w0
  have w1 := u64_wf w1
  have w2 := u64_wf w2
  have w3 := u64_wf w3
  have g0 := g 0 (by omega)
  have g1 := g 1 (by omega)
  have g2 := g 2 (by omega)
  have g3 := g 3 (by omega)
  have hs1 := World.cell?_spot g0
  obtain ⟨b, off, spot⟩ := a
  have hsn : spot = none := by simpa [Addr.add] using hs1
  subst hsn
  rw [add_plain] at g0 g1 g2 g3
  have hlt : b < W.heap.size := by simpa using World.block_lt_of_cell? W _ g0
  refine ⟨(x0.toNat, x1.toNat, x2.toNat, x3.toNat), ?_, hlt, ?_, ?_, ?_, ?_⟩
  · intro y hy
    simp only [Rc.words, List.mem_cons, List.not_mem_nil, or_false] at hy
    omega
  · rw [Int.toNat_of_nonneg w0.1]; simpa using g0
  · rw [Int.toNat_of_nonneg w1.1]; simpa using g1
  · rw [Int.toNat_of_nonneg w2.1]; simpa using g2
  · rw [Int.toNat_of_nonneg w3.1]; simpa using g3

set_option maxRecDepth 100000 in
/-- records that came in. -/
theorem open_recs {v : Value} {d : DataW H} {ps : List MemPlace} {base : Nat} (hval : Value.okWide Tryz.prog W .any base 22 v) (h : DataW.Trod enc Tryz.prog W 0 spare held 22 v d ps) (hk : Rows.uptoBulk d ≤ 1048576) :
    ∃ (sa : Option Addr) (ca : Nat) (l : List Rc), v = .slice sa l.length ca ∧ RecsIn W W.heap.size sa l ∧ l.length ≤ 1048576 ∧ smallR l := by
  obtain ⟨a0, len, cap, rfl⟩ := okWide_slice Tryz.underlying22 hval
  obtain ⟨fuel, hf⟩ := h
  rcases open_slice Tryz.underlying22 hf with ⟨hcs, hx⟩ | ⟨a, len', cap', m, n, D, Pl, hcs, _, hl, hm, hmm, hx, hall⟩
  · simp [Value.cells] at hcs
    obtain ⟨rfl, rfl, rfl⟩ := hcs
    exact ⟨none, 0, [], rfl, ⟨fun k hk => by simp at hk⟩, Nat.zero_le _, fun y hy => by simp [flatR] at hy⟩
  · simp [Value.cells] at hcs
    obtain ⟨rfl, rfl, rfl⟩ := hcs
    rw [cells38] at hx hall
    obtain ⟨rfl, -⟩ := Prod.mk.inj hx
    have hlm : len ≤ m := by rw [hmm]; split <;> omega
    have hb1 : Rows.uptoBulkAll ((List.range len).map D) ≤ 1048576 := by
      simp only [Rows.uptoBulk] at hk
      omega
    have hlen2 := bulk_length ((List.range len).map D)
    simp only [List.length_map, List.length_range] at hlen2
    have each : ∀ i, i < len → ∃ r : Rc, (∀ y ∈ Rc.words r, y < 18446744073709551616) ∧ (a.add (i * 4)).block < W.heap.size ∧ W.cell? (a.add (i * 4)) = some (.int .u64 (r.1 : Int)) ∧ W.cell? ⟨(a.add (i * 4)).block, (a.add (i * 4)).off + 1, none⟩ = some (.int .u64 (r.2.1 : Int)) ∧ W.cell? ⟨(a.add (i * 4)).block, (a.add (i * 4)).off + 2, none⟩ = some (.int .u64 (r.2.2.1 : Int)) ∧ W.cell? ⟨(a.add (i * 4)).block, (a.add (i * 4)).off + 3, none⟩ = some (.int .u64 (r.2.2.2 : Int)) := fun i hi => by
      obtain ⟨cs', h1, h2⟩ := hall i (by omega)
      exact open_rec h1 h2
    obtain ⟨f, hf⟩ := choose_lt each
    have hlen : ((List.range len).map f).length = len := by simp
    refine ⟨some a, cap, (List.range len).map f, by rw [hlen], ⟨fun k hk => ?_⟩, by rw [hlen]; omega, fun y hy => ?_⟩
    · rw [hlen] at hk
      obtain ⟨_, h0, c0, c1, c2, c3⟩ := hf k hk
      rw [add_block] at h0
      exact ⟨a, rfl, h0, h0, by simpa using c0, by simpa using c1, by simpa using c2, by simpa using c3⟩
    · unfold flatR at hy
      obtain ⟨r, hr, hy⟩ := List.mem_flatMap.1 hy
      obtain ⟨k, hk, rfl⟩ := List.mem_map.1 hr
      exact (hf k (List.mem_range.1 hk)).1 y hy
end
end Go.Proofs.YtclplbnildnifaaGreatDoor
/-
  A pass forward over a whole tape: Peek, then Next.
-/
namespace Go.Proofs.YtclplbnildnifaaGreatDoor
open Go.RowKit Go.Deep
set_option linter.unusedSimpArgs false
set_option linter.unusedVariables false

/-- a tape whose blocks are all good. -/
structure Tap (b : Bn) (K B kind : Nat) (bs : List (List UInt8)) (l : List Rc) : Prop where
  nil : b.l = []
  hB : B = 32 + 32 * K
  hK : 1 ≤ K ∧ K ≤ 31
  k1 : 1 ≤ kind
  k2 : kind ≤ 5
  small : smallR l
  len : l.length ≤ 1048576
  m : bs.length = nBlocks K l.length
  good : ∀ j, j < bs.length → bs[j]? = some (encU kind j (flatR (chunk K j l)) B)

section
variable {w W : World} {b : Bn} {n : Nat} {s : Pu.St} {F : List Nat} {kb rb kind K B : Nat} {T : Int} {bs : List (List UInt8)} {l : List Rc} {i t : Nat} {c0 r0 : Int}

theorem Tap.few (C : Tap b K B kind bs l) : bs.length ≤ 1048576 := by
  rcases Nat.eq_zero_or_pos bs.length with h | h
  · omega
  · have h1 := nBlocks_lt C.hK.1 (show bs.length - 1 < nBlocks K l.length by have := C.m; omega)
    have h2 : (bs.length - 1) * 1 ≤ (bs.length - 1) * K := Nat.mul_le_mul_left _ C.hK.1
    have := C.len
    omega
theorem Tap.lt (C : Tap b K B kind bs l) {j : Nat} (hj : j < bs.length) : j * K < l.length := nBlocks_lt C.hK.1 (by have := C.m; omega)
theorem Tap.all (C : Tap b K B kind bs l) : l.length ≤ bs.length * K := by have := nBlocks_le (len := l.length) C.hK.1; rw [C.m]; exact this
theorem Tap.chunk (C : Tap b K B kind bs l) {j : Nat} (hj : j < bs.length) : 1 ≤ (chunk K j l).length ∧ (chunk K j l).length ≤ K ∧ (K ≤ (chunk K j l).length ∨ j + 1 = bs.length) := by
  have h1 := C.lt hj
  have h2 := C.hK.1
  have e : (Go.Proofs.YtclplbnildnifaaGreatDoor.chunk K j l).length = min K (l.length - j * K) := by
    unfold Go.Proofs.YtclplbnildnifaaGreatDoor.chunk
    rw [List.length_take, List.length_drop]
  rw [e]
  refine ⟨by omega, by omega, ?_⟩
  rcases Nat.lt_or_ge (j + 1) bs.length with h | h
  · have h3 := C.lt h
    rw [Nat.succ_mul] at h3
    exact .inl (by omega)
  · exact .inr (by omega)
theorem Tap.read (C : Tap b K B kind bs l) {j : Nat} (hj : j < bs.length) : Good kind j (encU kind j (flatR (Go.Proofs.YtclplbnildnifaaGreatDoor.chunk K j l)) B) (Go.Proofs.YtclplbnildnifaaGreatDoor.chunk K j l) := by
  obtain ⟨h1, h2, _⟩ := C.chunk hj
  have hB := C.hB
  have hK := C.hK
  have hf := C.few
  exact encU_good C.k1 C.k2 h1 (by omega) (by omega) (by omega) (flatR_mem (fun y hy => List.mem_of_mem_drop (List.mem_of_mem_take hy)) C.small) (by omega)

/-- i records have been read, t blocks loaded. -/
structure FwI (w W : World) (b : Bn) (n : Nat) (s : Pu.St) (F : List Nat) (kb rb kind K B : Nat) (bs : List (List UInt8)) (l : List Rc) (c0 r0 : Int) (i t : Nat) : Prop where
  went : ∃ F' g lv, Stand W b (n + t) (mkA B true bs (c0 + (t : Int)) (r0 + (t : Int))) s F' ∧ Touch (rb :: F) w W ∧ (∀ y ∈ F', y ∈ F ∨ w.heap.size ≤ y) ∧ g ∉ F' ∧ g ≠ rb ∧ g < W.heap.size ∧ b.lo ≤ g ∧ W.heap[rb]? = some (.cells (rrow kb nmA kind lv 0 false bs.length t) 106 (0, 0)) ∧ LsAt W g lv ((l.drop i).take (t * K - i))
  le : i ≤ t * K
  few : t ≤ bs.length
  near : t * K ≤ i + K

theorem FwI.quiet {W' : World} (I : FwI w W b n s F kb rb kind K B bs l c0 r0 i t) (q : Touch [] W W') : FwI w W' b n s F kb rb kind K B bs l c0 r0 i t := by
  obtain ⟨F', g, lv, S, tw, f, n1, n2, n3, n4, row, ls⟩ := I.went
  exact ⟨⟨F', g, lv, S.quiet q, tw.trans q (by simp), f, n1, n2, Nat.lt_of_lt_of_le n3 q.size, n4, (q.block rb (lt_of_block row) (by simp)).trans row, ls.touch q (by simp)⟩, I.le, I.few, I.near⟩

theorem fw_peek (I : FwI w W b n s F kb rb kind K B bs l c0 r0 i t) (C : Tap b K B kind bs l) (hn : n < 549755813888) (hk : DeskAt w kb b (K : Int) T) (hkF : kb ∉ F) (hil : i < l.length) (hrF : rb ∉ F) (hlo : b.lo ≤ rb) (hne : rb ≠ kb) (hrw : rb < w.heap.size) :
    Calls Tryz.prog 42 #[ptr rb] W fun e w' => e = .returned (.tuple #[(l[i]).val, .bool true, .int .i64 0]) ∧ ∃ t', i < t' * K ∧ FwI w w' b n s F kb rb kind K B bs l c0 r0 i t' := by
  obtain ⟨F', g, lv, S, tw, f, n1, n2, n3, n4, row, ls⟩ := I.went
  have hle := I.le
  have hfew := I.few
  have hK := C.hK
  have hbf := C.few
  have hrF' : rb ∉ F' := fun hx => by
    rcases f _ hx with h | h
    · exact hrF h
    · omega
  by_cases hlt : i < t * K
  · have ls0 := ls
    rw [take_cons hil hlt] at ls
    exact (Peek_have row ls (by simp only [List.length_cons, List.length_take]; have := I.near; omega)).mono fun e w' ⟨e1, t1⟩ => ⟨e1, t, hlt, I.quiet t1⟩
  · have hit : i = t * K := by omega
    have htv : t < bs.length := by
      rcases Nat.lt_or_ge t bs.length with h | h
      · exact h
      · have h1 := C.all
        have h2 := Nat.mul_le_mul_right K h
        omega
    have h1 : (t + 1) * K = t * K + K := Nat.succ_mul t K
    obtain ⟨hc1, hc2, hc3⟩ := C.chunk htv
    have hch : chunk K t l = l[i] :: (l.drop (i + 1)).take ((t + 1) * K - (i + 1)) := by
      rw [← take_cons hil (show i < (t + 1) * K by omega)]
      unfold chunk
      rw [← hit, show (t + 1) * K - i = K by omega]
    have hg := C.read htv
    have hrd := read_mk (B := B) (c := c0 + (t : Int)) (r := r0 + (t : Int)) (bs := bs) (i := t) htv
    rw [C.good t htv] at hrd
    have htr : b.tr (mkA B true bs (c0 + (t : Int)) (r0 + (t : Int))) = noTr := tr_nil C.nil _
    have hkF' : kb ∉ F' := fun hx => by
      rcases f _ hx with h | h
      · exact hkF h
      · have := lt_of_block hk; omega
    have hkW := hk.touch tw (by simp; exact ⟨fun e => hne e.symm, hkF⟩)
    have hlen0 : (LsAt W g lv []) := by
      have := ls
      rw [show t * K - i = 0 by omega] at this
      simpa using this
    obtain ⟨o, cc, hlv, _, _⟩ := hlen0.val
    simp only [List.length_nil] at hlv
    subst hlv
    have hrw' : rb < W.heap.size := lt_of_block row
    have N := Peek_load (x := nmA) (kb := kb) S (o := o) (c := cc) row htv (n1 := n + t + 1) (A1 := mkA B true bs (c0 + (t : Int) + 1) (r0 + (t : Int) + 1)) (r := l[i]) (t := (l.drop (i + 1)).take ((t + 1) * K - (i + 1))) (by rw [← hch]; omega)
        (fun W2 t2 => by
          have L := load_ok (x := nmA) (S.quiet t2) (by omega) (K := K) (fits_of C.hB C.hK) (hkW.touch t2 (by simp)) hkF' (kind := kind) (blocks := bs.length) (taken := t) (i := t) (lv := .slice o 0 cc) (dead := 0) ((t2.block rb hrw' (by simp)).trans row) hrF' hlo hne ⟨rfl, htv⟩ (by omega) C.k1 C.k2 (by rw [htr, hrd]) (by rw [htr, hrd]) hg.sum hg.formed hg.kind hg.place hg.count hg.words (by omega) hc3
          rw [htr, hrd, hch] at L
          exact L)
    refine N.mono fun e w' ⟨e1, g', hW, r1, hrr⟩ => ?_
    obtain ⟨F2, S2, t2, f2, hN⟩ := hW
    obtain ⟨g1, g2, g3⟩ := hN g' (by simp)
    rw [← hch] at r1 hrr
    have l1 := LsAt.of hrr g3
    refine ⟨e1, t + 1, by omega, ⟨F2, g', _, ?_, tw.trans t2 (fun y hy => ?_), fun y hy => ?_, g1, by omega, g3, ?_, r1, ?_⟩, by omega, by omega, by omega⟩
    · have e1 : c0 + ((t + 1 : Nat) : Int) = c0 + (t : Int) + 1 := by omega
      have e2 : r0 + ((t + 1 : Nat) : Int) = r0 + (t : Int) + 1 := by omega
      rw [e1, e2]
      exact S2
    · simp at hy
      rcases hy with rfl | hy
      · exact .inl (by simp)
      · rcases f _ hy with h | h
        · exact .inl (by simp [h])
        · exact .inr h
    · rcases f2 _ hy with h | h
      · exact f _ h
      · exact .inr (Nat.le_trans tw.size h)
    · exact Nat.le_trans S.room g2
    · rw [take_cons hil (show i < (t + 1) * K by omega), ← hch]
      exact l1

theorem fw_next (I : FwI w W b n s F kb rb kind K B bs l c0 r0 i t) (C : Tap b K B kind bs l) (hlt : i < t * K) (hil : i < l.length) (hrF : rb ∉ F) (hlo : b.lo ≤ rb) (hrw : rb < w.heap.size) :
    Calls Tryz.prog 13 #[ptr rb] W fun e w' => e = .returned (.tuple #[(l[i]).val, .bool true, .int .i64 0]) ∧ FwI w w' b n s F kb rb kind K B bs l c0 r0 (i + 1) t ∧ Touch [rb] W w' := by
  obtain ⟨F', g, lv, S, tw, f, n1, n2, n3, n4, row, ls⟩ := I.went
  have hK := C.hK
  have hrF' : rb ∉ F' := fun hx => by
    rcases f _ hx with h | h
    · exact hrF h
    · omega
  rw [take_cons hil hlt] at ls
  refine (Next_have row ls (by simp only [List.length_cons, List.length_take]; have := I.near; omega) n2 n3).mono fun e w' ⟨e1, t1, lv', r1, l1⟩ => ⟨e1, ⟨⟨F', g, lv', S.touch t1 (fun y hy => ?_), ?_, f, n1, n2, Nat.lt_of_lt_of_le n3 t1.size, n4, r1, l1⟩, hlt, I.few, by have := I.near; omega⟩, t1⟩
  · simp at hy
    subst hy
    exact ⟨hrF', hlo⟩
  · exact tw.trans t1 (fun y hy => .inl (by simp at hy; simp [hy]))

theorem fw_end (I : FwI w W b n s F kb rb kind K B bs l c0 r0 l.length t) (C : Tap b K B kind bs l) :
    t = bs.length ∧ Calls Tryz.prog 13 #[ptr rb] W fun e w' => e = .returned (.tuple #[zeroR, .bool false, .int .i64 0]) ∧ FwI w w' b n s F kb rb kind K B bs l c0 r0 l.length t := by
  have hle := I.le
  have hfew := I.few
  have ht : t = bs.length := by
    rcases Nat.lt_or_ge t bs.length with h | h
    · have := C.lt h; omega
    · omega
  subst ht
  refine ⟨rfl, ?_⟩
  obtain ⟨F', g, lv, S, tw, f, n1, n2, n3, n4, row, ls⟩ := I.went
  have hlen0 : (LsAt W g lv []) := by
    have := ls
    rw [List.drop_length] at this
    simpa using this
  obtain ⟨o, cc, hlv, _, _⟩ := hlen0.val
  simp only [List.length_nil] at hlv
  subst hlv
  exact (Next_no fun W1 t1 => Peek_end (o := o) (c := cc) ((t1.block rb (lt_of_block row) (by simp)).trans row)).mono fun e w' ⟨e1, t1⟩ => ⟨e1, I.quiet t1⟩
end
end Go.Proofs.YtclplbnildnifaaGreatDoor
/-
  A pass from the last record on.
-/
namespace Go.Proofs.YtclplbnildnifaaGreatDoor
open Go.RowKit Go.Deep
set_option linter.unusedSimpArgs false
set_option linter.unusedVariables false

theorem back_cons {l : List Rc} {j d : Nat} (hj : j < l.length) (hd : d ≤ j) : ((l.take (j + 1)).drop d).reverse = l[j] :: ((l.take j).drop d).reverse := by
  rw [List.take_succ_eq_append_getElem hj, List.drop_append_of_le_length (by rw [List.length_take]; omega), List.reverse_append]
  rfl

section
variable {w W : World} {b : Bn} {n : Nat} {s : Pu.St} {F : List Nat} {kb rb kind K B : Nat} {T : Int} {bs : List (List UInt8)} {l : List Rc} {i t : Nat} {c0 r0 : Int}

structure BwI (w W : World) (b : Bn) (n : Nat) (s : Pu.St) (F : List Nat) (kb rb kind K B : Nat) (bs : List (List UInt8)) (l : List Rc) (c0 r0 : Int) (i t : Nat) : Prop where
  went : ∃ F' g lv, Stand W b (n + t) (mkA B true bs (c0 + (t : Int)) (r0 + (t : Int))) s F' ∧ Touch (rb :: F) w W ∧ (∀ y ∈ F', y ∈ F ∨ w.heap.size ≤ y) ∧ g ∉ F' ∧ g ≠ rb ∧ g < W.heap.size ∧ b.lo ≤ g ∧ W.heap[rb]? = some (.cells (rrow kb nmA kind lv 0 true bs.length t) 106 (0, 0)) ∧ LsAt W g lv ((l.take (l.length - i)).drop ((bs.length - t) * K)).reverse
  le : (bs.length - t) * K ≤ l.length - i ∨ (t = 0 ∧ i = 0)
  few : t ≤ bs.length
  near : l.length - i ≤ (bs.length - t) * K + K

theorem BwI.quiet {W' : World} (I : BwI w W b n s F kb rb kind K B bs l c0 r0 i t) (q : Touch [] W W') : BwI w W' b n s F kb rb kind K B bs l c0 r0 i t := by
  obtain ⟨F', g, lv, S, tw, f, n1, n2, n3, n4, row, ls⟩ := I.went
  exact ⟨⟨F', g, lv, S.quiet q, tw.trans q (by simp), f, n1, n2, Nat.lt_of_lt_of_le n3 q.size, n4, (q.block rb (lt_of_block row) (by simp)).trans row, ls.touch q (by simp)⟩, I.le, I.few, I.near⟩

theorem bw_next (I : BwI w W b n s F kb rb kind K B bs l c0 r0 i t) (C : Tap b K B kind bs l) (hn : n < 549755813888) (hk : DeskAt w kb b (K : Int) T) (hkF : kb ∉ F) (hil : i < l.length) {z : Nat} (hz : z + 1 = l.length - i) (hzl : z < l.length) (hrF : rb ∉ F) (hlo : b.lo ≤ rb) (hne : rb ≠ kb) (hrw : rb < w.heap.size) :
    Calls Tryz.prog 13 #[ptr rb] W fun e w' => e = .returned (.tuple #[(l[z]).val, .bool true, .int .i64 0]) ∧ ∃ t', BwI w w' b n s F kb rb kind K B bs l c0 r0 (i + 1) t' := by
  obtain ⟨F', g, lv, S, tw, f, n1, n2, n3, n4, row, ls⟩ := I.went
  have hle := I.le
  have hfew := I.few
  have hnear := I.near
  have hK := C.hK
  have hbf := C.few
  have hz' : l.length - (i + 1) = z := by omega
  have hrF' : rb ∉ F' := fun hx => by
    rcases f _ hx with h | h
    · exact hrF h
    · omega
  by_cases hlt : (bs.length - t) * K < l.length - i
  · rw [← hz, back_cons hzl (by omega)] at ls
    refine (Next_have row ls (by simp only [List.length_cons, List.length_reverse, List.length_drop, List.length_take]; omega) n2 n3).mono fun e w' ⟨e1, t1, lv', r1, l1⟩ => ⟨e1, t, ⟨F', g, lv', S.touch t1 (fun y hy => ?_), ?_, f, n1, n2, Nat.lt_of_lt_of_le n3 t1.size, n4, r1, by rw [hz']; exact l1⟩, .inl (by omega), I.few, by omega⟩
    · simp at hy
      subst hy
      exact ⟨hrF', hlo⟩
    · exact tw.trans t1 (fun y hy => .inl (by simp at hy; simp [hy]))
  · have htv : t < bs.length := by
      rcases Nat.lt_or_ge t bs.length with h | h
      · exact h
      · rw [show bs.length - t = 0 by omega] at hlt
        omega
    obtain ⟨j, hj⟩ : ∃ j, j + 1 + t = bs.length := ⟨bs.length - t - 1, by omega⟩
    have hjt : bs.length - t = j + 1 := by omega
    have hjt1 : bs.length - (t + 1) = j := by omega
    have h1 : (j + 1) * K = j * K + K := Nat.succ_mul j K
    rw [hjt, h1] at hle hlt hnear
    have hjm : j < bs.length := by omega
    obtain ⟨hc1, hc2, hc3⟩ := C.chunk hjm
    have hjl := C.lt hjm
    have hce : chunk K j l = (l.take (l.length - i)).drop (j * K) := by
      unfold chunk
      rw [List.drop_take]
      rcases hle with h | ⟨h, h'⟩
      · rw [show l.length - i - j * K = K by omega]
      · subst h'
        rw [List.take_of_length_le (by rw [List.length_drop]; omega), List.take_of_length_le (by rw [List.length_drop]; omega)]
    have hdz : j * K ≤ z := by
      rcases hle with h | ⟨h, h'⟩ <;> omega
    have hch : (chunk K j l).reverse = l[z] :: ((l.take z).drop (j * K)).reverse := by
      rw [hce, ← hz, back_cons hzl hdz]
    have hcl : (chunk K j l).length = (l[z] :: ((l.take z).drop (j * K)).reverse).length := by rw [← hch, List.length_reverse]
    have hg := C.read hjm
    have hrd := read_mk (B := B) (c := c0 + (t : Int)) (r := r0 + (t : Int)) (bs := bs) (i := j) hjm
    rw [C.good j hjm] at hrd
    have htr : b.tr (mkA B true bs (c0 + (t : Int)) (r0 + (t : Int))) = noTr := tr_nil C.nil _
    have hkF' : kb ∉ F' := fun hx => by
      rcases f _ hx with h | h
      · exact hkF h
      · have := lt_of_block hk; omega
    have hkW := hk.touch tw (by simp; exact ⟨fun e => hne e.symm, hkF⟩)
    have hlen0 : (LsAt W g lv []) := by
      have hnil : ((l.take (l.length - i)).drop ((bs.length - t) * K)).reverse = [] := by
        rw [List.reverse_eq_nil_iff, List.drop_eq_nil_iff, List.length_take, hjt, h1]
        omega
      rw [hnil] at ls
      exact ls
    obtain ⟨o, cc, hlv, _, _⟩ := hlen0.val
    simp only [List.length_nil] at hlv
    subst hlv
    have hrw' : rb < W.heap.size := lt_of_block row
    have N := Next_load (x := nmA) (kb := kb) S hrF' hlo hrw' (kind := kind) (blocks := bs.length) (taken := t) (back := true) (n1 := n + t + 1) (A1 := mkA B true bs (c0 + (t : Int) + 1) (r0 + (t : Int) + 1)) (r := l[z]) (t := ((l.take z).drop (j * K)).reverse) (by rw [← hcl]; omega)
      (fun W1 t1 => Peek_load (x := nmA) (kb := kb) (S.quiet t1) (o := o) (c := cc) ((t1.block rb hrw' (by simp)).trans row) htv (by rw [← hcl]; omega)
        (fun W2 t2 => by
          have L := load_ok_back (x := nmA) ((S.quiet t1).quiet t2) (by omega) (K := K) (fits_of C.hB C.hK) ((hkW.touch t1 (by simp)).touch t2 (by simp)) hkF' (kind := kind) (blocks := bs.length) (taken := t) (i := j) (lv := .slice o 0 cc) (dead := 0) ((t2.block rb (lt_of_block ((t1.block rb hrw' (by simp)).trans row)) (by simp)).trans ((t1.block rb hrw' (by simp)).trans row)) hrF' hlo hne hj.symm (by omega) C.k1 C.k2 (by rw [htr, hrd]) (by rw [htr, hrd]) hg.sum hg.formed hg.kind hg.place hg.count hg.words (by omega) hc3
          rw [htr, hrd, hch, hcl] at L
          exact L))
    refine N.mono fun e w' ⟨e1, g', lv', hW, hgr, r1, l1⟩ => ?_
    obtain ⟨F2, S2, t2, f2, hN⟩ := hW
    obtain ⟨g1, g2, g3⟩ := hN g' (by simp)
    refine ⟨e1, t + 1, ⟨F2, g', lv', ?_, tw.trans t2 (fun y hy => ?_), fun y hy => ?_, g1, hgr, g3, ?_, r1, ?_⟩, .inl ?_, by omega, ?_⟩
    · have e1 : c0 + ((t + 1 : Nat) : Int) = c0 + (t : Int) + 1 := by omega
      have e2 : r0 + ((t + 1 : Nat) : Int) = r0 + (t : Int) + 1 := by omega
      rw [e1, e2]
      exact S2
    · simp at hy
      rcases hy with rfl | hy
      · exact .inl (by simp)
      · rcases f _ hy with h | h
        · exact .inl (by simp [h])
        · exact .inr h
    · rcases f2 _ hy with h | h
      · exact f _ h
      · exact .inr (Nat.le_trans tw.size h)
    · exact Nat.le_trans S.room g2
    · rw [hz', hjt1]
      exact l1
    · rw [hjt1]; omega
    · rw [hjt1]; rcases hle with h | ⟨h, h'⟩ <;> omega

theorem bw_end (I : BwI w W b n s F kb rb kind K B bs l c0 r0 l.length t) (C : Tap b K B kind bs l) :
    t = bs.length ∧ Calls Tryz.prog 13 #[ptr rb] W fun e w' => e = .returned (.tuple #[zeroR, .bool false, .int .i64 0]) ∧ BwI w w' b n s F kb rb kind K B bs l c0 r0 l.length t := by
  have hle := I.le
  have hfew := I.few
  have hK := C.hK
  have ht : t = bs.length := by
    rcases Nat.lt_or_ge t bs.length with h | h
    · have h0 := C.lt (show 0 < bs.length by omega)
      rcases hle with h1 | ⟨h1, h2⟩
      · have h3 : 1 * K ≤ (bs.length - t) * K := Nat.mul_le_mul_right K (by omega)
        omega
      · omega
    · omega
  subst ht
  refine ⟨rfl, ?_⟩
  obtain ⟨F', g, lv, S, tw, f, n1, n2, n3, n4, row, ls⟩ := I.went
  have hlen0 : (LsAt W g lv []) := by
    have := ls
    simpa using this
  obtain ⟨o, cc, hlv, _, _⟩ := hlen0.val
  simp only [List.length_nil] at hlv
  subst hlv
  exact (Next_no fun W1 t1 => Peek_end (o := o) (c := cc) ((t1.block rb (lt_of_block row) (by simp)).trans row)).mono fun e w' ⟨e1, t1⟩ => ⟨e1, I.quiet t1⟩
end
end Go.Proofs.YtclplbnildnifaaGreatDoor
/-
  TapeRound's stations, the two passes.
-/
namespace Go.Proofs.YtclplbnildnifaaGreatDoor
open Go.RowKit Go.Deep
set_option linter.unusedSimpArgs false
set_option linter.unusedVariables false

theorem Idle.peak {s : Pu.St} {K : Nat} (h : Idle s K) : ((s.take (K : Int)).give (K : Int)).peak = max s.peak (K : Int) := by
  have e : s.take (K : Int) = { s with hand := s.hand + (K : Int), peak := max s.peak (s.hand + (K : Int) + s.lent) } := by unfold Pu.St.take; rw [if_pos h.leave]
  have g : Pu.giveE (s.take (K : Int)) (K : Int) = 0 := by
    rw [e]
    unfold Pu.giveE
    simp [h.open_, h.hand]
  unfold Pu.St.give
  rw [if_pos g, e]
  simp [h.hand, h.lent]
theorem Idle.peak_new (K : Nat) (lb : Nat) : (((Pu.St.new (K : Int) lb).take (K : Int)).give (K : Int)).peak = (K : Int) := by
  rw [(Idle.new K lb).peak]
  simp

/-- where the records lie, the world at the law's start, and blocks of the caller's own. -/
structure Srco where
  src : Src
  own : List (Nat × Obj)
/-- what came in and what is the caller's own lie as they lay; F: whose blocks these are not. -/
def KeepO (W : World) (lo : Nat) (F : List Nat) (x : Srco) (l : List Rc) : Prop := Keep W lo x.src l ∧ ∀ p ∈ x.own, W.heap[p.1]? = some p.2 ∧ p.1 ∉ F
theorem KeepO.touch {w w' : World} {lo : Nat} {x : Srco} {l : List Rc} {F F' G : List Nat} (h : KeepO w lo F x l) (t : Touch G w w') (hlo : ∀ y ∈ G, lo ≤ y) (hG : ∀ y ∈ G, y ∈ F) (hF : ∀ y ∈ F', y ∈ F ∨ w.heap.size ≤ y) : KeepO w' lo F' x l :=
  ⟨h.1.touch t hlo, fun p hp => ⟨(t.block _ (lt_of_block (h.2 p hp).1) (fun hx => (h.2 p hp).2 (hG _ hx))).trans (h.2 p hp).1, fun hx => by
    rcases hF _ hx with h1 | h1
    · exact (h.2 p hp).2 h1
    · have := lt_of_block (h.2 p hp).1; omega⟩⟩
theorem KeepO.quiet {w w' : World} {lo : Nat} {x : Srco} {l : List Rc} {F : List Nat} (h : KeepO w lo F x l) (t : Touch [] w w') : KeepO w' lo F x l := h.touch t (by simp) (by simp) (fun y hy => .inl hy)

/-- the desk at rest: what the disk has counted (c, r), the purse's peak. -/
structure Hom (W : World) (b : Bn) (k kb K B : Nat) (bs : List (List UInt8)) (sa : Srco) (l : List Rc) (c r : Int) : Prop where
  x : ∃ F s, Stand W b k (mkA B true bs c r) s F ∧ Idle s K ∧ s.peak = (K : Int) ∧ DeskAt W kb b (K : Int) 1 ∧ kb ∉ F ∧ b.lo ≤ kb ∧ KeepO W b.lo F sa l

structure Fwd (W : World) (b : Bn) (k kb rb K B kind : Nat) (bs : List (List UInt8)) (sa : Srco) (l : List Rc) (c r : Int) (i : Nat) (p : Prop) : Prop where
  x : ∃ w F s t, FwI w W b k (s.take (K : Int)) F kb rb kind K B bs l c r i t ∧ (p → i < t * K) ∧ Idle s K ∧ s.peak = (K : Int) ∧ DeskAt w kb b (K : Int) 1 ∧ kb ∉ F ∧ b.lo ≤ kb ∧ KeepO w b.lo (rb :: F) sa l ∧ rb ∉ F ∧ b.lo ≤ rb ∧ rb ≠ kb ∧ rb < w.heap.size ∧ ∀ y ∈ F, b.lo ≤ y

structure Bwd (W : World) (b : Bn) (k kb rb K B kind : Nat) (bs : List (List UInt8)) (sa : Srco) (l : List Rc) (c r : Int) (i : Nat) : Prop where
  x : ∃ w F s t, BwI w W b k (s.take (K : Int)) F kb rb kind K B bs l c r i t ∧ Idle s K ∧ s.peak = (K : Int) ∧ DeskAt w kb b (K : Int) 1 ∧ kb ∉ F ∧ b.lo ≤ kb ∧ KeepO w b.lo (rb :: F) sa l ∧ rb ∉ F ∧ b.lo ≤ rb ∧ rb ≠ kb ∧ rb < w.heap.size ∧ ∀ y ∈ F, b.lo ≤ y

section
variable {W W' : World} {b : Bn} {k kb rb K B i kind : Nat} {bs : List (List UInt8)} {sa : Srco} {l : List Rc} {c r : Int} {p : Prop}

theorem Hom.quiet (h : Hom W b k kb K B bs sa l c r) (t : Touch [] W W') : Hom W' b k kb K B bs sa l c r := by
  obtain ⟨F, s, S, hi, hp, hk, hkF, hlk, hr⟩ := h.x
  exact ⟨F, s, S.quiet t, hi, hp, hk.touch t (by simp), hkF, hlk, hr.quiet t⟩
theorem Hom.mono {k' : Nat} (h : Hom W b k kb K B bs sa l c r) (hk : k ≤ k') : Hom W b k' kb K B bs sa l c r := by
  obtain ⟨F, s, S, hi, hp, hk', hkF, hlk, hr⟩ := h.x
  exact ⟨F, s, S.mono hk, hi, hp, hk', hkF, hlk, hr⟩
theorem Hom.recs (h : Hom W b k kb K B bs sa l c r) : Keep W b.lo sa.src l := by
  obtain ⟨F, s, S, hi, hp, hk, hkF, hlk, hr⟩ := h.x
  exact hr.1
theorem Hom.own (h : Hom W b k kb K B bs sa l c r) : ∀ p ∈ sa.own, W.heap[p.1]? = some p.2 := by
  obtain ⟨F, s, S, hi, hp, hk, hkF, hlk, hr⟩ := h.x
  exact fun p hp => (hr.2 p hp).1
theorem Fwd.quiet (h : Fwd W b k kb rb K B kind bs sa l c r i p) (t : Touch [] W W') : Fwd W' b k kb rb K B kind bs sa l c r i p := by
  obtain ⟨w, F, s, tt, I, rest⟩ := h.x
  exact ⟨w, F, s, tt, I.quiet t, rest⟩
theorem Bwd.quiet (h : Bwd W b k kb rb K B kind bs sa l c r i) (t : Touch [] W W') : Bwd W' b k kb rb K B kind bs sa l c r i := by
  obtain ⟨w, F, s, tt, I, rest⟩ := h.x
  exact ⟨w, F, s, tt, I.quiet t, rest⟩
theorem Fwd.recs (h : Fwd W b k kb rb K B kind bs sa l c r i p) : Keep W b.lo sa.src l := by
  obtain ⟨w, F, s, tt, I, _, hi, hp, hk, hkF, hlk, hr, h1, h2, h3, h4, h5⟩ := h.x
  obtain ⟨F', g, lv, S, tw, f, n1, n2, n3, n4, row, ls⟩ := I.went
  exact hr.1.touch tw (fun y hy => by simp at hy; rcases hy with rfl | hy; exact h2; exact h5 y hy)
theorem Bwd.recs (h : Bwd W b k kb rb K B kind bs sa l c r i) : Keep W b.lo sa.src l := by
  obtain ⟨w, F, s, tt, I, hi, hp, hk, hkF, hlk, hr, h1, h2, h3, h4, h5⟩ := h.x
  obtain ⟨F', g, lv, S, tw, f, n1, n2, n3, n4, row, ls⟩ := I.went
  exact hr.1.touch tw (fun y hy => by simp at hy; rcases hy with rfl | hy; exact h2; exact h5 y hy)

theorem hom_read (h : Hom W b k kb K B bs sa l c r) (C : Tap b K B kind bs l) (hk : k < 549755813888) :
    Calls Tryz.prog 12 #[ptr kb, .string nmA, .int .i64 (kind : Int)] W fun e w' => ∃ rb, e = .returned (.tuple #[ptr rb, .int .i64 0]) ∧ Fwd w' b k kb rb K B kind bs sa l c r 0 False := by
  obtain ⟨F, s, S, hid, hp, hkk, hkF, hlk, hr⟩ := h.x
  have hk1 := C.k1
  have hk2 := C.k2
  refine (TRead_ok (T := 1) S (by omega) hkk hkF nmA (kind : Int) (hold_mk (by omega) hid.leave)).mono fun e w' ⟨rb, e1, hw, row⟩ => ⟨rb, e1, ?_⟩
  obtain ⟨F', S', t, f, hN⟩ := hw
  obtain ⟨n1, n2, n3⟩ := hN rb (by simp)
  have lk := lt_of_block hkk
  rw [length_mk] at row
  have hkF' : kb ∉ F' := fun hx => by
    rcases f _ hx with h | h
    · exact hkF h
    · omega
  refine ⟨w', F', s, 0, ⟨⟨F', kb, .slice none 0 0, ?_, Touch.refl _ _, fun y hy => .inl hy, hkF', by omega, by have := t.size; omega, hlk, row, ?_⟩, by omega, by omega, by have := C.hK; omega⟩, fun h => h.elim, hid, hp, hkk.touch t (by simpa using hkF), hkF', hlk, hr.touch t (fun y hy => S.base y (by simpa using hy)) (fun y hy => by simpa using hy) (fun y hy => by simp only [List.mem_cons] at hy; rcases hy with rfl | hy; exact .inr n2; exact f y hy), n1, Nat.le_trans S.room n2, by omega, n3, S'.base⟩
  · simpa using S'
  · simp only [Nat.zero_mul, Nat.zero_sub, List.take_zero]
    exact LsAt.none _ _

theorem fwd_peek (h : Fwd W b k kb rb K B kind bs sa l c r i p) (C : Tap b K B kind bs l) (hk : k < 549755813888) (hil : i < l.length) :
    Calls Tryz.prog 42 #[ptr rb] W fun e w' => e = .returned (.tuple #[(l[i]).val, .bool true, .int .i64 0]) ∧ Fwd w' b k kb rb K B kind bs sa l c r i True := by
  obtain ⟨w, F, s, tt, I, _, hid, hp, hkk, hkF, hlk, hr, h1, h2, h3, h4, h5⟩ := h.x
  exact (fw_peek I C hk hkk hkF hil h1 h2 h3 h4).mono fun e w' ⟨e1, t', ht, I'⟩ => ⟨e1, w, F, s, t', I', fun _ => ht, hid, hp, hkk, hkF, hlk, hr, h1, h2, h3, h4, h5⟩
theorem fwd_next (h : Fwd W b k kb rb K B kind bs sa l c r i True) (C : Tap b K B kind bs l) (hil : i < l.length) :
    Calls Tryz.prog 13 #[ptr rb] W fun e w' => e = .returned (.tuple #[(l[i]).val, .bool true, .int .i64 0]) ∧ Fwd w' b k kb rb K B kind bs sa l c r (i + 1) False ∧ Touch [rb] W w' := by
  obtain ⟨w, F, s, tt, I, hlt, hid, hp, hkk, hkF, hlk, hr, h1, h2, h3, h4, h5⟩ := h.x
  exact (fw_next I C (hlt trivial) hil h1 h2 h4).mono fun e w' ⟨e1, I', tq⟩ => ⟨e1, ⟨w, F, s, tt, I', fun h => h.elim, hid, hp, hkk, hkF, hlk, hr, h1, h2, h3, h4, h5⟩, tq⟩
theorem Fwd.rb_lt (h : Fwd W b k kb rb K B kind bs sa l c r i p) : rb < W.heap.size := by
  obtain ⟨w, F, s, tt, I, _⟩ := h.x
  obtain ⟨F', g, lv, S, tw, f, n1, n2, n3, n4, row, ls⟩ := I.went
  exact lt_of_block row
theorem fwd_end (h : Fwd W b k kb rb K B kind bs sa l c r l.length p) (C : Tap b K B kind bs l) :
    Calls Tryz.prog 13 #[ptr rb] W fun e w' => e = .returned (.tuple #[zeroR, .bool false, .int .i64 0]) ∧ Fwd w' b k kb rb K B kind bs sa l c r l.length False := by
  obtain ⟨w, F, s, tt, I, hlt, hid, hp, hkk, hkF, hlk, hr, h1, h2, h3, h4, h5⟩ := h.x
  obtain ⟨_, N⟩ := fw_end I C
  exact N.mono fun e w' ⟨e1, I'⟩ => ⟨e1, w, F, s, tt, I', fun h => h.elim, hid, hp, hkk, hkF, hlk, hr, h1, h2, h3, h4, h5⟩
theorem fwd_close (h : Fwd W b k kb rb K B kind bs sa l c r l.length p) (C : Tap b K B kind bs l) :
    Calls Tryz.prog 14 #[ptr rb] W fun e w' => e = .returned (.int .i64 0) ∧ Hom w' b (k + bs.length) kb K B bs sa l (c + (bs.length : Int)) (r + (bs.length : Int)) := by
  obtain ⟨w, F, s, tt, I, hlt, hi, hp, hk, hkF, hlk, hr, h1, h2, h3, h4, h5⟩ := h.x
  obtain ⟨rfl, _⟩ := fw_end I C
  obtain ⟨F', g, lv, S, tw, f, n1, n2, n3, n4, row, ls⟩ := I.went
  have hkW := hk.touch tw (by simp; exact ⟨fun e => h3 e.symm, hkF⟩)
  have hrW : KeepO W b.lo (rb :: F') sa l := hr.touch tw (fun y hy => by simp at hy; rcases hy with rfl | hy; exact h2; exact h5 y hy) (fun y hy => hy) (fun y hy => by
    simp only [List.mem_cons] at hy
    rcases hy with rfl | hy
    · exact .inl (by simp)
    · rcases f y hy with h | h
      · exact .inl (by simp [h])
      · exact .inr h)
  have hkF' : kb ∉ F' := fun hx => by
    rcases f _ hx with h | h
    · exact hkF h
    · have := lt_of_block hk; omega
  have hrF' : rb ∉ F' := fun hx => by
    rcases f _ hx with h | h
    · exact h1 h
    · omega
  refine (RClose_any S hkW hkF' row hrF' h2 h3).mono fun e w' ⟨e1, hw⟩ => ⟨e1, ?_⟩
  obtain ⟨F2, S2, t2, f2⟩ := hw
  refine ⟨F2, _, S2, hi.back, by rw [hi.peak, hp]; simp, hkW.touch t2 (by simp; exact ⟨fun e => h3 e.symm, hkF'⟩), fun hx => ?_, hlk, hrW.touch t2 (fun y hy => by simp at hy; rcases hy with rfl | hy; exact h2; exact S.base y hy) (fun y hy => by simpa using hy) (fun y hy => by
    rcases f2 y hy with h | h
    · exact .inl (by simp [h])
    · exact .inr h)⟩
  rcases f2 _ hx with h | h
  · exact hkF' h
  · have := lt_of_block hkW; omega

theorem hom_back (h : Hom W b k kb K B bs sa l c r) (C : Tap b K B kind bs l) (hk : k < 549755813888) :
    Calls Tryz.prog 47 #[ptr kb, .string nmA, .int .i64 (kind : Int)] W fun e w' => ∃ rb, e = .returned (.tuple #[ptr rb, .int .i64 0]) ∧ Bwd w' b k kb rb K B kind bs sa l c r 0 := by
  obtain ⟨F, s, S, hid, hp, hkk, hkF, hlk, hr⟩ := h.x
  have hk1 := C.k1
  have hk2 := C.k2
  have hal := C.all
  refine (TBack_ok (T := 1) S (by omega) hkk hkF nmA (kind : Int) (hold_mk (by omega) hid.leave)).mono fun e w' ⟨rb, e1, hw, row⟩ => ⟨rb, e1, ?_⟩
  obtain ⟨F', S', t, f, hN⟩ := hw
  obtain ⟨n1, n2, n3⟩ := hN rb (by simp)
  have lk := lt_of_block hkk
  rw [length_mk] at row
  have hkF' : kb ∉ F' := fun hx => by
    rcases f _ hx with h | h
    · exact hkF h
    · omega
  refine ⟨w', F', s, 0, ⟨⟨F', kb, .slice none 0 0, ?_, Touch.refl _ _, fun y hy => .inl hy, hkF', by omega, by have := t.size; omega, hlk, row, ?_⟩, .inr ⟨rfl, rfl⟩, by omega, by rw [Nat.sub_zero, Nat.sub_zero]; omega⟩, hid, hp, hkk.touch t (by simpa using hkF), hkF', hlk, hr.touch t (fun y hy => S.base y (by simpa using hy)) (fun y hy => by simpa using hy) (fun y hy => by simp only [List.mem_cons] at hy; rcases hy with rfl | hy; exact .inr n2; exact f y hy), n1, Nat.le_trans S.room n2, by omega, n3, S'.base⟩
  · simpa using S'
  · have e : ((l.take (l.length - 0)).drop ((bs.length - 0) * K)).reverse = [] := by
      rw [List.reverse_eq_nil_iff, List.drop_eq_nil_iff, List.length_take, Nat.sub_zero, Nat.sub_zero]
      omega
    rw [e]
    exact LsAt.none _ _
theorem bwd_next (h : Bwd W b k kb rb K B kind bs sa l c r i) (C : Tap b K B kind bs l) (hk : k < 549755813888) (hil : i < l.length) {z : Nat} (hz : z + 1 = l.length - i) (hzl : z < l.length) :
    Calls Tryz.prog 13 #[ptr rb] W fun e w' => e = .returned (.tuple #[(l[z]).val, .bool true, .int .i64 0]) ∧ Bwd w' b k kb rb K B kind bs sa l c r (i + 1) := by
  obtain ⟨w, F, s, tt, I, hid, hp, hkk, hkF, hlk, hr, h1, h2, h3, h4, h5⟩ := h.x
  exact (bw_next I C hk hkk hkF hil hz hzl h1 h2 h3 h4).mono fun e w' ⟨e1, t', I'⟩ => ⟨e1, w, F, s, t', I', hid, hp, hkk, hkF, hlk, hr, h1, h2, h3, h4, h5⟩
theorem bwd_end (h : Bwd W b k kb rb K B kind bs sa l c r l.length) (C : Tap b K B kind bs l) :
    Calls Tryz.prog 13 #[ptr rb] W fun e w' => e = .returned (.tuple #[zeroR, .bool false, .int .i64 0]) ∧ Bwd w' b k kb rb K B kind bs sa l c r l.length := by
  obtain ⟨w, F, s, tt, I, hid, hp, hkk, hkF, hlk, hr, h1, h2, h3, h4, h5⟩ := h.x
  obtain ⟨_, N⟩ := bw_end I C
  exact N.mono fun e w' ⟨e1, I'⟩ => ⟨e1, w, F, s, tt, I', hid, hp, hkk, hkF, hlk, hr, h1, h2, h3, h4, h5⟩
theorem bwd_close (h : Bwd W b k kb rb K B kind bs sa l c r l.length) (C : Tap b K B kind bs l) :
    Calls Tryz.prog 14 #[ptr rb] W fun e w' => e = .returned (.int .i64 0) ∧ Hom w' b (k + bs.length) kb K B bs sa l (c + (bs.length : Int)) (r + (bs.length : Int)) := by
  obtain ⟨w, F, s, tt, I, hi, hp, hk, hkF, hlk, hr, h1, h2, h3, h4, h5⟩ := h.x
  obtain ⟨rfl, _⟩ := bw_end I C
  obtain ⟨F', g, lv, S, tw, f, n1, n2, n3, n4, row, ls⟩ := I.went
  have hkW := hk.touch tw (by simp; exact ⟨fun e => h3 e.symm, hkF⟩)
  have hrW : KeepO W b.lo (rb :: F') sa l := hr.touch tw (fun y hy => by simp at hy; rcases hy with rfl | hy; exact h2; exact h5 y hy) (fun y hy => hy) (fun y hy => by
    simp only [List.mem_cons] at hy
    rcases hy with rfl | hy
    · exact .inl (by simp)
    · rcases f y hy with h | h
      · exact .inl (by simp [h])
      · exact .inr h)
  have hkF' : kb ∉ F' := fun hx => by
    rcases f _ hx with h | h
    · exact hkF h
    · have := lt_of_block hk; omega
  have hrF' : rb ∉ F' := fun hx => by
    rcases f _ hx with h | h
    · exact h1 h
    · omega
  refine (RClose_any S hkW hkF' row hrF' h2 h3).mono fun e w' ⟨e1, hw⟩ => ⟨e1, ?_⟩
  obtain ⟨F2, S2, t2, f2⟩ := hw
  refine ⟨F2, _, S2, hi.back, by rw [hi.peak, hp]; simp, hkW.touch t2 (by simp; exact ⟨fun e => h3 e.symm, hkF'⟩), fun hx => ?_, hlk, hrW.touch t2 (fun y hy => by simp at hy; rcases hy with rfl | hy; exact h2; exact S.base y hy) (fun y hy => by simpa using hy) (fun y hy => by
    rcases f2 y hy with h | h
    · exact .inl (by simp [h])
    · exact .inr h)⟩
  rcases f2 _ hx with h | h
  · exact hkF' h
  · have := lt_of_block hkW; omega
end
end Go.Proofs.YtclplbnildnifaaGreatDoor
/-
  forward.
-/
namespace Go.Proofs.YtclplbnildnifaaGreatDoor
open Go.RowKit Go.Deep
set_option linter.unusedSimpArgs false
set_option linter.unusedVariables false

section
variable {W : World} {b : Bn} {k kb K B kind : Nat} {bs : List (List UInt8)} {sa : Option Addr} {w0 : World} {O : List (Nat × Obj)} {l : List Rc} {c r : Int} {cp : Nat}

theorem eqs (x : Rc) : ∀ W, (Op.equalIn 10000 38 (.agg #[.int .u64 (x.1 : Int), .int .u64 (x.2.1 : Int), .int .u64 (x.2.2.1 : Int), .int .u64 (x.2.2.2 : Int)]) (.agg #[.int .u64 (x.1 : Int), .int .u64 (x.2.1 : Int), .int .u64 (x.2.2.1 : Int), .int .u64 (x.2.2.2 : Int)])).run Tryz.prog W = .ok true W := fun W => by rw [eq_rec]; simp

set_option maxRecDepth 100000 in
set_option maxHeartbeats 4000000 in
theorem forward_any (h : Hom W b k kb K B bs ⟨⟨sa, w0⟩, O⟩ l c r) (C : Tap b K B kind bs l) (hk : k < 549755813888) :
    Calls Tryz.prog 20 #[ptr kb, .int .i64 (kind : Int), .slice sa l.length cp] W fun e w' => e = .returned (.bool true) ∧ Hom w' b (k + bs.length) kb K B bs ⟨⟨sa, w0⟩, O⟩ l (c + (bs.length : Int)) (r + (bs.length : Int)) := by
  have HR := hid (hom_read h C hk)
  have HC := hid C
  have hl := C.len
  clear h C
  go_enter Tryz.func20, Tryz.ntmps20
  go_wp2_with (go_at_call 12; refine HR.out.mono ?_; rintro e w1 ⟨rb, rfl, hh⟩; have HF := hid hh; clear hh)
  go_loopw [9] (fun i W => ∃ j : Nat, j ≤ l.length ∧ i = .int .i64 j ∧ Fwd W b k kb rb K B kind bs ⟨⟨sa, w0⟩, O⟩ l c r j False) (fun i _ => l.length - (intOf i).toNat)
  case atStart => exact ⟨0, Nat.zero_le _, rfl, HF.out⟩
  case round =>
    obtain ⟨j, hj, rfl, hI⟩ := hrel
    have HI := hid hI
    clear hI
    by_cases hjl : j < l.length
    · have HPK := hid (fwd_peek HI.out HC.out hk hjl)
      go_wp2_with (go_at_call 42; refine HPK.out.mono ?_; rintro e w6 ⟨rfl, hh⟩; have HG6 := hid hh; clear hh)
      obtain ⟨W7, hW7⟩ : ∃ W7, W7 = w6.alloc (.cells #[.int .u64 (l[j].1 : Int), .int .u64 (l[j].2.1 : Int), .int .u64 (l[j].2.2.1 : Int), .int .u64 (l[j].2.2.2 : Int)] 38) := ⟨_, rfl⟩
      have hb7 : W7.heap[w6.heap.size]? = some (.cells #[.int .u64 (l[j].1 : Int), .int .u64 (l[j].2.1 : Int), .int .u64 (l[j].2.2.1 : Int), .int .u64 (l[j].2.2.2 : Int)] 38) := by rw [hW7]; exact heap_alloc_new w6 _
      have HG7 := hid (HG6.out.quiet (W' := W7) (by rw [hW7]; exact (Touch.refl [] w6).alloc _))
      rw [← hW7]
      have HNX := hid (fwd_next HG7.out HC.out hjl)
      refine HNX.out.mono ?_
      rintro e w8 ⟨rfl, hh, ht8⟩
      have hb8 := (ht8.block w6.heap.size (lt_of_block hb7) (by have := HG6.out.rb_lt; simp; omega)).trans hb7
      have HG8 := hid hh
      generalize w6.heap.size = ob at hb8 ⊢
      clear hh ht8 hb7 hW7
      go_wp2_with fail
      obtain ⟨W9, hW9⟩ : ∃ W9, W9 = w8.alloc (.cells #[.int .u64 (l[j].1 : Int), .int .u64 (l[j].2.1 : Int), .int .u64 (l[j].2.2.1 : Int), .int .u64 (l[j].2.2.2 : Int)] 38) := ⟨_, rfl⟩
      have hb9 : W9.heap[w8.heap.size]? = some (.cells #[.int .u64 (l[j].1 : Int), .int .u64 (l[j].2.1 : Int), .int .u64 (l[j].2.2.1 : Int), .int .u64 (l[j].2.2.2 : Int)] 38) := by rw [hW9]; exact heap_alloc_new w8 _
      have t9 : Touch [] w8 W9 := by rw [hW9]; exact (Touch.refl [] w8).alloc _
      have hb8' := (t9.block ob (lt_of_block hb8) (by simp)).trans hb8
      have HG9 := hid (HG8.out.quiet t9)
      rw [← hW9]
      obtain ⟨a, rfl, _, hab, c0, c1, c2, c3⟩ := HG9.out.recs.recs.at_ j hjl
      have q0 := cell_row hb9 0
      have q1 := cell_row hb9 1
      have q2 := cell_row hb9 2
      have q3 := cell_row hb9 3
      have p0 := cell_row hb8' 0
      have p1 := cell_row hb8' 1
      have p2 := cell_row hb8' 2
      have p3 := cell_row hb8' 3
      simp only [List.getElem?_toArray, List.getElem?_cons_zero, List.getElem?_cons_succ] at q0 q1 q2 q3 p0 p1 p2 p3
      generalize w8.heap.size = oc at q0 q1 q2 q3 ⊢
      clear hW9 hb9 t9 hb8' hb8
      have hki : (j : Int) < (l.length : Int) := by omega
      have hk0 : (0 : Int) ≤ (j : Int) := by omega
      have heq := eqs l[j]
      go_quiet (fail)
      go_wp2_with fail
      exact ⟨⟨j + 1, by omega, rfl, HG9.out.quiet ((Touch.refl [] W9).drewN nq)⟩, by simp [intOf]; omega⟩
    · obtain rfl : j = l.length := by omega
      have HNX := hid (fwd_end HI.out HC.out)
      go_wp2_with (go_at_call 13; refine HNX.out.mono ?_; rintro e w6 ⟨rfl, hh⟩; have HG6 := hid hh; clear hh)
      refine (fwd_close (HG6.out.quiet ((Touch.refl [] w6).alloc _)) HC.out).mono ?_
      rintro e w7 ⟨rfl, hh⟩
      have HH := hid hh
      clear hh
      go_wp2_with fail
      go_ret
      exact ⟨rfl, HH.out⟩
end
end Go.Proofs.YtclplbnildnifaaGreatDoor
/-
  backward.
-/
namespace Go.Proofs.YtclplbnildnifaaGreatDoor
open Go.RowKit Go.Deep
set_option linter.unusedSimpArgs false
set_option linter.unusedVariables false

section
variable {W : World} {b : Bn} {k kb K B kind : Nat} {bs : List (List UInt8)} {sa : Option Addr} {w0 : World} {O : List (Nat × Obj)} {l : List Rc} {c r : Int} {cp : Nat}

set_option maxRecDepth 100000 in
set_option maxHeartbeats 4000000 in
theorem backward_any (h : Hom W b k kb K B bs ⟨⟨sa, w0⟩, O⟩ l c r) (C : Tap b K B kind bs l) (hk : k < 549755813888) :
    Calls Tryz.prog 21 #[ptr kb, .int .i64 (kind : Int), .slice sa l.length cp] W fun e w' => e = .returned (.bool true) ∧ Hom w' b (k + bs.length) kb K B bs ⟨⟨sa, w0⟩, O⟩ l (c + (bs.length : Int)) (r + (bs.length : Int)) := by
  have HR := hid (hom_back h C hk)
  have HC := hid C
  have hl := C.len
  clear h C
  go_enter Tryz.func21, Tryz.ntmps21
  go_wp2_with (go_at_call 47; refine HR.out.mono ?_; rintro e w1 ⟨rb, rfl, hh⟩; have HF := hid hh; clear hh)
  go_loopw [9] (fun i W => ∃ (z : Nat) (d : Int), z ≤ l.length ∧ d = (z : Int) - 1 ∧ i = .int .i64 d ∧ Bwd W b k kb rb K B kind bs ⟨⟨sa, w0⟩, O⟩ l c r (l.length - z)) (fun i _ => (intOf i + 1).toNat)
  case atStart => exact ⟨l.length, _, Nat.le_refl _, rfl, rfl, by rw [Nat.sub_self]; exact HF.out⟩
  case round =>
    obtain ⟨z, d, hz, hd, rfl, hI⟩ := hrel
    by_cases hz0 : z = 0
    · subst hz0
      have hdn : d < 0 := by omega
      have hdd : decide ((0 : Int) ≤ d) = false := decide_eq_false (by omega)
      clear hd
      rw [Nat.sub_zero] at hI
      have HNX := hid (bwd_end hI HC.out)
      clear hI
      go_wp2_with (go_at_call 13; go_loud (refine HNX.out.mono ?_; rintro e w6 ⟨rfl, hh⟩; have HG6 := hid hh; clear hh))
      refine (bwd_close (HG6.out.quiet ((Touch.refl [] w6).alloc _)) HC.out).mono ?_
      rintro e w7 ⟨rfl, hh⟩
      have HH := hid hh
      clear hh
      go_wp2_with fail
      go_ret
      exact ⟨rfl, HH.out⟩
    · obtain ⟨y, rfl⟩ : ∃ y, z = y + 1 := ⟨z - 1, by omega⟩
      obtain rfl : d = (y : Int) := by omega
      have hyl : y < l.length := by omega
      have HNX := hid (bwd_next hI HC.out hk (by omega) (z := y) (by omega) hyl)
      have HE := hid (show l.length - (y + 1) + 1 = l.length - y by omega)
      clear hI hd hz hz0
      go_wp2_with (go_at_call 13; refine HNX.out.mono ?_; rintro e w8 ⟨rfl, hh⟩; have HG8 := hid hh; clear hh)
      obtain ⟨W9, hW9⟩ : ∃ W9, W9 = w8.alloc (.cells #[.int .u64 (l[y].1 : Int), .int .u64 (l[y].2.1 : Int), .int .u64 (l[y].2.2.1 : Int), .int .u64 (l[y].2.2.2 : Int)] 38) := ⟨_, rfl⟩
      have hb9 : W9.heap[w8.heap.size]? = some (.cells #[.int .u64 (l[y].1 : Int), .int .u64 (l[y].2.1 : Int), .int .u64 (l[y].2.2.1 : Int), .int .u64 (l[y].2.2.2 : Int)] 38) := by rw [hW9]; exact heap_alloc_new w8 _
      have HG9 := hid (HG8.out.quiet (W' := W9) (by rw [hW9]; exact (Touch.refl [] w8).alloc _))
      rw [← hW9]
      obtain ⟨a, rfl, _, hab, c0, c1, c2, c3⟩ := HG9.out.recs.recs.at_ y hyl
      have q0 := cell_row hb9 0
      have q1 := cell_row hb9 1
      have q2 := cell_row hb9 2
      have q3 := cell_row hb9 3
      simp only [List.getElem?_toArray, List.getElem?_cons_zero, List.getElem?_cons_succ] at q0 q1 q2 q3
      generalize w8.heap.size = oc at q0 q1 q2 q3 ⊢
      clear hW9 hb9
      have hki : (y : Int) < (l.length : Int) := by omega
      have hk0 : (0 : Int) ≤ (y : Int) := by omega
      have heq := eqs l[y]
      go_quiet (fail)
      go_wp2_with fail
      exact ⟨⟨y, _, by omega, rfl, rfl, by rw [← HE.out]; exact HG9.out.quiet ((Touch.refl [] W9).drewN nq)⟩, by simp [intOf]⟩
end
end Go.Proofs.YtclplbnildnifaaGreatDoor
