import Derived.Test.YtcpncfngadablaaDoorF1
import Derived.ProofKit
import Derived.Deep.Slices
namespace Go.Proofs.YtcpncfngadablaaDoor
open Go.ChangeShapes Go.WideShapes Go.ChangeAt Go.RowKit Go.Deep

theorem own : ownKnob Tryd.prog.godebug = none := by kernel_rfl
theorem laidOut : laidOutB Tryd.prog = true := by kernel_rfl
theorem cells3 : Tryd.prog.cellsOf 3 = 1 := by kernel_rfl
theorem cells5 : Tryd.prog.cellsOf 5 = 1 := by kernel_rfl
theorem cells9 : Tryd.prog.cellsOf 9 = 1 := by kernel_rfl
theorem cells31 : Tryd.prog.cellsOf 31 = 1 := by kernel_rfl
theorem cells40 : Tryd.prog.cellsOf 40 = 5 := by kernel_rfl

/-! ### what the bound gives -/
theorem bulk_one {H : Type} (d : DataW H) : 1 ≤ Rows.uptoBulk d := by
  cases d with
  | lit l => cases l <;> simp [Rows.uptoBulk]
  | nil => simp [Rows.uptoBulk]
  | ptr d => simp [Rows.uptoBulk]
  | slice elems spare => simp [Rows.uptoBulk]
  | agg parts => simp [Rows.uptoBulk]
  | iface t d => simp [Rows.uptoBulk]
  | map entries => simp [Rows.uptoBulk]
  | held h => simp [Rows.uptoBulk]
theorem bulk_part {H : Type} {d : DataW H} {l : List (DataW H)} (h : d ∈ l) : Rows.uptoBulk d ≤ Rows.uptoBulkAll l := by
  induction l with
  | nil => cases h
  | cons x r ih =>
    simp only [Rows.uptoBulkAll]
    cases List.mem_cons.1 h with
    | inl e => subst e; omega
    | inr e => have := ih e; omega
theorem bulk_length {H : Type} (l : List (DataW H)) : l.length ≤ Rows.uptoBulkAll l := by
  induction l with
  | nil => simp [Rows.uptoBulkAll]
  | cons x r ih => have := bulk_one x; simp only [Rows.uptoBulkAll, List.length_cons]; omega

section
variable {H : Type} {enc : TypeId × Value → H} {W : World} {spare : Nat → Bool} {held : Bool}

/-- bytes that came in. -/
theorem open_data {fuel : Nat} {v : Value} {x : DataW H × List MemPlace} (h : DataW.trod enc Tryd.prog W 0 spare held fuel 31 [v] = some x) :
    ∃ sb m c d, v = .slice sb m c ∧ Shows W sb m c d ∧ m ≤ Rows.uptoBulk x.1 := by
  rcases open_ints Tryd.underlying31 Tryd.underlying5 cells5 h with ⟨hcs, rfl⟩ | ⟨a, len, cap, zs, hcs, _, hl, hm, hz, rfl, hcell, hwz⟩
  · simp at hcs
    subst hcs
    exact ⟨none, 0, 0, [], rfl, ⟨rfl, Nat.le_refl _, fun h => by omega, fun _ => ⟨rfl, rfl⟩⟩, by omega⟩
  · simp at hcs
    subst hcs
    have hlz : len ≤ zs.length := by rw [hz]; split <;> omega
    have hd : ∀ (j : Nat) (hj : j < len), Value.int .u8 ((UInt8.ofNat (zs[j]'(by omega)).toNat).toNat : Int) = .int .u8 (zs[j]'(by omega)) := fun j hj => by
      have h5 := hwz (zs[j]'(by omega)) (List.getElem_mem _)
      have e1 : IntKind.u8.min = 0 := rfl
      have e2 : IntKind.u8.max = 255 := rfl
      have h6 : 0 ≤ zs[j]'(by omega) ∧ zs[j]'(by omega) ≤ 255 := by simpa [Lit.wf, e1, e2] using h5
      congr 1
      simp
      omega
    refine ⟨some a, len, cap, ((zs.take len).map fun z => UInt8.ofNat z.toNat), rfl, ⟨by simp [hlz], hl, fun h0 => ⟨a, rfl, ?_, fun j u hu => ?_⟩, by simp⟩, ?_⟩
    · have := World.block_lt_of_cell? W _ (hcell 0 (by omega))
      rwa [add_block] at this
    · obtain ⟨hj, hu⟩ := List.getElem?_eq_some_iff.1 hu
      have hj' : j < len := by simpa [Lib.byteCells, hlz] using hj
      rw [hcell j (by omega), ← hu]
      simp only [Lib.byteCells, List.getElem_map, List.getElem_take]
      rw [hd j hj', show zs.getD j 0 = zs[j]'(by omega) by simp [List.getD, List.getElem?_eq_getElem (show j < zs.length by omega)]]
    · simp only [Rows.uptoBulk]
      have h1 := bulk_length (H := H) (lits .u8 (zs.take len))
      simp only [lits, List.length_map, List.length_take] at h1 ⊢
      omega

set_option maxRecDepth 100000 in
theorem open_op {n : Nat} {a : Addr} {cs : List Value} {x : DataW H × List MemPlace} (h1 : W.cells? 0 a 5 = some cs) (h2 : DataW.trod enc Tryd.prog W 0 spare held n 40 cs = some x) :
    ∃ (o : OpA) (sb : Option Addr) (m c : Nat), W.cell? a = some (.int .i64 o.kind) ∧ W.cell? ⟨a.block, a.off + 1, none⟩ = some (.string o.name) ∧ W.cell? ⟨a.block, a.off + 2, none⟩ = some (.int .i64 o.N) ∧ W.cell? ⟨a.block, a.off + 3, none⟩ = some (.int .i64 o.bit) ∧ W.cell? ⟨a.block, a.off + 4, none⟩ = some (.slice sb m c) ∧ Shows W sb m c o.data ∧ m ≤ Rows.uptoBulk x.1 := by
  obtain ⟨xs, k, rfl, rfl, hl, hxs, hf⟩ := DataW.trod_struct Tryd.underlying40 h2
  have hm : (List.range 5).mapM (fun i => W.cell? (a.add i)) = some cs := by
    simpa [World.cells?] using h1
  have g : ∀ i, i < 5 → W.cell? (a.add i) = cs[i]? := fun i hi => mapM_some_get hm i i (by simp [hi])
  rw [cells40] at hl
  match cs, hl with
  | [v0, v1, v2, v3, v4], _ =>
  have g0 := g 0 (by omega)
  have g1 := g 1 (by omega)
  have g2 := g 2 (by omega)
  have g3 := g 3 (by omega)
  have g4 := g 4 (by omega)
  simp at g0 g1 g2 g3 g4
  have hsp := World.cell?_spot g0
  have f0 := hf 0 _ rfl
  have f1 := hf 1 _ rfl
  have f2 := hf 2 _ rfl
  have f3 := hf 3 _ rfl
  have f4 := hf 4 _ rfl
  simp [cells3, cells9, cells31] at f0 f1 f2 f3 f4
  have hx5 : xs.length = 5 := by simpa using hxs
  have hx4 : xs[4]? = some (xs[4]'(by omega)) := List.getElem?_eq_getElem (by omega)
  rw [List.getElem?_eq_getElem (by omega)] at f0 f1 f2 f3 f4
  obtain ⟨n0, e0, _, _⟩ := DataW.trod_int Tryd.underlying3 f0
  obtain ⟨s1, e1, _, _⟩ := DataW.trod_string Tryd.underlying9 f1
  obtain ⟨n2, e2, _, _⟩ := DataW.trod_int Tryd.underlying3 f2
  obtain ⟨n3, e3, _, _⟩ := DataW.trod_int Tryd.underlying3 f3
  obtain ⟨sb, m, c, d, rfl, hs, hmb⟩ := open_data f4
  simp at e0 e1 e2 e3
  subst e0
  subst e1
  subst e2
  subst e3
  obtain ⟨b, off, spot⟩ := a
  obtain rfl : spot = none := hsp
  rw [add_plain] at g1 g2 g3 g4
  refine ⟨⟨n0, s1, n2, n3, d⟩, sb, m, c, by simpa [Addr.add] using g0, g1, g2, g3, g4, hs, Nat.le_trans hmb ?_⟩
  simp only [Rows.uptoBulk]
  have := bulk_part (H := H) (d := (xs[4]'(by omega)).1) (l := xs.map (·.1)) (List.mem_map.2 ⟨_, List.getElem_mem _, rfl⟩)
  omega

set_option maxRecDepth 100000 in
/-- a script that came in. -/
theorem open_ops {v : Value} {d : DataW H} {ps : List MemPlace} {base : Nat} (hval : Value.okWide Tryd.prog W .any base 22 v) (h : DataW.Trod enc Tryd.prog W 0 spare held 22 v d ps) (hk : Rows.uptoBulk d ≤ 1048576) :
    ∃ (sa : Option Addr) (ca : Nat) (l : List OpA), v = .slice sa l.length ca ∧ OpsAt W sa l ∧ l.length ≤ 1073741824 := by
  obtain ⟨a0, len, cap, rfl⟩ := okWide_slice Tryd.underlying22 hval
  obtain ⟨fuel, hf⟩ := h
  rcases open_slice Tryd.underlying22 hf with ⟨hcs, hx⟩ | ⟨a, len', cap', m, n, D, Pl, hcs, _, hl, hm, hmm, hx, hall⟩
  · simp [Value.cells] at hcs
    obtain ⟨rfl, rfl, rfl⟩ := hcs
    exact ⟨none, 0, [], rfl, ⟨fun k hk => by simp at hk⟩, Nat.zero_le _⟩
  · simp [Value.cells] at hcs
    obtain ⟨rfl, rfl, rfl⟩ := hcs
    rw [cells40] at hx hall
    obtain ⟨rfl, -⟩ := Prod.mk.inj hx
    have hlm : len ≤ m := by rw [hmm]; split <;> omega
    have hb1 : Rows.uptoBulkAll ((List.range len).map D) ≤ 1048576 := by
      simp only [Rows.uptoBulk] at hk
      omega
    have hlen2 := bulk_length ((List.range len).map D)
    simp only [List.length_map, List.length_range] at hlen2
    have each : ∀ i, i < len → ∃ o : OpA × Option Addr × Nat × Nat, W.cell? (a.add (i * 5)) = some (.int .i64 o.1.kind) ∧ W.cell? ⟨(a.add (i * 5)).block, (a.add (i * 5)).off + 1, none⟩ = some (.string o.1.name) ∧ W.cell? ⟨(a.add (i * 5)).block, (a.add (i * 5)).off + 2, none⟩ = some (.int .i64 o.1.N) ∧ W.cell? ⟨(a.add (i * 5)).block, (a.add (i * 5)).off + 3, none⟩ = some (.int .i64 o.1.bit) ∧ W.cell? ⟨(a.add (i * 5)).block, (a.add (i * 5)).off + 4, none⟩ = some (.slice o.2.1 o.2.2.1 o.2.2.2) ∧ Shows W o.2.1 o.2.2.1 o.2.2.2 o.1.data ∧ o.2.2.1 ≤ 1073741824 := fun i hi => by
      obtain ⟨cs', h1, h2⟩ := hall i (by omega)
      obtain ⟨o, sb, m, c, c0, c1, c2, c3, c4, hs, hmb⟩ := open_op h1 h2
      have h3 := bulk_part (H := H) (d := D i) (l := (List.range len).map D) (List.mem_map.2 ⟨i, List.mem_range.2 hi, rfl⟩)
      exact ⟨(o, sb, m, c), c0, c1, c2, c3, c4, hs, by show m ≤ 1073741824; simp only at hmb; omega⟩
    haveI : Inhabited (OpA × Option Addr × Nat × Nat) := ⟨⟨0, ⟨#[]⟩, 0, 0, []⟩, none, 0, 0⟩
    obtain ⟨f, hf⟩ := choose_lt each
    have hlen : ((List.range len).map fun i => (f i).1).length = len := by simp
    refine ⟨some a, cap, (List.range len).map fun i => (f i).1, by rw [hlen], ⟨fun k hk => ?_⟩, by rw [hlen]; omega⟩
    rw [hlen] at hk
    obtain ⟨c0, c1, c2, c3, c4, hs, hmb⟩ := hf k hk
    refine ⟨a, (f k).2.1, (f k).2.2.1, (f k).2.2.2, rfl, ?_, by simpa using c0, by simpa using c1, by simpa using c2, by simpa using c3, c4, by simpa using hs, hmb⟩
    have := World.block_lt_of_cell? W _ c0
    rwa [add_block] at this
end
end Go.Proofs.YtcpncfngadablaaDoor
