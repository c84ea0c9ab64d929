import Derived.OpenShut
import Derived.Deep.DeepHandedRow
import Derived.Test.YtcpncfngadablaaGreatDoorTie
import Derived.Test.YtcpncfngadablaaGreatDoorCards
import Derived.Test.YtcpncfngadablaaGreatDoorZ25
/-
  What came in: a state.
-/
namespace Go.Proofs.YtcpncfngadablaaGreatDoor
open Go.ChangeShapes Go.WideShapes Go.ChangeAt Go.RowKit Go.Deep
theorem cells71 : Tryz.prog.cellsOf 71 = 3 := by kernel_rfl
theorem cells45 : Tryz.prog.cellsOf 45 = 1 := by kernel_rfl
theorem cells51 : Tryz.prog.cellsOf 51 = 1 := by kernel_rfl
theorem cells47 : Tryz.prog.cellsOf 47 = 2 := by kernel_rfl
theorem cells4 : Tryz.prog.cellsOf 4 = 1 := by kernel_rfl
theorem bulk_sum {H : Type} {D : Nat → DataW H} {f : Nat → Nat} (l : List Nat) (h : ∀ i ∈ l, f i ≤ Rows.uptoBulk (D i)) : (l.map f).sum ≤ Rows.uptoBulkAll (l.map D) := by
  induction l with
  | nil => simp [Rows.uptoBulkAll]
  | cons x r ih =>
    have h1 := h x (by simp)
    have h2 := ih fun i hi => h i (by simp [hi])
    simp only [List.map_cons, List.sum_cons, Rows.uptoBulkAll]
    omega
section
variable {H : Type} {enc : TypeId × Value → H} {W : World} {spare : Nat → Bool} {held : Bool}

set_option maxRecDepth 100000 in
/-- a script that came in. -/
theorem open_ops3 {v : Value} {d : DataW H} {ps : List MemPlace} {base : Nat} (hval : Value.okWide Tryz.prog W .any base 22 v) (h : DataW.Trod enc Tryz.prog W 0 spare held 22 v d ps) (hk : Rows.uptoBulk d ≤ 1048576) :
    ∃ (sa : Option Addr) (ca : Nat) (l : List OpA), v = .slice sa l.length ca ∧ OpsAt W sa l ∧ l.length ≤ Rows.uptoBulk d ∧ ∀ o ∈ l, o.name.size ≤ 1099511627776 := by
  obtain ⟨a0, len, cap, rfl⟩ := okWide_slice Tryz.underlying22 hval
  obtain ⟨fuel, hf⟩ := h
  rcases open_slice Tryz.underlying22 hf with ⟨hcs, hx⟩ | ⟨a, len', cap', m, n, D, Pl, hcs, _, hl, hm, hmm, hx, hall⟩
  · simp [Value.cells] at hcs
    obtain ⟨rfl, rfl, rfl⟩ := hcs
    exact ⟨none, 0, [], rfl, ⟨fun k hk => by simp at hk⟩, Nat.zero_le _, by simp⟩
  · simp [Value.cells] at hcs
    obtain ⟨rfl, rfl, rfl⟩ := hcs
    rw [cells40] at hx hall
    obtain ⟨rfl, -⟩ := Prod.mk.inj hx
    have hlm : len ≤ m := by rw [hmm]; split <;> omega
    have hb1 : Rows.uptoBulkAll ((List.range len).map D) ≤ 1048576 := by
      simp only [Rows.uptoBulk] at hk
      omega
    have hlen2 := bulk_length ((List.range len).map D)
    simp only [List.length_map, List.length_range] at hlen2
    have each : ∀ i, i < len → ∃ o : OpA × Option Addr × Nat × Nat, W.cell? (a.add (i * 5)) = some (.int .i64 o.1.kind) ∧ W.cell? ⟨(a.add (i * 5)).block, (a.add (i * 5)).off + 1, none⟩ = some (.string o.1.name) ∧ W.cell? ⟨(a.add (i * 5)).block, (a.add (i * 5)).off + 2, none⟩ = some (.int .i64 o.1.N) ∧ W.cell? ⟨(a.add (i * 5)).block, (a.add (i * 5)).off + 3, none⟩ = some (.int .i64 o.1.bit) ∧ W.cell? ⟨(a.add (i * 5)).block, (a.add (i * 5)).off + 4, none⟩ = some (.slice o.2.1 o.2.2.1 o.2.2.2) ∧ Shows W o.2.1 o.2.2.1 o.2.2.2 o.1.data ∧ o.2.2.1 ≤ 1073741824 ∧ o.1.name.size ≤ 1099511627776 := fun i hi => by
      obtain ⟨cs', h1, h2⟩ := hall i (by omega)
      obtain ⟨o, sb, m, c, c0, c1, c2, c3, c4, hs, hmb, hnb⟩ := open_op2 h1 h2
      have h3 := bulk_part (H := H) (d := D i) (l := (List.range len).map D) (List.mem_map.2 ⟨i, List.mem_range.2 hi, rfl⟩)
      exact ⟨(o, sb, m, c), c0, c1, c2, c3, c4, hs, by show m ≤ 1073741824; simp only at hmb; omega, by show o.name.size ≤ 1099511627776; simp only at hnb; omega⟩
    haveI : Inhabited (OpA × Option Addr × Nat × Nat) := ⟨⟨0, ⟨#[]⟩, 0, 0, []⟩, none, 0, 0⟩
    obtain ⟨f, hf⟩ := choose_lt each
    have hlen : ((List.range len).map fun i => (f i).1).length = len := by simp
    refine ⟨some a, cap, (List.range len).map fun i => (f i).1, by rw [hlen], ⟨fun k hk => ?_⟩, by rw [hlen]; simp only [Rows.uptoBulk]; omega, fun o ho => ?_⟩
    rotate_left 1
    · obtain ⟨k, hk, rfl⟩ := List.mem_map.1 ho
      exact (hf k (List.mem_range.1 hk)).2.2.2.2.2.2.2
    rw [hlen] at hk
    obtain ⟨c0, c1, c2, c3, c4, hs, hmb, _⟩ := hf k hk
    refine ⟨a, (f k).2.1, (f k).2.2.1, (f k).2.2.2, rfl, ?_, by simpa using c0, by simpa using c1, by simpa using c2, by simpa using c3, c4, by simpa using hs, hmb⟩
    have := World.block_lt_of_cell? W _ c0
    rwa [add_block] at this


set_option maxRecDepth 100000 in
/-- blocks that came in. -/
theorem open_blocks {fuel : Nat} {v : Value} {x : DataW H × List MemPlace} (hf : DataW.trod enc Tryz.prog W 0 spare held fuel 51 [v] = some x) :
    ∃ blocks : List (List UInt8), BlIn W v blocks ∧ blocks.length ≤ Rows.uptoBulk x.1 ∧ ∀ b ∈ blocks, b.length ≤ Rows.uptoBulk x.1 := by
  rcases open_slice Tryz.underlying51 hf with ⟨hcs, hx⟩ | ⟨a, len, cap, m, n, D, Pl, hcs, _, hl, hm, hmm, hx, hall⟩
  · simp at hcs
    subst hcs
    exact ⟨[], ⟨⟨none, 0, rfl⟩, fun i hi => by simp at hi⟩, Nat.zero_le _, by simp⟩
  · simp at hcs
    subst hcs
    rw [cells31] at hx hall
    subst hx
    have hlm : len ≤ m := by rw [hmm]; split <;> omega
    have hlen2 := bulk_length ((List.range len).map D)
    simp only [List.length_map, List.length_range] at hlen2
    have each : ∀ i, i < len → ∃ o : List UInt8 × Option Addr × Nat × Nat, W.cell? (a.add i) = some (.slice o.2.1 o.2.2.1 o.2.2.2) ∧ Shows W o.2.1 o.2.2.1 o.2.2.2 o.1 ∧ o.1.length ≤ Rows.uptoBulkAll ((List.range len).map D) := fun i hi => by
      obtain ⟨cs', h1, h2⟩ := hall i (by omega)
      rw [Nat.mul_one] at h1
      have hmm2 : (List.range 1).mapM (fun j => W.cell? ((a.add i).add j)) = some cs' := by simpa [World.cells?] using h1
      have g0 := mapM_some_get hmm2 0 0 (by simp)
      have hcl : cs'.length = 1 := by
        have := congrArg (Option.map List.length) hmm2
        cases hc : W.cell? ((a.add i).add 0) with
        | none => simp [List.range_succ, hc] at hmm2
        | some u => simp [List.range_succ, hc] at hmm2; rw [← hmm2]; rfl
      match cs', hcl with
      | [u], _ =>
      obtain ⟨sb, mm, c, d, rfl, hs, hmb⟩ := open_data h2
      have h3 := bulk_part (H := H) (d := D i) (l := (List.range len).map D) (List.mem_map.2 ⟨i, List.mem_range.2 hi, rfl⟩)
      have h4 := hs.len
      refine ⟨(d, sb, mm, c), ?_, hs, ?_⟩
      · simpa [Addr.add] using g0
      · show d.length ≤ _
        simp only at hmb
        omega
    haveI : Inhabited (List UInt8 × Option Addr × Nat × Nat) := ⟨[], none, 0, 0⟩
    obtain ⟨f, hf⟩ := choose_lt each
    have hlen : ((List.range len).map fun i => (f i).1).length = len := by simp
    refine ⟨(List.range len).map fun i => (f i).1, ⟨⟨some a, cap, by rw [hlen]⟩, fun i hi => ?_⟩, by rw [hlen]; simp only [Rows.uptoBulk]; omega, fun b hb => ?_⟩
    · rw [hlen] at hi
      obtain ⟨c0, hs, _⟩ := hf i hi
      have hlt := World.block_lt_of_cell? W _ c0
      rw [add_block] at hlt
      exact ⟨a, cap, _, _, _, by rw [hlen], hlt, c0, by simpa using hs⟩
    · obtain ⟨k, hk, rfl⟩ := List.mem_map.1 hb
      have h3 := (hf k (List.mem_range.1 hk)).2.2
      simp only [Rows.uptoBulk]
      omega

set_option maxRecDepth 100000 in
theorem open_file {n : Nat} {a : Addr} {cs : List Value} {x : DataW H × List MemPlace} (h1 : W.cells? 0 a 3 = some cs) (h2 : DataW.trod enc Tryz.prog W 0 spare held n 71 cs = some x) :
    ∃ e : SFile, W.cell? a = some (encStr e.name) ∧ W.cell? ⟨a.block, a.off + 1, none⟩ = some (.bool e.file.shut) ∧ W.cell? ⟨a.block, a.off + 2, none⟩ = some e.sv ∧ BlIn W e.sv e.file.blocks ∧ e.file.blocks.length ≤ Rows.uptoBulk x.1 ∧ e.name.length ≤ Rows.uptoBulk x.1 ∧ ∀ b ∈ e.file.blocks, b.length ≤ Rows.uptoBulk x.1 := by
  obtain ⟨xs, k, rfl, rfl, hl, hxs, hf⟩ := DataW.trod_struct Tryz.underlying71 h2
  have hm : (List.range 3).mapM (fun i => W.cell? (a.add i)) = some cs := by
    simpa [World.cells?] using h1
  have g : ∀ i, i < 3 → W.cell? (a.add i) = cs[i]? := fun i hi => mapM_some_get hm i i (by simp [hi])
  rw [cells71] at hl
  match cs, hl with
  | [v0, v1, v2], _ =>
  have g0 := g 0 (by omega)
  have g1 := g 1 (by omega)
  have g2 := g 2 (by omega)
  simp at g0 g1 g2
  have hsp := World.cell?_spot g0
  have f0 := hf 0 _ rfl
  have f1 := hf 1 _ rfl
  have f2 := hf 2 _ rfl
  simp [cells9, cells4, cells51] at f0 f1 f2
  have hx5 : xs.length = 3 := by simpa using hxs
  rw [List.getElem?_eq_getElem (by omega)] at f0 f1 f2
  obtain ⟨s0, e0, e0x, _⟩ := DataW.trod_string Tryz.underlying9 f0
  obtain ⟨b1, e1, _⟩ := DataW.trod_bool Tryz.underlying4 f1
  obtain ⟨blocks, hbl, hb1, hb2⟩ := open_blocks f2
  simp at e0 e1
  subst e0
  subst e1
  obtain ⟨b, off, spot⟩ := a
  obtain rfl : spot = none := hsp
  rw [add_plain] at g1 g2
  have p0 := bulk_part (H := H) (d := (xs[0]'(by omega)).1) (l := xs.map (·.1)) (List.mem_map.2 ⟨_, List.getElem_mem _, rfl⟩)
  have p2 := bulk_part (H := H) (d := (xs[2]'(by omega)).1) (l := xs.map (·.1)) (List.mem_map.2 ⟨_, List.getElem_mem _, rfl⟩)
  rw [e0x] at p0
  simp only [Rows.uptoBulk] at p0
  refine ⟨⟨s0.data.toList, ⟨b1, blocks⟩, v2, []⟩, ?_, g1, g2, hbl, ?_, ?_, fun z hz => ?_⟩
  · show W.cell? ⟨b, off, none⟩ = some (.string ⟨s0.data.toList.toArray⟩)
    simpa [Addr.add] using g0
  · show blocks.length ≤ _
    simp only [Rows.uptoBulk]
    omega
  · show s0.data.toList.length ≤ _
    simp only [Rows.uptoBulk]
    omega
  · have h9 := hb2 z hz
    simp only [Rows.uptoBulk]
    omega

set_option maxRecDepth 100000 in
/-- files that came in. -/
theorem open_files {fuel : Nat} {v : Value} {x : DataW H × List MemPlace} (hf : DataW.trod enc Tryz.prog W 0 spare held fuel 45 [v] = some x) :
    ∃ l : List SFile, StIn W v l ∧ l.length ≤ Rows.uptoBulk x.1 ∧ usedN l l.length ≤ Rows.uptoBulk x.1 ∧ (∀ e ∈ l, e.name.length ≤ Rows.uptoBulk x.1) ∧ ∀ e ∈ l, ∀ b ∈ e.file.blocks, b.length ≤ Rows.uptoBulk x.1 := by
  rcases open_slice Tryz.underlying45 hf with ⟨hcs, hx⟩ | ⟨a, len, cap, m, n, D, Pl, hcs, _, hl, hm, hmm, hx, hall⟩
  · simp at hcs
    subst hcs
    exact ⟨[], ⟨⟨none, 0, rfl⟩, fun k e he => by simp at he⟩, Nat.zero_le _, by simp [usedN], by simp, by simp⟩
  · simp at hcs
    subst hcs
    rw [cells71] at hx hall
    subst hx
    have hlm : len ≤ m := by rw [hmm]; split <;> omega
    have hlen2 := bulk_length ((List.range len).map D)
    simp only [List.length_map, List.length_range] at hlen2
    have each : ∀ i, i < len → ∃ e : SFile, W.cell? (a.add (i * 3)) = some (encStr e.name) ∧ W.cell? ⟨(a.add (i * 3)).block, (a.add (i * 3)).off + 1, none⟩ = some (.bool e.file.shut) ∧ W.cell? ⟨(a.add (i * 3)).block, (a.add (i * 3)).off + 2, none⟩ = some e.sv ∧ BlIn W e.sv e.file.blocks ∧ e.file.blocks.length ≤ Rows.uptoBulk (D i) ∧ e.name.length ≤ Rows.uptoBulk (D i) ∧ ∀ b ∈ e.file.blocks, b.length ≤ Rows.uptoBulk (D i) := fun i hi => by
      obtain ⟨cs', h1, h2⟩ := hall i (by omega)
      exact open_file h1 h2
    haveI : Inhabited SFile := ⟨⟨[], ⟨false, []⟩, .bool false, []⟩⟩
    obtain ⟨f, hf⟩ := choose_lt each
    have hlen : ((List.range len).map f).length = len := by simp
    have part : ∀ k, k < len → Rows.uptoBulk (D k) ≤ Rows.uptoBulkAll ((List.range len).map D) := fun k hk => bulk_part (H := H) (d := D k) (l := (List.range len).map D) (List.mem_map.2 ⟨k, List.mem_range.2 hk, rfl⟩)
    refine ⟨(List.range len).map f, ⟨⟨some a, cap, by rw [hlen]⟩, fun k e he => ?_⟩, by rw [hlen]; simp only [Rows.uptoBulk]; omega, ?_, fun e he => ?_, fun e he b hb => ?_⟩
    · have hk : k < len := by
        have := (List.getElem?_eq_some_iff.1 he).1
        simpa using this
      have : e = f k := by
        rw [List.getElem?_map, List.getElem?_range hk] at he
        simpa using he.symm
      subst this
      obtain ⟨c0, c1, c2, hb, _⟩ := hf k hk
      have hlt := World.block_lt_of_cell? W _ c0
      rw [add_block] at hlt
      exact ⟨a, cap, by rw [hlen], hlt, c0, c1, c2, hb⟩
    · have h1 := bulk_sum (D := D) (f := fun i => (f i).file.blocks.length) (List.range len) (fun i hi => (hf i (List.mem_range.1 hi)).2.2.2.2.1)
      have h2 : usedN ((List.range len).map f) ((List.range len).map f).length = ((List.range len).map fun i => (f i).file.blocks.length).sum := by
        unfold usedN
        rw [List.take_length, List.map_map]
        rfl
      rw [h2]
      simp only [Rows.uptoBulk]
      omega
    · obtain ⟨k, hk, rfl⟩ := List.mem_map.1 he
      have h1 := part k (List.mem_range.1 hk)
      have h2 := (hf k (List.mem_range.1 hk)).2.2.2.2.2.1
      simp only [Rows.uptoBulk]
      omega
    · obtain ⟨k, hk, rfl⟩ := List.mem_map.1 he
      have h1 := part k (List.mem_range.1 hk)
      have h2 := (hf k (List.mem_range.1 hk)).2.2.2.2.2.2 b hb
      simp only [Rows.uptoBulk]
      omega

set_option maxRecDepth 100000 in
/-- a state that came in. -/
theorem open_state {v : Value} {d : DataW H} {ps : List MemPlace} {base : Nat} (hval : Value.okWide Tryz.prog W .any base 47 v) (h : DataW.Trod enc Tryz.prog W 0 spare held 47 v d ps) :
    ∃ (B : Int) (fv : Value) (l : List SFile), v = .agg #[.int .i64 B, fv] ∧ StIn W fv l ∧ l.length ≤ Rows.uptoBulk d ∧ usedN l l.length ≤ Rows.uptoBulk d ∧ (∀ e ∈ l, e.name.length ≤ Rows.uptoBulk d) ∧ ∀ e ∈ l, ∀ b ∈ e.file.blocks, b.length ≤ Rows.uptoBulk d := by
  obtain ⟨cs, rfl, hcs⟩ := okWide_struct Tryz.underlying47 hval
  obtain ⟨fuel, hf⟩ := h
  obtain ⟨xs, k, hk1, hx, hl, hxs, hf⟩ := DataW.trod_struct Tryz.underlying47 hf
  rw [cells47] at hcs
  obtain ⟨v0, v1, rfl⟩ : ∃ v0 v1, cs = #[v0, v1] := by
    match cs, hcs with
    | ⟨[a, b]⟩, _ => exact ⟨a, b, rfl⟩
  have f0 := hf 0 _ rfl
  have f1 := hf 1 _ rfl
  simp [cells3, cells45, Value.cells] at f0 f1
  have hx5 : xs.length = 2 := by simpa using hxs
  rw [List.getElem?_eq_getElem (by omega)] at f0 f1
  obtain ⟨n0, e0, _, _⟩ := DataW.trod_int Tryz.underlying3 f0
  simp at e0
  subst e0
  obtain ⟨rfl, -⟩ := Prod.mk.inj hx
  have hb := bulk_part (H := H) (d := (xs[1]'(by omega)).1) (l := xs.map (·.1)) (List.mem_map.2 ⟨_, List.getElem_mem _, rfl⟩)
  obtain ⟨l, h1, h2, h3, h4, h5⟩ := open_files f1
  simp only [Rows.uptoBulk]
  exact ⟨n0, v1, l, rfl, h1, by omega, by omega, fun e he => by have := h4 e he; omega, fun e he b hb => by have := h5 e he b hb; omega⟩
end
end Go.Proofs.YtcpncfngadablaaGreatDoor
namespace Go.Proofs.YtcpncfngadablaaGreatDoor
open Go.ChangeShapes Go.WideShapes Go.ChangeAt Go.RowKit Go.Deep

set_option maxRecDepth 100000 in
/-- what the walk gives, for every argument within the bound and every world that holds the package's errors. -/
theorem mounts_contract (H : Type) (enc : TypeId × Value → H) (W : World) (base : Nat) (args : Array Value) (ds gs : List (DataW H)) (before : List MemPlace)
    (hval : ∀ (j : Nat) t v, Tryz.f5.params[j]? = some t → args[j]? = some v → Value.okWide Tryz.prog W .any base t v)
    (hW : DataW.Whole enc Tryz.prog Tryz.f5.params.toList Rows.diskMountsSpec.vars false W args.toList ds gs before) (hk : Rows.uptoSmall H (ds ++ gs) = true) (hL : laidMetH Tryz.prog Rows.diskMountsUptoRow.laid W) :
    Calls Tryz.prog 5 args W fun e W' => ∃ v, e = .returned v ∧ Rows.diskMountsSpec.post enc Tryz.prog Tryz.f5 false true false false W args v W' := by
  have hW' := hW
  obtain ⟨p, q, hA0, hV, rfl, hfz, hnd⟩ := hW
  have hA : DataW.TrodAll enc Tryz.prog W 0 (fun _ => true) true Tryz.f5.params.toList args.toList ds p := hA0
  rw [Tryz.params5] at hA hval
  obtain ⟨v0, vs0, d0, ds0, p0, q0, hargs0, rfl, rfl, h0, r0⟩ := trodAll_cons hA
  obtain ⟨v1, vs1, d1, ds1, p1, q1, rfl, rfl, rfl, h1, r1⟩ := trodAll_cons r0
  obtain ⟨v2, vs2, d2, ds2, p2, q2, rfl, rfl, rfl, h2, r2⟩ := trodAll_cons r1
  obtain ⟨rfl, rfl, rfl⟩ := trodAll_nil r2
  obtain rfl : args = #[v0, v1, v2] := by cases args; simp_all
  obtain ⟨rfl, rfl⟩ := trodVars_none hV
  have hb := of_decide_eq_true hk
  simp only [List.append_nil, Rows.uptoBulkAll] at hb
  obtain ⟨sB, fv, fl, rfl, hst, hb1, hb2, hb3, hb4⟩ := open_state (hval 0 47 v0 rfl rfl) h0
  obtain ⟨Bb, Bs, sa0, ca0, lt, rfl, htr, hlt9, hnil⟩ := open_setup (hval 1 29 v1 rfl rfl) h1 (by omega)
  clear hA0
  simp only [List.append_nil] at hW'
  have hlt0 : ∀ x ∈ p0, x.block < W.heap.size := fun x hx => by simpa using hW'.lt x (by simp [hx])
  have hlt1 : ∀ x ∈ p1, x.block < W.heap.size := fun x hx => by simpa using hW'.lt x (by simp [hx])
  have hlt2 : ∀ x ∈ p2, x.block < W.heap.size := fun x hx => by simpa using hW'.lt x (by simp [hx])
  obtain ⟨sa, ca, la, rfl, hopa, hna, hnm⟩ := open_ops3 (hval 2 22 v2 rfl rfl) h2 (by omega)
  obtain ⟨E, hE⟩ := sents_of_laid hL
  refine (diskMounts_law hE sB Bb Bs hst (t := Rows.uptoBulk d0) hb1 hb2 (fun e he => by have := hb3 e he; omega) (fun e he b hx => by have := hb4 e he b hx; omega) htr hnil hlt9 hopa hnm (by omega)).mono fun e W' ⟨he, hnx⟩ => ?_
  subst he
  refine ⟨_, rfl, _, _, _, [], _, [], hW', ?_, trodAll_cons_mk (Below.trod laidOut (by kernel_rfl) (of_decide_eq_true (by kernel_rfl)) h0 hnx hlt0) (trodAll_cons_mk (Below.trod laidOut (by kernel_rfl) (of_decide_eq_true (by kernel_rfl)) h1 hnx hlt1) (trodAll_mk1 (Below.trod laidOut (by kernel_rfl) (of_decide_eq_true (by kernel_rfl)) h2 hnx hlt2))), rfl, hnx.frame _, fun h => by cases h⟩
  exact trodAll_mk1 (shut_bool Tryz.underlying4 _)

set_option maxRecDepth 100000 in
theorem mounts_lifted (os : Os) (started : os.Started) (H : Type) (enc : TypeId × Value → H) (F : Stop.Interp) :
    ReturnsInHanded {} Tryz.checked os 5 .any ((Rows.OpenSpec.upto Rows.diskMountsSpec).preRow enc Tryz.prog Tryz.f5 Rows.diskMountsUptoRow.domain false Rows.diskMountsUptoRow.laid) (((Rows.OpenSpec.upto Rows.diskMountsSpec).at F).post enc Tryz.prog Tryz.f5 false true false false) := by
  obtain ⟨lw, hlw⟩ : ∃ lw : World, lw = (fun w0 : World => { w0 with heap := (((((((((((w0.heap.modify 0 fun
      | .cells _ t frozen => .cells #[.iface 183 (.pointer (some ⟨(World.holding Tryz.prog default ⟨#[], #[], []⟩).heap.size + 0, 0, none⟩))] t frozen
      | o => o).modify 1 fun
      | .cells _ t frozen => .cells #[.iface 183 (.pointer (some ⟨(World.holding Tryz.prog default ⟨#[], #[], []⟩).heap.size + 1, 0, none⟩))] t frozen
      | o => o).modify 2 fun
      | .cells _ t frozen => .cells #[.iface 183 (.pointer (some ⟨(World.holding Tryz.prog default ⟨#[], #[], []⟩).heap.size + 2, 0, none⟩))] t frozen
      | o => o).modify 3 fun
      | .cells _ t frozen => .cells #[.iface 183 (.pointer (some ⟨(World.holding Tryz.prog default ⟨#[], #[], []⟩).heap.size + 3, 0, none⟩))] t frozen
      | o => o).modify 4 fun
      | .cells _ t frozen => .cells #[.iface 183 (.pointer (some ⟨(World.holding Tryz.prog default ⟨#[], #[], []⟩).heap.size + 4, 0, none⟩))] t frozen
      | o => o).modify 5 fun
      | .cells _ t frozen => .cells #[.iface 183 (.pointer (some ⟨(World.holding Tryz.prog default ⟨#[], #[], []⟩).heap.size + 5, 0, none⟩))] t frozen
      | o => o).modify 6 fun
      | .cells _ t frozen => .cells #[.iface 183 (.pointer (some ⟨(World.holding Tryz.prog default ⟨#[], #[], []⟩).heap.size + 6, 0, none⟩))] t frozen
      | o => o).modify 7 fun
      | .cells _ t frozen => .cells #[.iface 183 (.pointer (some ⟨(World.holding Tryz.prog default ⟨#[], #[], []⟩).heap.size + 7, 0, none⟩))] t frozen
      | o => o).modify 8 fun
      | .cells _ t frozen => .cells #[.iface 183 (.pointer (some ⟨(World.holding Tryz.prog default ⟨#[], #[], []⟩).heap.size + 8, 0, none⟩))] t frozen
      | o => o).modify 9 fun
      | .cells _ t frozen => .cells #[.iface 183 (.pointer (some ⟨(World.holding Tryz.prog default ⟨#[], #[], []⟩).heap.size + 9, 0, none⟩))] t frozen
      | o => o).modify 10 fun
      | .cells _ t frozen => .cells #[.iface 183 (.pointer (some ⟨(World.holding Tryz.prog default ⟨#[], #[], []⟩).heap.size + 10, 0, none⟩))] t frozen
      | o => o) }) (World.holding Tryz.prog os ⟨#[.cells #[.string ⟨#[97, 32, 115, 101, 116, 117, 112, 32, 116, 104, 97, 116, 32, 109, 97, 121, 32, 110, 111, 116, 32, 98, 101]⟩] 206, .cells #[.string ⟨#[97, 32, 102, 97, 117, 108, 116, 32, 98, 101, 102, 97, 108, 108, 115, 32, 116, 104, 101, 32, 99, 97, 108, 108]⟩] 206, .cells #[.string ⟨#[116, 104, 101, 32, 112, 111, 119, 101, 114, 32, 105, 115, 32, 111, 102, 102]⟩] 206, .cells #[.string ⟨#[110, 111, 32, 110, 97, 109, 101]⟩] 206, .cells #[.string ⟨#[110, 111, 32, 102, 105, 108, 101, 32, 111, 102, 32, 116, 104, 97, 116, 32, 110, 97, 109, 101]⟩] 206, .cells #[.string ⟨#[97, 32, 102, 105, 108, 101, 32, 111, 102, 32, 116, 104, 97, 116, 32, 110, 97, 109, 101, 32, 97, 108, 114, 101, 97, 100, 121]⟩] 206, .cells #[.string ⟨#[116, 104, 101, 32, 102, 105, 108, 101, 32, 105, 115, 32, 115, 101, 97, 108, 101, 100]⟩] 206, .cells #[.string ⟨#[116, 104, 101, 32, 102, 105, 108, 101, 32, 105, 115, 32, 110, 111, 116, 32, 115, 101, 97, 108, 101, 100]⟩] 206, .cells #[.string ⟨#[110, 111, 32, 115, 117, 99, 104, 32, 98, 108, 111, 99, 107]⟩] 206, .cells #[.string ⟨#[110, 111, 32, 98, 108, 111, 99, 107, 32, 105, 115, 32, 102, 114, 101, 101]⟩] 206, .cells #[.string ⟨#[110, 111, 32, 115, 116, 97, 116, 101, 32, 111, 102, 32, 97, 32, 100, 105, 115, 107]⟩] 206], #[], []⟩) := ⟨_, rfl⟩
  have hos : lw.os = os := by rw [hlw]; rfl
  have hv : (lw.forCall (fun _ _ => 0) ⟨#[], #[.agg #[.int .i64 0, .slice none 0 0], .agg #[.int .i64 0, .int .i64 0, .slice none 0 0], .slice none 0 0], []⟩).variablesB Tryz.checked.prog = true := by rw [hlw]; kernel_rfl
  have hr : ((lw.forCall (fun _ _ => 0) ⟨#[], #[.agg #[.int .i64 0, .slice none 0 0], .agg #[.int .i64 0, .int .i64 0, .slice none 0 0], .slice none 0 0], []⟩).heap.toList.drop Tryz.checked.prog.globals.size).take ((begin Tryz.checked.prog (fun _ _ => 0) default).world.heap.size - Tryz.checked.prog.globals.size) = (begin Tryz.checked.prog (fun _ _ => 0) default).world.heap.toList.drop Tryz.checked.prog.globals.size := by rw [hlw]; kernel_rfl
  have hok : Input.okWideB Tryz.checked.prog (lw.forCall (fun _ _ => 0) ⟨#[], #[.agg #[.int .i64 0, .slice none 0 0], .agg #[.int .i64 0, .int .i64 0, .slice none 0 0], .slice none 0 0], []⟩) 5 ⟨#[], #[.agg #[.int .i64 0, .slice none 0 0], .agg #[.int .i64 0, .int .i64 0, .slice none 0 0], .slice none 0 0], []⟩ = true := by rw [hlw]; kernel_rfl
  have hx : DataW.whole enc Tryz.prog (lw.forCall (fun _ _ => 0) ⟨#[], #[.agg #[.int .i64 0, .slice none 0 0], .agg #[.int .i64 0, .int .i64 0, .slice none 0 0], .slice none 0 0], []⟩).memory Tryz.f5.params.toList Rows.diskMountsSpec.vars false #[Value.agg #[.int .i64 0, .slice none 0 0], .agg #[.int .i64 0, .int .i64 0, .slice none 0 0], .slice none 0 0].toList 8 = some ([.agg [.lit (.int .i64 0), .nil], .agg [.lit (.int .i64 0), .lit (.int .i64 0), .nil], .nil], [], []) := by rw [hlw]; kernel_rfl
  have hlm : laidMet Tryz.prog Rows.diskMountsUptoRow.laid (lw.forCall (fun _ _ => 0) ⟨#[], #[.agg #[.int .i64 0, .slice none 0 0], .agg #[.int .i64 0, .int .i64 0, .slice none 0 0], .slice none 0 0], []⟩).memory := by rw [hlw]; exact laidMet_of_run' 8 (by kernel_rfl) (by kernel_rfl)
  clear hlw
  refine returnsInHanded_of_row (C := Tryz.checked) (s := Rows.OpenSpec.upto Rows.diskMountsSpec) own started (by kernel_rfl) Tryz.func5
    (witness_row_at (enc := enc) (C := Tryz.checked) false lw #[.agg #[.int .i64 0, .slice none 0 0], .agg #[.int .i64 0, .int .i64 0, .slice none 0 0], .slice none 0 0] hos hv hr hok
      (OpenSpec.preRow_of_cond 8 hx (by kernel_rfl) (fun k hk => by cases hk; kernel_rfl) (by kernel_rfl) hlm)) ?_
  intro W base args ds gs before hval hW _ hcond _ hL _ _
  exact mounts_contract H enc W base args ds gs before hval hW (hcond _ rfl) hL

theorem mounts_said : Rows.DiskMountsUptoSaid :=
  OpenClaim.holds_of_cond 5 Tryz.f5 rfl rfl rfl rfl rfl rfl rfl ⟨rfl, rfl, rfl, rfl, rfl⟩ rfl rfl rfl rfl rfl (by kernel_rfl) Tryz.func5 (by kernel_rfl)
    (of_decide_eq_true (by kernel_rfl)) (by unfold Func.isWrapper; first | (rw [if_pos (by decide +kernel)]; kernel_rfl) | (rw [if_neg (by decide +kernel)]; exact ⟨rfl, rfl⟩))
    (fun os started H enc _ F => by rw [OpenClaim.pre_eq_preRow]; exact mounts_lifted os started H enc F)

/-- no parameter wants a stand-in. -/
theorem mounts_plain (f : FuncId) (fn : Func) (hf : Tryz.pinned.checked.prog.funcNamed "strata/stratalaw01.DiskMounts" = some f) (hfn : Tryz.pinned.checked.prog.funcs[f]? = some fn) :
    true = Tryz.pinned.checked.prog.looks [] ∧ ∀ (j : Nat) t, fn.params[j]? = some t → Tryz.pinned.checked.prog.wantsStandIn t = false := by
  obtain rfl : f = 5 := Option.some.inj ((show Tryz.prog.funcNamed "strata/stratalaw01.DiskMounts" = some 5 by kernel_rfl).symm.trans hf) |>.symm
  obtain rfl : fn = Tryz.f5 := (Option.some.inj (Tryz.func5.symm.trans hfn)).symm
  refine ⟨by kernel_rfl, fun j t ht => ?_⟩
  rw [Tryz.params5] at ht
  have hm : t = 47 ∨ t = 29 ∨ t = 22 := by
    have := Array.mem_of_getElem? ht
    simp at this
    omega
  rcases hm with rfl | rfl | rfl
  · exact (show Tryz.prog.wantsStandIn 47 = false by kernel_rfl)
  · exact (show Tryz.prog.wantsStandIn 29 = false by kernel_rfl)
  · exact (show Tryz.prog.wantsStandIn 22 = false by kernel_rfl)

theorem diskMounts_holds : Rows.DiskMountsUptoCardSaid :=
  Claim7.holds_tied_plain_at .later [] _ _ _ _ mounts_said (fun _ h => by cases h) (by kernel_rfl) (fun _ h => by cases h) diskMountsUpto_row_tie rfl ⟨rfl, rfl⟩ (by kernel_rfl) rfl mounts_plain (by kernel_rfl)
#print axioms diskMounts_holds
end Go.Proofs.YtcpncfngadablaaGreatDoor
