import Derived.OpenShut
import Derived.Deep.DeepHandedRow
import Derived.Test.YtcpncfngadablaaGreatDoorTie
import Derived.Test.YtcpncfngadablaaGreatDoorCards
import Derived.Test.YtcpncfngadablaaGreatDoorZ20
/-
  What came in: a setup, a script with its names.
-/
namespace Go.Proofs.YtcpncfngadablaaGreatDoor
open Go.ChangeShapes Go.WideShapes Go.ChangeAt Go.RowKit Go.Deep
theorem cells65 : Tryz.prog.cellsOf 65 = 3 := by kernel_rfl
theorem cells27 : Tryz.prog.cellsOf 27 = 1 := by kernel_rfl
theorem cells29 : Tryz.prog.cellsOf 29 = 3 := by kernel_rfl

section
variable {H : Type} {enc : TypeId × Value → H} {W : World} {spare : Nat → Bool} {held : Bool}

set_option maxRecDepth 100000 in
theorem open_op2 {n : Nat} {a : Addr} {cs : List Value} {x : DataW H × List MemPlace} (h1 : W.cells? 0 a 5 = some cs) (h2 : DataW.trod enc Tryz.prog W 0 spare held n 40 cs = some x) :
    ∃ (o : OpA) (sb : Option Addr) (m c : Nat), W.cell? a = some (.int .i64 o.kind) ∧ W.cell? ⟨a.block, a.off + 1, none⟩ = some (.string o.name) ∧ W.cell? ⟨a.block, a.off + 2, none⟩ = some (.int .i64 o.N) ∧ W.cell? ⟨a.block, a.off + 3, none⟩ = some (.int .i64 o.bit) ∧ W.cell? ⟨a.block, a.off + 4, none⟩ = some (.slice sb m c) ∧ Shows W sb m c o.data ∧ m ≤ Rows.uptoBulk x.1 ∧ o.name.size ≤ Rows.uptoBulk x.1 := by
  obtain ⟨xs, k, rfl, rfl, hl, hxs, hf⟩ := DataW.trod_struct Tryz.underlying40 h2
  have hm : (List.range 5).mapM (fun i => W.cell? (a.add i)) = some cs := by
    simpa [World.cells?] using h1
  have g : ∀ i, i < 5 → W.cell? (a.add i) = cs[i]? := fun i hi => mapM_some_get hm i i (by simp [hi])
  rw [cells40] at hl
  match cs, hl with
  | [v0, v1, v2, v3, v4], _ =>
  have g0 := g 0 (by omega)
  have g1 := g 1 (by omega)
  have g2 := g 2 (by omega)
  have g3 := g 3 (by omega)
  have g4 := g 4 (by omega)
  simp at g0 g1 g2 g3 g4
  have hsp := World.cell?_spot g0
  have f0 := hf 0 _ rfl
  have f1 := hf 1 _ rfl
  have f2 := hf 2 _ rfl
  have f3 := hf 3 _ rfl
  have f4 := hf 4 _ rfl
  simp [cells3, cells9, cells31] at f0 f1 f2 f3 f4
  have hx5 : xs.length = 5 := by simpa using hxs
  have hx4 : xs[4]? = some (xs[4]'(by omega)) := List.getElem?_eq_getElem (by omega)
  rw [List.getElem?_eq_getElem (by omega)] at f0 f1 f2 f3 f4
  obtain ⟨n0, e0, _, _⟩ := DataW.trod_int Tryz.underlying3 f0
  obtain ⟨s1, e1, e1x, _⟩ := DataW.trod_string Tryz.underlying9 f1
  obtain ⟨n2, e2, _, _⟩ := DataW.trod_int Tryz.underlying3 f2
  obtain ⟨n3, e3, _, _⟩ := DataW.trod_int Tryz.underlying3 f3
  obtain ⟨sb, m, c, d, rfl, hs, hmb⟩ := open_data f4
  simp at e0 e1 e2 e3
  subst e0
  subst e1
  subst e2
  subst e3
  obtain ⟨b, off, spot⟩ := a
  obtain rfl : spot = none := hsp
  rw [add_plain] at g1 g2 g3 g4
  refine ⟨⟨n0, s1, n2, n3, d⟩, sb, m, c, by simpa [Addr.add] using g0, g1, g2, g3, g4, hs, Nat.le_trans hmb ?_, ?_⟩
  rotate_left 1
  · have h9 := bulk_part (H := H) (d := (xs[1]'(by omega)).1) (l := xs.map (·.1)) (List.mem_map.2 ⟨_, List.getElem_mem _, rfl⟩)
    rw [e1x] at h9
    simp only [Rows.uptoBulk] at h9 ⊢
    have h8 : s1.size = s1.data.toList.length := Array.length_toList.symm
    omega
  simp only [Rows.uptoBulk]
  have := bulk_part (H := H) (d := (xs[4]'(by omega)).1) (l := xs.map (·.1)) (List.mem_map.2 ⟨_, List.getElem_mem _, rfl⟩)
  omega

set_option maxRecDepth 100000 in
/-- a script that came in. -/
theorem open_ops2 {v : Value} {d : DataW H} {ps : List MemPlace} {base : Nat} (hval : Value.okWide Tryz.prog W .any base 22 v) (h : DataW.Trod enc Tryz.prog W 0 spare held 22 v d ps) (hk : Rows.uptoBulk d ≤ 1048576) :
    ∃ (sa : Option Addr) (ca : Nat) (l : List OpA), v = .slice sa l.length ca ∧ OpsAt W sa l ∧ l.length ≤ 1048576 ∧ ∀ o ∈ l, o.name.size ≤ 1099511627776 := by
  obtain ⟨a0, len, cap, rfl⟩ := okWide_slice Tryz.underlying22 hval
  obtain ⟨fuel, hf⟩ := h
  rcases open_slice Tryz.underlying22 hf with ⟨hcs, hx⟩ | ⟨a, len', cap', m, n, D, Pl, hcs, _, hl, hm, hmm, hx, hall⟩
  · simp [Value.cells] at hcs
    obtain ⟨rfl, rfl, rfl⟩ := hcs
    exact ⟨none, 0, [], rfl, ⟨fun k hk => by simp at hk⟩, Nat.zero_le _, by simp⟩
  · simp [Value.cells] at hcs
    obtain ⟨rfl, rfl, rfl⟩ := hcs
    rw [cells40] at hx hall
    obtain ⟨rfl, -⟩ := Prod.mk.inj hx
    have hlm : len ≤ m := by rw [hmm]; split <;> omega
    have hb1 : Rows.uptoBulkAll ((List.range len).map D) ≤ 1048576 := by
      simp only [Rows.uptoBulk] at hk
      omega
    have hlen2 := bulk_length ((List.range len).map D)
    simp only [List.length_map, List.length_range] at hlen2
    have each : ∀ i, i < len → ∃ o : OpA × Option Addr × Nat × Nat, W.cell? (a.add (i * 5)) = some (.int .i64 o.1.kind) ∧ W.cell? ⟨(a.add (i * 5)).block, (a.add (i * 5)).off + 1, none⟩ = some (.string o.1.name) ∧ W.cell? ⟨(a.add (i * 5)).block, (a.add (i * 5)).off + 2, none⟩ = some (.int .i64 o.1.N) ∧ W.cell? ⟨(a.add (i * 5)).block, (a.add (i * 5)).off + 3, none⟩ = some (.int .i64 o.1.bit) ∧ W.cell? ⟨(a.add (i * 5)).block, (a.add (i * 5)).off + 4, none⟩ = some (.slice o.2.1 o.2.2.1 o.2.2.2) ∧ Shows W o.2.1 o.2.2.1 o.2.2.2 o.1.data ∧ o.2.2.1 ≤ 1073741824 ∧ o.1.name.size ≤ 1099511627776 := fun i hi => by
      obtain ⟨cs', h1, h2⟩ := hall i (by omega)
      obtain ⟨o, sb, m, c, c0, c1, c2, c3, c4, hs, hmb, hnb⟩ := open_op2 h1 h2
      have h3 := bulk_part (H := H) (d := D i) (l := (List.range len).map D) (List.mem_map.2 ⟨i, List.mem_range.2 hi, rfl⟩)
      exact ⟨(o, sb, m, c), c0, c1, c2, c3, c4, hs, by show m ≤ 1073741824; simp only at hmb; omega, by show o.name.size ≤ 1099511627776; simp only at hnb; omega⟩
    haveI : Inhabited (OpA × Option Addr × Nat × Nat) := ⟨⟨0, ⟨#[]⟩, 0, 0, []⟩, none, 0, 0⟩
    obtain ⟨f, hf⟩ := choose_lt each
    have hlen : ((List.range len).map fun i => (f i).1).length = len := by simp
    refine ⟨some a, cap, (List.range len).map fun i => (f i).1, by rw [hlen], ⟨fun k hk => ?_⟩, by rw [hlen]; omega, fun o ho => ?_⟩
    rotate_left 1
    · obtain ⟨k, hk, rfl⟩ := List.mem_map.1 ho
      exact (hf k (List.mem_range.1 hk)).2.2.2.2.2.2.2
    rw [hlen] at hk
    obtain ⟨c0, c1, c2, c3, c4, hs, hmb, _⟩ := hf k hk
    refine ⟨a, (f k).2.1, (f k).2.2.1, (f k).2.2.2, rfl, ?_, by simpa using c0, by simpa using c1, by simpa using c2, by simpa using c3, c4, by simpa using hs, hmb⟩
    have := World.block_lt_of_cell? W _ c0
    rwa [add_block] at this

set_option maxRecDepth 100000 in
theorem open_tr {n : Nat} {a : Addr} {cs : List Value} {x : DataW H × List MemPlace} (h1 : W.cells? 0 a 3 = some cs) (h2 : DataW.trod enc Tryz.prog W 0 spare held n 65 cs = some x) :
    ∃ o : TrA, W.cell? a = some (.int .i64 o.at_) ∧ W.cell? ⟨a.block, a.off + 1, none⟩ = some (.int .i64 o.kind) ∧ W.cell? ⟨a.block, a.off + 2, none⟩ = some (.int .i64 o.bytes) ∧ (Lit.int .i64 o.at_).wf = true := by
  obtain ⟨xs, k, rfl, rfl, hl, hxs, hf⟩ := DataW.trod_struct Tryz.underlying65 h2
  have hm : (List.range 3).mapM (fun i => W.cell? (a.add i)) = some cs := by
    simpa [World.cells?] using h1
  have g : ∀ i, i < 3 → W.cell? (a.add i) = cs[i]? := fun i hi => mapM_some_get hm i i (by simp [hi])
  rw [cells65] at hl
  match cs, hl with
  | [v0, v1, v2], _ =>
  have g0 := g 0 (by omega)
  have g1 := g 1 (by omega)
  have g2 := g 2 (by omega)
  simp at g0 g1 g2
  have hsp := World.cell?_spot g0
  have f0 := hf 0 _ rfl
  have f1 := hf 1 _ rfl
  have f2 := hf 2 _ rfl
  simp [cells3] at f0 f1 f2
  have hx5 : xs.length = 3 := by simpa using hxs
  rw [List.getElem?_eq_getElem (by omega)] at f0 f1 f2
  obtain ⟨n0, e0, _, w0⟩ := DataW.trod_int Tryz.underlying3 f0
  obtain ⟨n1, e1, _, _⟩ := DataW.trod_int Tryz.underlying3 f1
  obtain ⟨n2, e2, _, _⟩ := DataW.trod_int Tryz.underlying3 f2
  simp at e0 e1 e2
  subst e0
  subst e1
  subst e2
  obtain ⟨b, off, spot⟩ := a
  obtain rfl : spot = none := hsp
  rw [add_plain] at g1 g2
  exact ⟨⟨n0, n1, n2⟩, by simpa [Addr.add] using g0, g1, g2, w0⟩

set_option maxRecDepth 100000 in
/-- troubles that came in. -/
theorem open_trs2 {fuel : Nat} {v : Value} {x : DataW H × List MemPlace} (hf : DataW.trod enc Tryz.prog W 0 spare held fuel 27 [v] = some x) (hk : Rows.uptoBulk x.1 ≤ 1048576) :
    ∃ (sa : Option Addr) (ca : Nat) (l : List TrA), v = .slice sa l.length ca ∧ TrsAt W sa l ∧ l.length ≤ 1073741824 ∧ (sa = none → l = []) := by
  rcases open_slice Tryz.underlying27 hf with ⟨hcs, hx⟩ | ⟨a, len, cap, m, n, D, Pl, hcs, _, hl, hm, hmm, hx, hall⟩
  · simp at hcs
    subst hcs
    exact ⟨none, 0, [], rfl, ⟨fun k hk => by simp at hk, fun k hk => by simp at hk⟩, Nat.zero_le _, fun _ => rfl⟩
  · simp at hcs
    subst hcs
    rw [cells65] at hx hall
    subst hx
    have hlm : len ≤ m := by rw [hmm]; split <;> omega
    have hb1 : Rows.uptoBulkAll ((List.range len).map D) ≤ 1048576 := by
      simp only [Rows.uptoBulk] at hk
      omega
    have hlen2 := bulk_length ((List.range len).map D)
    simp only [List.length_map, List.length_range] at hlen2
    have each : ∀ i, i < len → ∃ o : TrA, W.cell? (a.add (i * 3)) = some (.int .i64 o.at_) ∧ W.cell? ⟨(a.add (i * 3)).block, (a.add (i * 3)).off + 1, none⟩ = some (.int .i64 o.kind) ∧ W.cell? ⟨(a.add (i * 3)).block, (a.add (i * 3)).off + 2, none⟩ = some (.int .i64 o.bytes) ∧ (Lit.int .i64 o.at_).wf = true := fun i hi => by
      obtain ⟨cs', h1, h2⟩ := hall i (by omega)
      exact open_tr h1 h2
    haveI : Inhabited TrA := ⟨⟨0, 0, 0⟩⟩
    obtain ⟨f, hf⟩ := choose_lt each
    have hlen : ((List.range len).map f).length = len := by simp
    refine ⟨some a, cap, (List.range len).map f, by rw [hlen], ⟨fun k hk => ?_, fun k hk => ?_⟩, by rw [hlen]; omega, fun e => by cases e⟩
    · rw [hlen] at hk
      obtain ⟨c0, c1, c2, _⟩ := hf k hk
      refine ⟨a, rfl, ?_, by simpa using c0, by simpa using c1, by simpa using c2⟩
      have := World.block_lt_of_cell? W _ c0
      rwa [add_block] at this
    · rw [hlen] at hk
      simpa using (hf k hk).2.2.2

set_option maxRecDepth 100000 in
/-- a setup that came in. -/
theorem open_setup {v : Value} {d : DataW H} {ps : List MemPlace} {base : Nat} (hval : Value.okWide Tryz.prog W .any base 29 v) (h : DataW.Trod enc Tryz.prog W 0 spare held 29 v d ps) (hk : Rows.uptoBulk d ≤ 1048576) :
    ∃ (B Bs : Int) (sa : Option Addr) (ca : Nat) (l : List TrA), v = .agg #[.int .i64 B, .int .i64 Bs, .slice sa l.length ca] ∧ TrsAt W sa l ∧ l.length ≤ 1073741824 ∧ (sa = none → l = []) := by
  obtain ⟨cs, rfl, hcs⟩ := okWide_struct Tryz.underlying29 hval
  obtain ⟨fuel, hf⟩ := h
  obtain ⟨xs, k, hk1, hx, hl, hxs, hf⟩ := DataW.trod_struct Tryz.underlying29 hf
  rw [cells29] at hcs
  obtain ⟨v0, v1, v2, rfl⟩ : ∃ v0 v1 v2, cs = #[v0, v1, v2] := by
    match cs, hcs with
    | ⟨[a, b, c]⟩, _ => exact ⟨a, b, c, rfl⟩
  have f0 := hf 0 _ rfl
  have f1 := hf 1 _ rfl
  have f2 := hf 2 _ rfl
  simp [cells3, cells27, Value.cells] at f0 f1 f2
  have hx5 : xs.length = 3 := by simpa using hxs
  rw [List.getElem?_eq_getElem (by omega)] at f0 f1 f2
  obtain ⟨n0, e0, _, _⟩ := DataW.trod_int Tryz.underlying3 f0
  obtain ⟨n1, e1, _, _⟩ := DataW.trod_int Tryz.underlying3 f1
  simp at e0 e1
  subst e0
  subst e1
  obtain ⟨rfl, -⟩ := Prod.mk.inj hx
  have hb := bulk_part (H := H) (d := (xs[2]'(by omega)).1) (l := xs.map (·.1)) (List.mem_map.2 ⟨_, List.getElem_mem _, rfl⟩)
  simp only [Rows.uptoBulk] at hk
  obtain ⟨sa, ca, l, rfl, h1, h2, h3⟩ := open_trs2 f2 (by omega)
  exact ⟨n0, n1, sa, ca, l, rfl, h1, h2, h3⟩
end
end Go.Proofs.YtcpncfngadablaaGreatDoor
namespace Go.Proofs.YtcpncfngadablaaGreatDoor
open Go.ChangeShapes Go.WideShapes Go.ChangeAt Go.RowKit Go.Deep

set_option maxRecDepth 100000 in
/-- what the walk gives, for every argument within the bound and every world that holds the package's errors. -/
theorem plays_contract (H : Type) (enc : TypeId × Value → H) (W : World) (base : Nat) (args : Array Value) (ds gs : List (DataW H)) (before : List MemPlace)
    (hval : ∀ (j : Nat) t v, Tryz.f4.params[j]? = some t → args[j]? = some v → Value.okWide Tryz.prog W .any base t v)
    (hW : DataW.Whole enc Tryz.prog Tryz.f4.params.toList Rows.diskPlaysSpec.vars false W args.toList ds gs before) (hk : Rows.uptoSmall H (ds ++ gs) = true) (hL : laidMetH Tryz.prog Rows.diskPlaysUptoRow.laid W) :
    Calls Tryz.prog 4 args W fun e W' => ∃ v, e = .returned v ∧ Rows.diskPlaysSpec.post enc Tryz.prog Tryz.f4 false true false false W args v W' := by
  have hW' := hW
  obtain ⟨p, q, hA0, hV, rfl, hfz, hnd⟩ := hW
  have hA : DataW.TrodAll enc Tryz.prog W 0 (fun _ => true) true Tryz.f4.params.toList args.toList ds p := hA0
  rw [Tryz.params4] at hA hval
  obtain ⟨v0, vs0, d0, ds0, p0, q0, hargs0, rfl, rfl, h0, r0⟩ := trodAll_cons hA
  obtain ⟨v1, vs1, d1, ds1, p1, q1, rfl, rfl, rfl, h1, r1⟩ := trodAll_cons r0
  obtain ⟨rfl, rfl, rfl⟩ := trodAll_nil r1
  obtain rfl : args = #[v0, v1] := by cases args; simp_all
  obtain ⟨rfl, rfl⟩ := trodVars_none hV
  have hb := of_decide_eq_true hk
  simp only [List.append_nil, Rows.uptoBulkAll] at hb
  obtain ⟨Bb, Bs, sa0, ca0, lt, rfl, htr, hlt9, hnil⟩ := open_setup (hval 0 29 v0 rfl rfl) h0 (by omega)
  clear hA0
  simp only [List.append_nil] at hW'
  have hlt0 : ∀ x ∈ p0, x.block < W.heap.size := fun x hx => by simpa using hW'.lt x (by simp [hx])
  have hlt1 : ∀ x ∈ p1, x.block < W.heap.size := fun x hx => by simpa using hW'.lt x (by simp [hx])
  obtain ⟨sa, ca, la, rfl, hopa, hna, hnm⟩ := open_ops2 (hval 1 22 v1 rfl rfl) h1 (by omega)
  obtain ⟨E, hE⟩ := sents_of_laid hL
  refine (diskPlays_law hE Bb Bs htr hnil hlt9 hopa hnm hna).mono fun e W' ⟨he, hnx⟩ => ?_
  subst he
  refine ⟨_, rfl, _, _, _, [], _, [], hW', ?_, trodAll_cons_mk (Below.trod laidOut (by kernel_rfl) (of_decide_eq_true (by kernel_rfl)) h0 hnx hlt0) (trodAll_mk1 (Below.trod laidOut (by kernel_rfl) (of_decide_eq_true (by kernel_rfl)) h1 hnx hlt1)), rfl, hnx.frame _, fun h => by cases h⟩
  exact trodAll_mk1 (shut_bool Tryz.underlying4 _)

set_option maxRecDepth 100000 in
theorem plays_lifted (os : Os) (started : os.Started) (H : Type) (enc : TypeId × Value → H) (F : Stop.Interp) :
    ReturnsInHanded {} Tryz.checked os 4 .any ((Rows.OpenSpec.upto Rows.diskPlaysSpec).preRow enc Tryz.prog Tryz.f4 Rows.diskPlaysUptoRow.domain false Rows.diskPlaysUptoRow.laid) (((Rows.OpenSpec.upto Rows.diskPlaysSpec).at F).post enc Tryz.prog Tryz.f4 false true false false) := by
  obtain ⟨lw, hlw⟩ : ∃ lw : World, lw = (fun w0 : World => { w0 with heap := (((((((((((w0.heap.modify 0 fun
      | .cells _ t frozen => .cells #[.iface 183 (.pointer (some ⟨(World.holding Tryz.prog default ⟨#[], #[], []⟩).heap.size + 0, 0, none⟩))] t frozen
      | o => o).modify 1 fun
      | .cells _ t frozen => .cells #[.iface 183 (.pointer (some ⟨(World.holding Tryz.prog default ⟨#[], #[], []⟩).heap.size + 1, 0, none⟩))] t frozen
      | o => o).modify 2 fun
      | .cells _ t frozen => .cells #[.iface 183 (.pointer (some ⟨(World.holding Tryz.prog default ⟨#[], #[], []⟩).heap.size + 2, 0, none⟩))] t frozen
      | o => o).modify 3 fun
      | .cells _ t frozen => .cells #[.iface 183 (.pointer (some ⟨(World.holding Tryz.prog default ⟨#[], #[], []⟩).heap.size + 3, 0, none⟩))] t frozen
      | o => o).modify 4 fun
      | .cells _ t frozen => .cells #[.iface 183 (.pointer (some ⟨(World.holding Tryz.prog default ⟨#[], #[], []⟩).heap.size + 4, 0, none⟩))] t frozen
      | o => o).modify 5 fun
      | .cells _ t frozen => .cells #[.iface 183 (.pointer (some ⟨(World.holding Tryz.prog default ⟨#[], #[], []⟩).heap.size + 5, 0, none⟩))] t frozen
      | o => o).modify 6 fun
      | .cells _ t frozen => .cells #[.iface 183 (.pointer (some ⟨(World.holding Tryz.prog default ⟨#[], #[], []⟩).heap.size + 6, 0, none⟩))] t frozen
      | o => o).modify 7 fun
      | .cells _ t frozen => .cells #[.iface 183 (.pointer (some ⟨(World.holding Tryz.prog default ⟨#[], #[], []⟩).heap.size + 7, 0, none⟩))] t frozen
      | o => o).modify 8 fun
      | .cells _ t frozen => .cells #[.iface 183 (.pointer (some ⟨(World.holding Tryz.prog default ⟨#[], #[], []⟩).heap.size + 8, 0, none⟩))] t frozen
      | o => o).modify 9 fun
      | .cells _ t frozen => .cells #[.iface 183 (.pointer (some ⟨(World.holding Tryz.prog default ⟨#[], #[], []⟩).heap.size + 9, 0, none⟩))] t frozen
      | o => o).modify 10 fun
      | .cells _ t frozen => .cells #[.iface 183 (.pointer (some ⟨(World.holding Tryz.prog default ⟨#[], #[], []⟩).heap.size + 10, 0, none⟩))] t frozen
      | o => o) }) (World.holding Tryz.prog os ⟨#[.cells #[.string ⟨#[97, 32, 115, 101, 116, 117, 112, 32, 116, 104, 97, 116, 32, 109, 97, 121, 32, 110, 111, 116, 32, 98, 101]⟩] 206, .cells #[.string ⟨#[97, 32, 102, 97, 117, 108, 116, 32, 98, 101, 102, 97, 108, 108, 115, 32, 116, 104, 101, 32, 99, 97, 108, 108]⟩] 206, .cells #[.string ⟨#[116, 104, 101, 32, 112, 111, 119, 101, 114, 32, 105, 115, 32, 111, 102, 102]⟩] 206, .cells #[.string ⟨#[110, 111, 32, 110, 97, 109, 101]⟩] 206, .cells #[.string ⟨#[110, 111, 32, 102, 105, 108, 101, 32, 111, 102, 32, 116, 104, 97, 116, 32, 110, 97, 109, 101]⟩] 206, .cells #[.string ⟨#[97, 32, 102, 105, 108, 101, 32, 111, 102, 32, 116, 104, 97, 116, 32, 110, 97, 109, 101, 32, 97, 108, 114, 101, 97, 100, 121]⟩] 206, .cells #[.string ⟨#[116, 104, 101, 32, 102, 105, 108, 101, 32, 105, 115, 32, 115, 101, 97, 108, 101, 100]⟩] 206, .cells #[.string ⟨#[116, 104, 101, 32, 102, 105, 108, 101, 32, 105, 115, 32, 110, 111, 116, 32, 115, 101, 97, 108, 101, 100]⟩] 206, .cells #[.string ⟨#[110, 111, 32, 115, 117, 99, 104, 32, 98, 108, 111, 99, 107]⟩] 206, .cells #[.string ⟨#[110, 111, 32, 98, 108, 111, 99, 107, 32, 105, 115, 32, 102, 114, 101, 101]⟩] 206, .cells #[.string ⟨#[110, 111, 32, 115, 116, 97, 116, 101, 32, 111, 102, 32, 97, 32, 100, 105, 115, 107]⟩] 206], #[], []⟩) := ⟨_, rfl⟩
  have hos : lw.os = os := by rw [hlw]; rfl
  have hv : (lw.forCall (fun _ _ => 0) ⟨#[], #[.agg #[.int .i64 0, .int .i64 0, .slice none 0 0], .slice none 0 0], []⟩).variablesB Tryz.checked.prog = true := by rw [hlw]; kernel_rfl
  have hr : ((lw.forCall (fun _ _ => 0) ⟨#[], #[.agg #[.int .i64 0, .int .i64 0, .slice none 0 0], .slice none 0 0], []⟩).heap.toList.drop Tryz.checked.prog.globals.size).take ((begin Tryz.checked.prog (fun _ _ => 0) default).world.heap.size - Tryz.checked.prog.globals.size) = (begin Tryz.checked.prog (fun _ _ => 0) default).world.heap.toList.drop Tryz.checked.prog.globals.size := by rw [hlw]; kernel_rfl
  have hok : Input.okWideB Tryz.checked.prog (lw.forCall (fun _ _ => 0) ⟨#[], #[.agg #[.int .i64 0, .int .i64 0, .slice none 0 0], .slice none 0 0], []⟩) 4 ⟨#[], #[.agg #[.int .i64 0, .int .i64 0, .slice none 0 0], .slice none 0 0], []⟩ = true := by rw [hlw]; kernel_rfl
  have hx : DataW.whole enc Tryz.prog (lw.forCall (fun _ _ => 0) ⟨#[], #[.agg #[.int .i64 0, .int .i64 0, .slice none 0 0], .slice none 0 0], []⟩).memory Tryz.f4.params.toList Rows.diskPlaysSpec.vars false #[Value.agg #[.int .i64 0, .int .i64 0, .slice none 0 0], .slice none 0 0].toList 8 = some ([.agg [.lit (.int .i64 0), .lit (.int .i64 0), .nil], .nil], [], []) := by rw [hlw]; kernel_rfl
  have hlm : laidMet Tryz.prog Rows.diskPlaysUptoRow.laid (lw.forCall (fun _ _ => 0) ⟨#[], #[.agg #[.int .i64 0, .int .i64 0, .slice none 0 0], .slice none 0 0], []⟩).memory := by rw [hlw]; exact laidMet_of_run' 8 (by kernel_rfl) (by kernel_rfl)
  clear hlw
  refine returnsInHanded_of_row (C := Tryz.checked) (s := Rows.OpenSpec.upto Rows.diskPlaysSpec) own started (by kernel_rfl) Tryz.func4
    (witness_row_at (enc := enc) (C := Tryz.checked) false lw #[.agg #[.int .i64 0, .int .i64 0, .slice none 0 0], .slice none 0 0] hos hv hr hok
      (OpenSpec.preRow_of_cond 8 hx (by kernel_rfl) (fun k hk => by cases hk; kernel_rfl) (by kernel_rfl) hlm)) ?_
  intro W base args ds gs before hval hW _ hcond _ hL _ _
  exact plays_contract H enc W base args ds gs before hval hW (hcond _ rfl) hL

theorem plays_said : Rows.DiskPlaysUptoSaid :=
  OpenClaim.holds_of_cond 4 Tryz.f4 rfl rfl rfl rfl rfl rfl rfl ⟨rfl, rfl, rfl, rfl, rfl⟩ rfl rfl rfl rfl rfl (by kernel_rfl) Tryz.func4 (by kernel_rfl)
    (of_decide_eq_true (by kernel_rfl)) (by unfold Func.isWrapper; first | (rw [if_pos (by decide +kernel)]; kernel_rfl) | (rw [if_neg (by decide +kernel)]; exact ⟨rfl, rfl⟩))
    (fun os started H enc _ F => by rw [OpenClaim.pre_eq_preRow]; exact plays_lifted os started H enc F)

/-- no parameter wants a stand-in. -/
theorem plays_plain (f : FuncId) (fn : Func) (hf : Tryz.pinned.checked.prog.funcNamed "strata/stratalaw01.DiskPlays" = some f) (hfn : Tryz.pinned.checked.prog.funcs[f]? = some fn) :
    true = Tryz.pinned.checked.prog.looks [] ∧ ∀ (j : Nat) t, fn.params[j]? = some t → Tryz.pinned.checked.prog.wantsStandIn t = false := by
  obtain rfl : f = 4 := Option.some.inj ((show Tryz.prog.funcNamed "strata/stratalaw01.DiskPlays" = some 4 by kernel_rfl).symm.trans hf) |>.symm
  obtain rfl : fn = Tryz.f4 := (Option.some.inj (Tryz.func4.symm.trans hfn)).symm
  refine ⟨by kernel_rfl, fun j t ht => ?_⟩
  rw [Tryz.params4] at ht
  have hm : t = 29 ∨ t = 22 := by
    have := Array.mem_of_getElem? ht
    simp at this
    omega
  rcases hm with rfl | rfl
  · exact (show Tryz.prog.wantsStandIn 29 = false by kernel_rfl)
  · exact (show Tryz.prog.wantsStandIn 22 = false by kernel_rfl)

theorem diskPlays_holds : Rows.DiskPlaysUptoCardSaid :=
  Claim7.holds_tied_plain_at .later [] _ _ _ _ plays_said (fun _ h => by cases h) (by kernel_rfl) (fun _ h => by cases h) diskPlaysUpto_row_tie rfl ⟨rfl, rfl⟩ (by kernel_rfl) rfl plays_plain (by kernel_rfl)
#print axioms diskPlays_holds
end Go.Proofs.YtcpncfngadablaaGreatDoor
