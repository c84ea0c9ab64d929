import Derived.ProofKit
import Derived.Deep.Slices
import Derived.LaidLaws
import Derived.MakeChecks
import Derived.Test.YtcpncfngadablaaGreatDoorZ16
namespace Go.Proofs.YtcpncfngadablaaGreatDoor
open Go.RowKit Go.Deep

theorem field_B (B : Int) (v1 v2 : Value) (W : World) : (Instr.field 29 (.agg #[.int .i64 B, v1, v2]) 0).run Tryz.prog W = .ok (.int .i64 B) W := by
  simp [Instr.field, run_underlying Tryz.underlying29, go_sem, asAgg]

section
variable {w w' : World} {E : Nat → Addr} {lo p mf mt : Nat} {D : DiskC}

/-- a script, as a slice shows it. -/
structure OpsAt (w : World) (sa : Option Addr) (l : List OpA) : Prop where
  at_ : ∀ k (hk : k < l.length), ∃ a sb m c, sa = some a ∧ a.block < w.heap.size ∧ w.cell? (a.add (k * 5)) = some (.int .i64 l[k].kind) ∧ w.cell? ⟨(a.add (k * 5)).block, (a.add (k * 5)).off + 1, none⟩ = some (.string l[k].name) ∧ w.cell? ⟨(a.add (k * 5)).block, (a.add (k * 5)).off + 2, none⟩ = some (.int .i64 l[k].N) ∧ w.cell? ⟨(a.add (k * 5)).block, (a.add (k * 5)).off + 3, none⟩ = some (.int .i64 l[k].bit) ∧ w.cell? ⟨(a.add (k * 5)).block, (a.add (k * 5)).off + 4, none⟩ = some (.slice sb m c) ∧ Shows w sb m c l[k].data ∧ m ≤ 1073741824

/-- what holds behind t steps of a disk in memory. -/
structure Runs (w : World) (lo p mf mt B t : Nat) (D : DiskC) : Prop where
  rep : Rep w lo p mf mt D
  T : D.T = .map []
  inv : Inv t D.pub
  B : D.B = B

theorem Runs.keys {B t : Nat} (h : Runs w lo p mf mt B t D) : D.pub.files.Pairwise fun a b => a.1 ≠ b.1 := by
  show (D.ents.map Ent.pub).Pairwise _
  rw [List.pairwise_map]
  exact h.rep.uniq

theorem Runs.step {B t : Nat} (h : Runs w lo p mf mt B t D) (o : OpA) {w2 : World} (hd : Did w w2 lo p mf mt D (stepA o D.pub).2) : ∃ D', Runs w2 lo p mf mt B (t + 1) D' ∧ D'.pub = (stepA o D.pub).2 ∧ Touch (D.foot p mf mt) w w2 ∧ ∀ b ∈ D'.foot p mf mt, b ∈ D.foot p mf mt ∨ w.heap.size ≤ b := by
  obtain ⟨D', R', hp, hT, ht, hf⟩ := hd
  refine ⟨D', ⟨R', hT, ?_, ?_⟩, hp, ht, hf⟩
  · rw [hp]
    exact h.inv.step h.keys o
  · have h1 : D'.pub.B = (stepA o D.pub).2.B := by rw [hp]
    rw [(step_size o D.pub).1] at h1
    have h2 : D'.B = D.B := h1
    rw [h2, h.B]

/-- 'program' on it. -/
theorem Runs.program {B t : Nat} (h : Runs w lo p mf mt B t D) (V : Env w lo E) (ht : t + 1 ≤ 1099511627776) (o : OpA) {sa : Option Addr} {n c : Nat} (hd : Shows w sa n c o.data) (hn : n ≤ 1073741824) :
    Calls Tryz.prog 8 #[ptr p, opV o.kind o.name o.N o.bit sa n c, .int .i64 B] w fun e w' => ∃ v D', e = .returned (.tuple #[v, .bool true]) ∧ ToldAt w' w.heap.size (stepA o D.pub).1 v ∧ Runs w' lo p mf mt B (t + 1) D' ∧ D'.pub = (stepA o D.pub).2 ∧ Touch (D.foot p mf mt) w w' ∧ ∀ b ∈ D'.foot p mf mt, b ∈ D.foot p mf mt ∨ w.heap.size ≤ b := by
  have hc := h.inv.calls
  have h1 := program_any V h.rep h.T h.inv.on (h.inv.small (by omega)) (by simp only [DiskC.pub] at hc; omega) o hd hn
  rw [h.B] at h1
  refine h1.mono fun e w2 ⟨v, e1, e2, e3⟩ => ?_
  obtain ⟨D', r1, r2, r3, r4⟩ := h.step o e3
  exact ⟨v, D', e1, e2, r1, r2, r3, r4⟩

theorem Runs.touch {B t : Nat} (h : Runs w lo p mf mt B t D) (ht : Touch [] w w') : Runs w' lo p mf mt B t D := ⟨h.rep.touch ht (by simp), h.T, h.inv, h.B⟩

theorem below_foot {base : Nat} {w0 w1 w2 : World} {F : List Nat} (h : Below base w0 w1) (ht : Touch F w1 w2) (hF : ∀ b ∈ F, base ≤ b) (hs : base ≤ w1.heap.size) : Below base w0 w2 := h.trans (ht.below hs hF)

theorem add_block (a : Addr) (j : Nat) : (a.add j).block = a.block := by unfold Addr.add; split <;> rfl

/-- the k-th operation, read in a later world. -/
theorem OpsAt.read {sa : Option Addr} {l : List OpA} (h : OpsAt w sa l) {k : Nat} (hk : k < l.length) (hb : Below w.heap.size w w') : ∃ a sb m c, sa = some a ∧ w'.cell? (a.add (k * 5)) = some (.int .i64 l[k].kind) ∧ w'.cell? ⟨(a.add (k * 5)).block, (a.add (k * 5)).off + 1, none⟩ = some (.string l[k].name) ∧ w'.cell? ⟨(a.add (k * 5)).block, (a.add (k * 5)).off + 2, none⟩ = some (.int .i64 l[k].N) ∧ w'.cell? ⟨(a.add (k * 5)).block, (a.add (k * 5)).off + 3, none⟩ = some (.int .i64 l[k].bit) ∧ w'.cell? ⟨(a.add (k * 5)).block, (a.add (k * 5)).off + 4, none⟩ = some (.slice sb m c) ∧ Shows w' sb m c l[k].data ∧ m ≤ 1073741824 ∧ a.block < w.heap.size := by
  obtain ⟨a, sb, m, c, e, hblk, c0, c1, c2, c3, c4, hs, hm⟩ := h.at_ k hk
  have hc : ∀ q : Addr, q.block = (a.add (k * 5)).block → w'.cell? q = w.cell? q := fun q hq => hb.cell (by rw [hq, add_block]; exact hblk)
  exact ⟨a, sb, m, c, e, (hc _ rfl).trans c0, (hc ⟨(a.add (k * 5)).block, (a.add (k * 5)).off + 1, none⟩ rfl).trans c1, (hc ⟨(a.add (k * 5)).block, (a.add (k * 5)).off + 2, none⟩ rfl).trans c2, (hc ⟨(a.add (k * 5)).block, (a.add (k * 5)).off + 3, none⟩ rfl).trans c3, (hc ⟨(a.add (k * 5)).block, (a.add (k * 5)).off + 4, none⟩ rfl).trans c4, hs.touch (Touch.of_below (F := []) hb (Nat.le_refl _)) (by simp), hm, hblk⟩

theorem inv_new {B : Nat} (h1 : 64 ≤ B) (h2 : B ≤ 65536) : Inv 0 (DiskC.new B 1099511627776).pub := ⟨rfl, ⟨h1, h2⟩, rfl, by simp [DiskC.new, DiskC.pub], by simp [DiskC.new, DiskC.pub], by simp [DiskC.new, DiskC.pub], by simp [DiskC.new, DiskC.pub], by simp [DiskC.new, DiskC.pub, total], by simp [DiskC.new, DiskC.pub, total], by simp [DiskC.new, DiskC.pub], by simp [DiskC.new, DiskC.pub]⟩



end
end Go.Proofs.YtcpncfngadablaaGreatDoor
namespace Go.Proofs.YtcpncfngadablaaGreatDoor
open Go.ChangeShapes Go.WideShapes Go.ChangeAt Go.RowKit Go.Deep

theorem own : ownKnob Tryz.prog.godebug = none := by kernel_rfl
theorem laidOut : laidOutB Tryz.prog = true := by kernel_rfl
theorem cells3 : Tryz.prog.cellsOf 3 = 1 := by kernel_rfl
theorem cells5 : Tryz.prog.cellsOf 5 = 1 := by kernel_rfl
theorem cells9 : Tryz.prog.cellsOf 9 = 1 := by kernel_rfl
theorem cells31 : Tryz.prog.cellsOf 31 = 1 := by kernel_rfl
theorem cells40 : Tryz.prog.cellsOf 40 = 5 := by kernel_rfl

/-! ### what the bound gives -/
theorem bulk_one {H : Type} (d : DataW H) : 1 ≤ Rows.uptoBulk d := by
  cases d with
  | lit l => cases l <;> simp [Rows.uptoBulk]
  | nil => simp [Rows.uptoBulk]
  | ptr d => simp [Rows.uptoBulk]
  | slice elems spare => simp [Rows.uptoBulk]
  | agg parts => simp [Rows.uptoBulk]
  | iface t d => simp [Rows.uptoBulk]
  | map entries => simp [Rows.uptoBulk]
  | held h => simp [Rows.uptoBulk]
theorem bulk_part {H : Type} {d : DataW H} {l : List (DataW H)} (h : d ∈ l) : Rows.uptoBulk d ≤ Rows.uptoBulkAll l := by
  induction l with
  | nil => cases h
  | cons x r ih =>
    simp only [Rows.uptoBulkAll]
    cases List.mem_cons.1 h with
    | inl e => subst e; omega
    | inr e => have := ih e; omega
theorem bulk_length {H : Type} (l : List (DataW H)) : l.length ≤ Rows.uptoBulkAll l := by
  induction l with
  | nil => simp [Rows.uptoBulkAll]
  | cons x r ih => have := bulk_one x; simp only [Rows.uptoBulkAll, List.length_cons]; omega

section
variable {H : Type} {enc : TypeId × Value → H} {W : World} {spare : Nat → Bool} {held : Bool}

/-- bytes that came in. -/
theorem open_data {fuel : Nat} {v : Value} {x : DataW H × List MemPlace} (h : DataW.trod enc Tryz.prog W 0 spare held fuel 31 [v] = some x) :
    ∃ sb m c d, v = .slice sb m c ∧ Shows W sb m c d ∧ m ≤ Rows.uptoBulk x.1 := by
  rcases open_ints Tryz.underlying31 Tryz.underlying5 cells5 h with ⟨hcs, rfl⟩ | ⟨a, len, cap, zs, hcs, _, hl, hm, hz, rfl, hcell, hwz⟩
  · simp at hcs
    subst hcs
    exact ⟨none, 0, 0, [], rfl, ⟨rfl, Nat.le_refl _, fun h => by omega, fun _ => ⟨rfl, rfl⟩⟩, by omega⟩
  · simp at hcs
    subst hcs
    have hlz : len ≤ zs.length := by rw [hz]; split <;> omega
    have hd : ∀ (j : Nat) (hj : j < len), Value.int .u8 ((UInt8.ofNat (zs[j]'(by omega)).toNat).toNat : Int) = .int .u8 (zs[j]'(by omega)) := fun j hj => by
      have h5 := hwz (zs[j]'(by omega)) (List.getElem_mem _)
      have e1 : IntKind.u8.min = 0 := rfl
      have e2 : IntKind.u8.max = 255 := rfl
      have h6 : 0 ≤ zs[j]'(by omega) ∧ zs[j]'(by omega) ≤ 255 := by simpa [Lit.wf, e1, e2] using h5
      congr 1
      simp
      omega
    refine ⟨some a, len, cap, ((zs.take len).map fun z => UInt8.ofNat z.toNat), rfl, ⟨by simp [hlz], hl, fun h0 => ⟨a, rfl, ?_, fun j u hu => ?_⟩, by simp⟩, ?_⟩
    · have := World.block_lt_of_cell? W _ (hcell 0 (by omega))
      rwa [add_block] at this
    · obtain ⟨hj, hu⟩ := List.getElem?_eq_some_iff.1 hu
      have hj' : j < len := by simpa [Lib.byteCells, hlz] using hj
      rw [hcell j (by omega), ← hu]
      simp only [Lib.byteCells, List.getElem_map, List.getElem_take]
      rw [hd j hj', show zs.getD j 0 = zs[j]'(by omega) by simp [List.getD, List.getElem?_eq_getElem (show j < zs.length by omega)]]
    · simp only [Rows.uptoBulk]
      have h1 := bulk_length (H := H) (lits .u8 (zs.take len))
      simp only [lits, List.length_map, List.length_take] at h1 ⊢
      omega

set_option maxRecDepth 100000 in
theorem open_op {n : Nat} {a : Addr} {cs : List Value} {x : DataW H × List MemPlace} (h1 : W.cells? 0 a 5 = some cs) (h2 : DataW.trod enc Tryz.prog W 0 spare held n 40 cs = some x) :
    ∃ (o : OpA) (sb : Option Addr) (m c : Nat), W.cell? a = some (.int .i64 o.kind) ∧ W.cell? ⟨a.block, a.off + 1, none⟩ = some (.string o.name) ∧ W.cell? ⟨a.block, a.off + 2, none⟩ = some (.int .i64 o.N) ∧ W.cell? ⟨a.block, a.off + 3, none⟩ = some (.int .i64 o.bit) ∧ W.cell? ⟨a.block, a.off + 4, none⟩ = some (.slice sb m c) ∧ Shows W sb m c o.data ∧ m ≤ Rows.uptoBulk x.1 := by
  obtain ⟨xs, k, rfl, rfl, hl, hxs, hf⟩ := DataW.trod_struct Tryz.underlying40 h2
  have hm : (List.range 5).mapM (fun i => W.cell? (a.add i)) = some cs := by
    simpa [World.cells?] using h1
  have g : ∀ i, i < 5 → W.cell? (a.add i) = cs[i]? := fun i hi => mapM_some_get hm i i (by simp [hi])
  rw [cells40] at hl
  match cs, hl with
  | [v0, v1, v2, v3, v4], _ =>
  have g0 := g 0 (by omega)
  have g1 := g 1 (by omega)
  have g2 := g 2 (by omega)
  have g3 := g 3 (by omega)
  have g4 := g 4 (by omega)
  simp at g0 g1 g2 g3 g4
  have hsp := World.cell?_spot g0
  have f0 := hf 0 _ rfl
  have f1 := hf 1 _ rfl
  have f2 := hf 2 _ rfl
  have f3 := hf 3 _ rfl
  have f4 := hf 4 _ rfl
  simp [cells3, cells9, cells31] at f0 f1 f2 f3 f4
  have hx5 : xs.length = 5 := by simpa using hxs
  have hx4 : xs[4]? = some (xs[4]'(by omega)) := List.getElem?_eq_getElem (by omega)
  rw [List.getElem?_eq_getElem (by omega)] at f0 f1 f2 f3 f4
  obtain ⟨n0, e0, _, _⟩ := DataW.trod_int Tryz.underlying3 f0
  obtain ⟨s1, e1, _, _⟩ := DataW.trod_string Tryz.underlying9 f1
  obtain ⟨n2, e2, _, _⟩ := DataW.trod_int Tryz.underlying3 f2
  obtain ⟨n3, e3, _, _⟩ := DataW.trod_int Tryz.underlying3 f3
  obtain ⟨sb, m, c, d, rfl, hs, hmb⟩ := open_data f4
  simp at e0 e1 e2 e3
  subst e0
  subst e1
  subst e2
  subst e3
  obtain ⟨b, off, spot⟩ := a
  obtain rfl : spot = none := hsp
  rw [add_plain] at g1 g2 g3 g4
  refine ⟨⟨n0, s1, n2, n3, d⟩, sb, m, c, by simpa [Addr.add] using g0, g1, g2, g3, g4, hs, Nat.le_trans hmb ?_⟩
  simp only [Rows.uptoBulk]
  have := bulk_part (H := H) (d := (xs[4]'(by omega)).1) (l := xs.map (·.1)) (List.mem_map.2 ⟨_, List.getElem_mem _, rfl⟩)
  omega

set_option maxRecDepth 100000 in
/-- a script that came in. -/
theorem open_ops {v : Value} {d : DataW H} {ps : List MemPlace} {base : Nat} (hval : Value.okWide Tryz.prog W .any base 22 v) (h : DataW.Trod enc Tryz.prog W 0 spare held 22 v d ps) (hk : Rows.uptoBulk d ≤ 1048576) :
    ∃ (sa : Option Addr) (ca : Nat) (l : List OpA), v = .slice sa l.length ca ∧ OpsAt W sa l ∧ l.length ≤ 1048576 := by
  obtain ⟨a0, len, cap, rfl⟩ := okWide_slice Tryz.underlying22 hval
  obtain ⟨fuel, hf⟩ := h
  rcases open_slice Tryz.underlying22 hf with ⟨hcs, hx⟩ | ⟨a, len', cap', m, n, D, Pl, hcs, _, hl, hm, hmm, hx, hall⟩
  · simp [Value.cells] at hcs
    obtain ⟨rfl, rfl, rfl⟩ := hcs
    exact ⟨none, 0, [], rfl, ⟨fun k hk => by simp at hk⟩, Nat.zero_le _⟩
  · simp [Value.cells] at hcs
    obtain ⟨rfl, rfl, rfl⟩ := hcs
    rw [cells40] at hx hall
    obtain ⟨rfl, -⟩ := Prod.mk.inj hx
    have hlm : len ≤ m := by rw [hmm]; split <;> omega
    have hb1 : Rows.uptoBulkAll ((List.range len).map D) ≤ 1048576 := by
      simp only [Rows.uptoBulk] at hk
      omega
    have hlen2 := bulk_length ((List.range len).map D)
    simp only [List.length_map, List.length_range] at hlen2
    have each : ∀ i, i < len → ∃ o : OpA × Option Addr × Nat × Nat, W.cell? (a.add (i * 5)) = some (.int .i64 o.1.kind) ∧ W.cell? ⟨(a.add (i * 5)).block, (a.add (i * 5)).off + 1, none⟩ = some (.string o.1.name) ∧ W.cell? ⟨(a.add (i * 5)).block, (a.add (i * 5)).off + 2, none⟩ = some (.int .i64 o.1.N) ∧ W.cell? ⟨(a.add (i * 5)).block, (a.add (i * 5)).off + 3, none⟩ = some (.int .i64 o.1.bit) ∧ W.cell? ⟨(a.add (i * 5)).block, (a.add (i * 5)).off + 4, none⟩ = some (.slice o.2.1 o.2.2.1 o.2.2.2) ∧ Shows W o.2.1 o.2.2.1 o.2.2.2 o.1.data ∧ o.2.2.1 ≤ 1073741824 := fun i hi => by
      obtain ⟨cs', h1, h2⟩ := hall i (by omega)
      obtain ⟨o, sb, m, c, c0, c1, c2, c3, c4, hs, hmb⟩ := open_op h1 h2
      have h3 := bulk_part (H := H) (d := D i) (l := (List.range len).map D) (List.mem_map.2 ⟨i, List.mem_range.2 hi, rfl⟩)
      exact ⟨(o, sb, m, c), c0, c1, c2, c3, c4, hs, by show m ≤ 1073741824; simp only at hmb; omega⟩
    haveI : Inhabited (OpA × Option Addr × Nat × Nat) := ⟨⟨0, ⟨#[]⟩, 0, 0, []⟩, none, 0, 0⟩
    obtain ⟨f, hf⟩ := choose_lt each
    have hlen : ((List.range len).map fun i => (f i).1).length = len := by simp
    refine ⟨some a, cap, (List.range len).map fun i => (f i).1, by rw [hlen], ⟨fun k hk => ?_⟩, by rw [hlen]; omega⟩
    rw [hlen] at hk
    obtain ⟨c0, c1, c2, c3, c4, hs, hmb⟩ := hf k hk
    refine ⟨a, (f k).2.1, (f k).2.2.1, (f k).2.2.2, rfl, ?_, by simpa using c0, by simpa using c1, by simpa using c2, by simpa using c3, c4, by simpa using hs, hmb⟩
    have := World.block_lt_of_cell? W _ c0
    rwa [add_block] at this
end
end Go.Proofs.YtcpncfngadablaaGreatDoor
namespace Go.Proofs.YtcpncfngadablaaGreatDoor
open Go.ChangeShapes Go.WideShapes Go.ChangeAt Go.RowKit Go.Deep

theorem cells182 : Tryz.prog.cellsOf 206 = 1 := by kernel_rfl
theorem star : "*" ++ "errors.errorString" = "*errors.errorString" := by decide
theorem row158 (u : TypeId) (h : Tryz.prog.typeName? 3 u = some "*errors.errorString") : u = 183 :=
  typeName_ptr_named (nm := "errors.errorString") (by rw [star]; kernel_rfl) (by kernel_rfl) (by decide) u (by rw [star]; exact h)


set_option maxRecDepth 100000 in
theorem laid_step {W : World} {n : String} {i : Nat} {text : List UInt8} {r : List (String × DataW Unit)} {ps all : List MemPlace} (hg : Tryz.prog.globalNamed n = some i) (ht : (Tryz.prog.globals[i]?).map (·.type) = some 75)
    (h : DataW.LaidVars Tryz.prog W ((n, .iface "*errors.errorString" (.ptr (.agg [.lit (.string text)]))) :: r) ps) (hsub : ∀ x ∈ ps, x ∈ all)
    (hrows : ∀ b off, MemPlace.cell b off ∈ all → (∃ c t, W.heap[b]? = some (.cells c t (0, 0))) ∧ ∀ u v, W.cell? ⟨b, off, none⟩ = some (.iface u v) → Value.okWide Tryz.prog W .any 0 u v) :
    ∃ (a : Addr) (q : List MemPlace), W.cell? ⟨i, 0, none⟩ = some (.iface 183 (.pointer (some a))) ∧ (∃ c t, W.heap[a.block]? = some (.cells c t (0, 0))) ∧ a.spot = none ∧ DataW.LaidVars Tryz.prog W r q ∧ ps = .cell i 0 :: .cell a.block a.off :: q := by
  obtain ⟨g, t, cs, f, p, q, hg0, ht0, hv0, hd0, hr, e⟩ := h
  obtain rfl := Option.some.inj (hg.symm.trans hg0)
  obtain rfl := Option.some.inj (ht.symm.trans ht0)
  obtain ⟨l0⟩ := cs
  have ok0 : ∀ u v, l0 = [.iface u v] → Value.okWide Tryz.prog W .any 0 u v := fun u v el => by
    subst el
    exact (hrows i 0 (hsub _ (by rw [e]; simp [MemPlace.row]))).2 u v (by simpa using World.var?_cell hg0 hv0 0)
  obtain ⟨a, s, rfl, hc, _, _, rfl⟩ := errorString_of_trod Tryz.underlying75 row158 Tryz.underlying183 Tryz.underlying206 rfl rfl Tryz.underlying9 cells182 cells9 hd0 ok0
  have hsp := World.cell?_spot hc
  have hps : ps = .cell i 0 :: .cell a.block a.off :: q := by rw [e]; simp [MemPlace.row]
  exact ⟨a, q, by simpa using World.var?_cell hg0 hv0 0, (hrows a.block a.off (hsub _ (by rw [hps]; simp))).1, hsp, hr, hps⟩

set_option maxRecDepth 100000 in
/-- the eleven errors of the package, as the row's list gives them. -/
theorem sents_of_laid {W : World} (h0 : laidMetH Tryz.prog Rows.diskFreshUptoRow.laid W) : ∃ E, Env W W.heap.size E := by
  have h : laidMet Tryz.prog Rows.diskFreshUptoRow.laid W := h0
  obtain ⟨ps, hl0, hnd, hrows⟩ := h
  obtain ⟨a0, q0, v0, o0, s0, hl1, e0⟩ := laid_step (W := W) (i := 0) (by kernel_rfl) (by kernel_rfl) hl0 (fun x hx => hx) hrows
  obtain ⟨a1, q1, v1, o1, s1, hl2, e1⟩ := laid_step (W := W) (i := 1) (by kernel_rfl) (by kernel_rfl) hl1 (fun x hx => by rw [e0]; simp [hx]) hrows
  obtain ⟨a2, q2, v2, o2, s2, hl3, e2⟩ := laid_step (W := W) (i := 2) (by kernel_rfl) (by kernel_rfl) hl2 (fun x hx => by rw [e0, e1]; simp [hx]) hrows
  obtain ⟨a3, q3, v3, o3, s3, hl4, e3⟩ := laid_step (W := W) (i := 3) (by kernel_rfl) (by kernel_rfl) hl3 (fun x hx => by rw [e0, e1, e2]; simp [hx]) hrows
  obtain ⟨a4, q4, v4, o4, s4, hl5, e4⟩ := laid_step (W := W) (i := 4) (by kernel_rfl) (by kernel_rfl) hl4 (fun x hx => by rw [e0, e1, e2, e3]; simp [hx]) hrows
  obtain ⟨a5, q5, v5, o5, s5, hl6, e5⟩ := laid_step (W := W) (i := 5) (by kernel_rfl) (by kernel_rfl) hl5 (fun x hx => by rw [e0, e1, e2, e3, e4]; simp [hx]) hrows
  obtain ⟨a6, q6, v6, o6, s6, hl7, e6⟩ := laid_step (W := W) (i := 6) (by kernel_rfl) (by kernel_rfl) hl6 (fun x hx => by rw [e0, e1, e2, e3, e4, e5]; simp [hx]) hrows
  obtain ⟨a7, q7, v7, o7, s7, hl8, e7⟩ := laid_step (W := W) (i := 7) (by kernel_rfl) (by kernel_rfl) hl7 (fun x hx => by rw [e0, e1, e2, e3, e4, e5, e6]; simp [hx]) hrows
  obtain ⟨a8, q8, v8, o8, s8, hl9, e8⟩ := laid_step (W := W) (i := 8) (by kernel_rfl) (by kernel_rfl) hl8 (fun x hx => by rw [e0, e1, e2, e3, e4, e5, e6, e7]; simp [hx]) hrows
  obtain ⟨a9, q9, v9, o9, s9, hl10, e9⟩ := laid_step (W := W) (i := 9) (by kernel_rfl) (by kernel_rfl) hl9 (fun x hx => by rw [e0, e1, e2, e3, e4, e5, e6, e7, e8]; simp [hx]) hrows
  obtain ⟨a10, q10, v10, o10, s10, hl11, e10⟩ := laid_step (W := W) (i := 10) (by kernel_rfl) (by kernel_rfl) hl10 (fun x hx => by rw [e0, e1, e2, e3, e4, e5, e6, e7, e8, e9]; simp [hx]) hrows
  rw [e0, e1, e2, e3, e4, e5, e6, e7, e8, e9, e10] at hnd
  have hsub : ([a0, a1, a2, a3, a4, a5, a6, a7, a8, a9, a10].map fun a => MemPlace.cell a.block a.off).Nodup := List.Nodup.sublist (.cons _ (.cons_cons _ (.cons _ (.cons_cons _ (.cons _ (.cons_cons _ (.cons _ (.cons_cons _ (.cons _ (.cons_cons _ (.cons _ (.cons_cons _ (.cons _ (.cons_cons _ (.cons _ (.cons_cons _ (.cons _ (.cons_cons _ (.cons _ (.cons_cons _ (.cons _ (.cons_cons _ (List.nil_sublist _))))))))))))))))))))))) hnd
  have hL : [a0, a1, a2, a3, a4, a5, a6, a7, a8, a9, a10].Nodup := (List.pairwise_map.1 hsub).imp (fun {a b} hab e => hab (by rw [e]))
  have hne : ∀ i j : Nat, i < 11 → j < 11 → (fun k => #[a0, a1, a2, a3, a4, a5, a6, a7, a8, a9, a10].getD k a0) i = (fun k => #[a0, a1, a2, a3, a4, a5, a6, a7, a8, a9, a10].getD k a0) j → i = j := fun i j hi hj e => by
    have e1 : ∀ k (hk : k < 11), #[a0, a1, a2, a3, a4, a5, a6, a7, a8, a9, a10].getD k a0 = [a0, a1, a2, a3, a4, a5, a6, a7, a8, a9, a10][k]'(by simpa using hk) := fun k hk => by simp [Array.getD, hk]
    simp only [e1 i hi, e1 j hj] at e
    have hp := List.pairwise_iff_getElem.1 hL
    rcases Nat.lt_trichotomy i j with h | h | h
    · exact absurd e (hp i j _ _ h)
    · exact h
    · exact absurd e.symm (hp j i _ _ h)
  refine ⟨fun k => #[a0, a1, a2, a3, a4, a5, a6, a7, a8, a9, a10].getD k a0, ⟨⟨fun i hi => ?_, fun i hi => ?_, hne⟩, ?_, fun i hi => ?_, Nat.le_refl _⟩⟩
  · match i, hi with
    | 0, _ => exact v0
    | 1, _ => exact v1
    | 2, _ => exact v2
    | 3, _ => exact v3
    | 4, _ => exact v4
    | 5, _ => exact v5
    | 6, _ => exact v6
    | 7, _ => exact v7
    | 8, _ => exact v8
    | 9, _ => exact v9
    | 10, _ => exact v10
  · match i, hi with
    | 0, _ => exact o0
    | 1, _ => exact o1
    | 2, _ => exact o2
    | 3, _ => exact o3
    | 4, _ => exact o4
    | 5, _ => exact o5
    | 6, _ => exact o6
    | 7, _ => exact o7
    | 8, _ => exact o8
    | 9, _ => exact o9
    | 10, _ => exact o10
  · have := World.block_lt_of_cell? W _ v10
    exact this
  · match i, hi with
    | 0, _ => exact (by obtain ⟨c, t, ho⟩ := o0; exact lt_of_block ho)
    | 1, _ => exact (by obtain ⟨c, t, ho⟩ := o1; exact lt_of_block ho)
    | 2, _ => exact (by obtain ⟨c, t, ho⟩ := o2; exact lt_of_block ho)
    | 3, _ => exact (by obtain ⟨c, t, ho⟩ := o3; exact lt_of_block ho)
    | 4, _ => exact (by obtain ⟨c, t, ho⟩ := o4; exact lt_of_block ho)
    | 5, _ => exact (by obtain ⟨c, t, ho⟩ := o5; exact lt_of_block ho)
    | 6, _ => exact (by obtain ⟨c, t, ho⟩ := o6; exact lt_of_block ho)
    | 7, _ => exact (by obtain ⟨c, t, ho⟩ := o7; exact lt_of_block ho)
    | 8, _ => exact (by obtain ⟨c, t, ho⟩ := o8; exact lt_of_block ho)
    | 9, _ => exact (by obtain ⟨c, t, ho⟩ := o9; exact lt_of_block ho)
    | 10, _ => exact (by obtain ⟨c, t, ho⟩ := o10; exact lt_of_block ho)
end Go.Proofs.YtcpncfngadablaaGreatDoor
namespace Go.Proofs.YtcpncfngadablaaGreatDoor
open Go.RowKit Go.Deep
section
variable {w w' : World} {E : Nat → Addr} {lo p mf mt : Nat} {D : DiskC} {fv : Value} {l : List SFile}
theorem BlocksAt.sliceL {B : Nat} {sv : Value} {bs : List Nat} {blocks : List (List UInt8)} (h : BlocksAt w B sv bs blocks) : ∃ a c, sv = .slice a blocks.length c := by
  by_cases h0 : blocks.length = 0
  · rw [h0]; exact h.slice0 h0
  · obtain ⟨g, c, e⟩ := h.slice1 h0
    exact ⟨_, c, e⟩
theorem row_form {n : Nat} (h : w.ownsRow n 71 3 fv l.length (l.flatMap SFile.cells)) (hl : 0 < l.length) : ∃ G gc, fv = .slice (some ⟨G, 0, none⟩) l.length gc ∧ n ≤ G ∧ G < w.heap.size := by
  rcases h.2 with ⟨_, h0⟩ | ⟨g, cap, cur, hv, hb, hg, _⟩
  · omega
  · exact ⟨g, cap, hv, hb, lt_of_block hg⟩
theorem row_slice {n : Nat} (h : w.ownsRow n 71 3 fv l.length (l.flatMap SFile.cells)) : ∃ a c, fv = .slice a l.length c := by
  rcases h.2 with ⟨h1, h0⟩ | ⟨g, cap, cur, hv, hb, hg, _⟩
  · exact ⟨none, 0, by rw [h0]; exact h1⟩
  · exact ⟨_, cap, hv⟩
theorem row_cells {n G gc k : Nat} (h : w.ownsRow n 71 3 fv l.length (l.flatMap SFile.cells)) (hv : fv = .slice (some ⟨G, 0, none⟩) l.length gc) (hk : k < l.length) : w.cell? ⟨G, k * 3, none⟩ = some (encStr l[k].name) ∧ w.cell? ⟨G, k * 3 + 1, none⟩ = some (.bool l[k].file.shut) ∧ w.cell? ⟨G, k * 3 + 2, none⟩ = some l[k].sv := by
  have hadd : ∀ i, (⟨G, 0, none⟩ : Addr).add i = ⟨G, i, none⟩ := fun i => by unfold Addr.add; split <;> simp_all
  have he : l[k]? = some l[k] := List.getElem?_eq_getElem hk
  have hc := h.cells (g := G) (by rw [hv]; rfl)
  have c0 := hc (3 * k) (encStr l[k].name) (by have := flat3 k 0 _ he (by omega); simpa [SFile.cells] using this)
  have c1 := hc (3 * k + 1) (.bool l[k].file.shut) (by have := flat3 k 1 _ he (by omega); simpa [SFile.cells] using this)
  have c2 := hc (3 * k + 2) l[k].sv (by have := flat3 k 2 _ he (by omega); simpa [SFile.cells] using this)
  rw [hadd, Nat.mul_comm] at c0 c1 c2
  exact ⟨c0, c1, c2⟩
theorem row_below {n : Nat} {cs : List Value} {k : Nat} (h : w.ownsRow n 71 3 fv k cs) (hb : Below w.heap.size w w') : w'.ownsRow n 71 3 fv k cs := by
  refine ⟨h.1, ?_⟩
  rcases h.2 with hn | ⟨g, cap, cur, hv, hb', hg, rest⟩
  · exact .inl hn
  · exact .inr ⟨g, cap, cur, hv, hb', (hb.block g (lt_of_block hg)).trans hg, rest⟩

end
end Go.Proofs.YtcpncfngadablaaGreatDoor
