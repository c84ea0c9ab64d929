import Derived.Test.YtcpncfngadablaaDoorE9
namespace Go.Proofs.YtcpncfngadablaaDoor
open Go.RowKit Go.Deep

theorem field_B (B : Int) (v1 v2 : Value) (W : World) : (Instr.field 29 (.agg #[.int .i64 B, v1, v2]) 0).run Tryd.prog W = .ok (.int .i64 B) W := by
  simp [Instr.field, run_underlying Tryd.underlying29, go_sem, asAgg]
theorem field_Used (c : Cnt) (W : World) : (Instr.field 34 c.val 5).run Tryd.prog W = .ok (.int .i64 c.used) W := by
  unfold Cnt.val
  simp [Instr.field, run_underlying Tryd.underlying34, go_sem, asAgg]

section
variable {w w' : World} {E : Nat → Addr} {lo p mf mt : Nat} {D : DiskC}

/-- a script, as a slice shows it. -/
structure OpsAt (w : World) (sa : Option Addr) (l : List OpA) : Prop where
  at_ : ∀ k (hk : k < l.length), ∃ a sb m c, sa = some a ∧ a.block < w.heap.size ∧ w.cell? (a.add (k * 5)) = some (.int .i64 l[k].kind) ∧ w.cell? ⟨(a.add (k * 5)).block, (a.add (k * 5)).off + 1, none⟩ = some (.string l[k].name) ∧ w.cell? ⟨(a.add (k * 5)).block, (a.add (k * 5)).off + 2, none⟩ = some (.int .i64 l[k].N) ∧ w.cell? ⟨(a.add (k * 5)).block, (a.add (k * 5)).off + 3, none⟩ = some (.int .i64 l[k].bit) ∧ w.cell? ⟨(a.add (k * 5)).block, (a.add (k * 5)).off + 4, none⟩ = some (.slice sb m c) ∧ Shows w sb m c l[k].data ∧ m ≤ 1073741824

/-- what holds behind t steps of a disk in memory. -/
structure Runs (w : World) (lo p mf mt B t : Nat) (D : DiskC) : Prop where
  rep : Rep w lo p mf mt D
  T : D.T = .map []
  inv : Inv t D.pub
  B : D.B = B

theorem Runs.keys {B t : Nat} (h : Runs w lo p mf mt B t D) : D.pub.files.Pairwise fun a b => a.1 ≠ b.1 := by
  show (D.ents.map Ent.pub).Pairwise _
  rw [List.pairwise_map]
  exact h.rep.uniq

theorem Runs.step {B t : Nat} (h : Runs w lo p mf mt B t D) (o : OpA) {w2 : World} (hd : Did w w2 lo p mf mt D (stepA o D.pub).2) : ∃ D', Runs w2 lo p mf mt B (t + 1) D' ∧ D'.pub = (stepA o D.pub).2 ∧ Touch (D.foot p mf mt) w w2 ∧ ∀ b ∈ D'.foot p mf mt, b ∈ D.foot p mf mt ∨ w.heap.size ≤ b := by
  obtain ⟨D', R', hp, hT, ht, hf⟩ := hd
  refine ⟨D', ⟨R', hT, ?_, ?_⟩, hp, ht, hf⟩
  · rw [hp]
    exact h.inv.step h.keys o
  · have h1 : D'.pub.B = (stepA o D.pub).2.B := by rw [hp]
    rw [(step_size o D.pub).1] at h1
    have h2 : D'.B = D.B := h1
    rw [h2, h.B]

/-- 'program' on it. -/
theorem Runs.program {B t : Nat} (h : Runs w lo p mf mt B t D) (V : Env w lo E) (ht : t + 1 ≤ 1099511627776) (o : OpA) {sa : Option Addr} {n c : Nat} (hd : Shows w sa n c o.data) (hn : n ≤ 1073741824) :
    Calls Tryd.prog 7 #[ptr p, opV o.kind o.name o.N o.bit sa n c, .int .i64 B] w fun e w' => ∃ v D', e = .returned (.tuple #[v, .bool true]) ∧ ToldAt w' w.heap.size (stepA o D.pub).1 v ∧ Runs w' lo p mf mt B (t + 1) D' ∧ D'.pub = (stepA o D.pub).2 ∧ Touch (D.foot p mf mt) w w' ∧ ∀ b ∈ D'.foot p mf mt, b ∈ D.foot p mf mt ∨ w.heap.size ≤ b := by
  have hc := h.inv.calls
  have h1 := program_any V h.rep h.T h.inv.on (h.inv.small (by omega)) (by simp only [DiskC.pub] at hc; omega) o hd hn
  rw [h.B] at h1
  refine h1.mono fun e w2 ⟨v, e1, e2, e3⟩ => ?_
  obtain ⟨D', r1, r2, r3, r4⟩ := h.step o e3
  exact ⟨v, D', e1, e2, r1, r2, r3, r4⟩

theorem Runs.touch {B t : Nat} (h : Runs w lo p mf mt B t D) (ht : Touch [] w w') : Runs w' lo p mf mt B t D := ⟨h.rep.touch ht (by simp), h.T, h.inv, h.B⟩

theorem below_foot {base : Nat} {w0 w1 w2 : World} {F : List Nat} (h : Below base w0 w1) (ht : Touch F w1 w2) (hF : ∀ b ∈ F, base ≤ b) (hs : base ≤ w1.heap.size) : Below base w0 w2 := h.trans (ht.below hs hF)

theorem add_block (a : Addr) (j : Nat) : (a.add j).block = a.block := by unfold Addr.add; split <;> rfl

/-- the k-th operation, read in a later world. -/
theorem OpsAt.read {sa : Option Addr} {l : List OpA} (h : OpsAt w sa l) {k : Nat} (hk : k < l.length) (hb : Below w.heap.size w w') : ∃ a sb m c, sa = some a ∧ w'.cell? (a.add (k * 5)) = some (.int .i64 l[k].kind) ∧ w'.cell? ⟨(a.add (k * 5)).block, (a.add (k * 5)).off + 1, none⟩ = some (.string l[k].name) ∧ w'.cell? ⟨(a.add (k * 5)).block, (a.add (k * 5)).off + 2, none⟩ = some (.int .i64 l[k].N) ∧ w'.cell? ⟨(a.add (k * 5)).block, (a.add (k * 5)).off + 3, none⟩ = some (.int .i64 l[k].bit) ∧ w'.cell? ⟨(a.add (k * 5)).block, (a.add (k * 5)).off + 4, none⟩ = some (.slice sb m c) ∧ Shows w' sb m c l[k].data ∧ m ≤ 1073741824 ∧ a.block < w.heap.size := by
  obtain ⟨a, sb, m, c, e, hblk, c0, c1, c2, c3, c4, hs, hm⟩ := h.at_ k hk
  have hc : ∀ q : Addr, q.block = (a.add (k * 5)).block → w'.cell? q = w.cell? q := fun q hq => hb.cell (by rw [hq, add_block]; exact hblk)
  exact ⟨a, sb, m, c, e, (hc _ rfl).trans c0, (hc ⟨(a.add (k * 5)).block, (a.add (k * 5)).off + 1, none⟩ rfl).trans c1, (hc ⟨(a.add (k * 5)).block, (a.add (k * 5)).off + 2, none⟩ rfl).trans c2, (hc ⟨(a.add (k * 5)).block, (a.add (k * 5)).off + 3, none⟩ rfl).trans c3, (hc ⟨(a.add (k * 5)).block, (a.add (k * 5)).off + 4, none⟩ rfl).trans c4, hs.touch (Touch.of_below (F := []) hb (Nat.le_refl _)) (by simp), hm, hblk⟩

theorem inv_new {B : Nat} (h1 : 64 ≤ B) (h2 : B ≤ 65536) : Inv 0 (DiskC.new B 1099511627776).pub := ⟨rfl, ⟨h1, h2⟩, rfl, by simp [DiskC.new, DiskC.pub], by simp [DiskC.new, DiskC.pub], by simp [DiskC.new, DiskC.pub], by simp [DiskC.new, DiskC.pub], by simp [DiskC.new, DiskC.pub, total], by simp [DiskC.new, DiskC.pub, total], by simp [DiskC.new, DiskC.pub], by simp [DiskC.new, DiskC.pub]⟩

theorem used_total (l : List SFile) : usedN l l.length = total (l.map SFile.pub) := by
  unfold usedN total
  rw [List.take_length, List.map_map]
  rfl

theorem Runs.good {B t : Nat} {l : List SFile} (h : Runs w lo p mf mt B t D) (hl : l.map SFile.pub = D.ents.map Ent.pub) (ht : t ≤ 1099511627776) : GoodL l ∧ (usedN l l.length : Int) = D.c.used ∧ usedN l l.length ≤ t := by
  have hu : usedN l l.length = total D.pub.files := by rw [used_total, hl]; rfl
  have h1 := h.inv.used
  have h2 := h.inv.total
  have h3 := h.inv.few
  have hlen : l.length = D.ents.length := by simpa using congrArg List.length hl
  have h4 : D.pub.files.length = D.ents.length := by simp [DiskC.pub]
  refine ⟨⟨?_, ?_, by omega, by omega⟩, ?_, by omega⟩
  · intro e he
    have : e.pub ∈ D.pub.files := by
      show e.pub ∈ D.ents.map Ent.pub
      rw [← hl]
      exact List.mem_map_of_mem he
    exact h.inv.names _ this
  · have hr := h.rep.rising
    have e1 : (l.map SFile.pub).Pairwise fun a b => bytesBefore a.1 b.1 = true := by
      rw [hl, List.pairwise_map]
      exact hr
    rw [List.pairwise_map] at e1
    exact e1
  · rw [hu]
    exact h1.symm

/-- the mounted disk: it holds the same. -/
theorem Runs.mounted {B t : Nat} {l : List SFile} {w2 : World} {lo2 p2 mf2 mt2 : Nat} {D2 : DiskC} (h : Runs w lo p mf mt B t D) (hl : l.map SFile.pub = D.ents.map Ent.pub) (ht : t ≤ 1099511627776) (R2 : Rep w2 lo2 p2 mf2 mt2 D2) (hp : D2.pub = mountA B 1099511627776 l l.length) (hT : D2.T = .map []) (hlo : lo ≤ lo2) :
    Runs w2 lo p2 mf2 mt2 B t D2 ∧ Like D.c D.pub D2.pub ∧ D2.c = ⟨0, 0, 0, 0, 0, D.c.used, D.c.used⟩ := by
  obtain ⟨g1, g2, g3⟩ := h.good hl ht
  have hf : D2.pub.files = D.pub.files := by
    rw [hp]
    show (l.take l.length).map SFile.pub = D.ents.map Ent.pub
    rw [List.take_length, hl]
  have hc : D2.c = ⟨0, 0, 0, 0, 0, D.c.used, D.c.used⟩ := by
    have : D2.pub.c = (mountA B 1099511627776 l l.length).c := by rw [hp]
    have e : D2.c = (mountA B 1099511627776 l l.length).c := this
    rw [e]
    simp only [mountA, g2]
  have hB : D2.pub.B = B := by rw [hp]; rfl
  have hBs : D2.pub.Bs = 1099511627776 := by rw [hp]; rfl
  have hon : D2.pub.on = true := by rw [hp]; rfl
  have hcp : D2.pub.c = ⟨0, 0, 0, 0, 0, D.c.used, D.c.used⟩ := hc
  have i1 := h.inv
  refine ⟨⟨R2.lower hlo, hT, ⟨hon, by rw [hB, ← h.B]; exact i1.size, hBs, by rw [hcp]; simp, by rw [hcp]; simp, by rw [hcp]; simp, by rw [hcp]; simp, by rw [hcp, hf]; exact i1.used, by rw [hf]; exact i1.total, by rw [hf]; exact i1.few, by rw [hf]; exact i1.names⟩, hB⟩, ⟨?_, ?_, ?_, hf.symm, ?_, ?_, ?_, ?_⟩, hc⟩
  · rw [hB]
    exact h.B
  · rw [hBs]
    exact i1.Bs
  · rw [hon]
    exact i1.on
  · rw [hcp]
    rfl
  · rw [hcp]
    show D.c.calls - D.c.calls = 0
    omega
  · rw [hcp]
    show D.c.reads - D.c.reads = 0
    omega
  · rw [hcp]
    show D.c.appends - D.c.appends = 0
    omega
end
end Go.Proofs.YtcpncfngadablaaDoor
