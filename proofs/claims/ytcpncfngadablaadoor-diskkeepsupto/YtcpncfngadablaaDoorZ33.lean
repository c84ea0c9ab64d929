import Derived.Test.YtcpncfngadablaaDoorZ20
import Derived.Test.YtcpncfngadablaaDoorZ25
import Derived.Test.YtcpncfngadablaaDoorZ26
import Derived.Test.YtcpncfngadablaaDoorZ27
import Derived.Test.YtcpncfngadablaaDoorZ32
namespace Go.Proofs.YtcpncfngadablaaDoor
open Go.RowKit Go.Deep

def Cnt.row (c : Cnt) : Array Value := #[.int .i64 c.calls, .int .i64 c.reads, .int .i64 c.appends, .int .i64 c.faults, .int .i64 c.full, .int .i64 c.used, .int .i64 c.most]

/-- two disks in memory, apart, that hold the same; and the box of the counts. -/
structure Both (w : World) (lo p mf mt p2 mf2 mt2 B t wb : Nat) (x : Cnt) (D D2 : DiskC) : Prop where
  d : Runs w lo p mf mt B t D
  c : Runs w lo p2 mf2 mt2 B t D2
  like : Like x D.pub D2.pub
  apart : ∀ b ∈ D.foot p mf mt, b ∉ D2.foot p2 mf2 mt2
  box : w.heap[wb]? = some (.cells x.row 34 (0, 0))
  box1 : wb ∉ D.foot p mf mt
  box2 : wb ∉ D2.foot p2 mf2 mt2

/-- .. where the first is one step ahead. -/
structure Mid (w : World) (lo p mf mt p2 mf2 mt2 B t wb : Nat) (x : Cnt) (o : OpA) (A : PubA) (D D2 : DiskC) : Prop where
  d : Runs w lo p mf mt B (t + 1) D
  c : Runs w lo p2 mf2 mt2 B t D2
  pub : D.pub = (stepA o A).2
  like : Like x A D2.pub
  apart : ∀ b ∈ D.foot p mf mt, b ∉ D2.foot p2 mf2 mt2
  box : w.heap[wb]? = some (.cells x.row 34 (0, 0))
  box1 : wb ∉ D.foot p mf mt
  box2 : wb ∉ D2.foot p2 mf2 mt2

section
variable {w w' : World} {lo p mf mt p2 mf2 mt2 B t wb : Nat} {x : Cnt} {o : OpA} {A : PubA} {D D2 D' : DiskC}

theorem Runs.more (h : Runs w lo p mf mt B t D) : Runs w lo p mf mt B (t + 1) D := ⟨h.rep, h.T, h.inv.more, h.B⟩
theorem Both.more (h : Both w lo p mf mt p2 mf2 mt2 B t wb x D D2) : Both w lo p mf mt p2 mf2 mt2 B (t + 1) wb x D D2 := ⟨h.d.more, h.c.more, h.like, h.apart, h.box, h.box1, h.box2⟩
theorem Both.touch (h : Both w lo p mf mt p2 mf2 mt2 B t wb x D D2) (ht : Touch [] w w') : Both w' lo p mf mt p2 mf2 mt2 B t wb x D D2 := ⟨h.d.touch ht, h.c.touch ht, h.like, h.apart, kept_row h.box ht (by simp), h.box1, h.box2⟩
theorem Mid.touch (h : Mid w lo p mf mt p2 mf2 mt2 B t wb x o A D D2) (ht : Touch [] w w') : Mid w' lo p mf mt p2 mf2 mt2 B t wb x o A D D2 := ⟨h.d.touch ht, h.c.touch ht, h.pub, h.like, h.apart, kept_row h.box ht (by simp), h.box1, h.box2⟩

theorem Both.mid (h : Both w lo p mf mt p2 mf2 mt2 B t wb x D D2) (hr : Runs w' lo p mf mt B (t + 1) D') (hp : D'.pub = (stepA o D.pub).2) (ht : Touch (D.foot p mf mt) w w') (hf : ∀ b ∈ D'.foot p mf mt, b ∈ D.foot p mf mt ∨ w.heap.size ≤ b) :
    Mid w' lo p mf mt p2 mf2 mt2 B t wb x o D.pub D' D2 := by
  refine ⟨hr, ⟨h.c.rep.touch ht (fun b hb hd => h.apart b hd hb), h.c.T, h.c.inv, h.c.B⟩, hp, h.like, fun b hb hb2 => ?_, kept_row h.box ht h.box1, fun hb => ?_, h.box2⟩
  · rcases hf b hb with h1 | h1
    · exact h.apart b h1 hb2
    · have := h.c.rep.lt b hb2
      omega
  · rcases hf wb hb with h1 | h1
    · exact h.box1 h1
    · have := lt_of_block h.box
      omega

theorem Mid.both (h : Mid w lo p mf mt p2 mf2 mt2 B t wb x o A D D2) (ho : o.kind ≠ 8) (hr : Runs w' lo p2 mf2 mt2 B (t + 1) D') (hp : D'.pub = (stepA o D2.pub).2) (ht : Touch (D2.foot p2 mf2 mt2) w w') (hf : ∀ b ∈ D'.foot p2 mf2 mt2, b ∈ D2.foot p2 mf2 mt2 ∨ w.heap.size ≤ b) :
    Both w' lo p mf mt p2 mf2 mt2 B (t + 1) wb x D D' ∧ (stepA o A).1 = (stepA o D2.pub).1 := by
  obtain ⟨s1, s2⟩ := h.like.step o ho
  refine ⟨⟨⟨h.d.rep.touch ht (fun b hb hd => h.apart b hb hd), h.d.T, h.d.inv, h.d.B⟩, hr, by rw [h.pub, hp]; exact s2, fun b hb hb2 => ?_, kept_row h.box ht h.box2, h.box1, fun hb => ?_⟩, s1⟩
  · rcases hf b hb2 with h1 | h1
    · exact h.apart b hb h1
    · have := h.d.rep.lt b hb
      omega
  · rcases hf wb hb with h1 | h1
    · exact h.box2 h1
    · have := lt_of_block h.box
      omega
end
end Go.Proofs.YtcpncfngadablaaDoor
namespace Go.Proofs.YtcpncfngadablaaDoor
open Go.RowKit Go.Deep

/-- what a call that may change answers, and what is held then. -/
def stepT (o : OpA) (A : PubA) : Int × PubA :=
  if o.kind = 1 then createA o.name A else if o.kind = 2 then appendA o.name (dataA o.N A.B o.data) A else if o.kind = 3 then sealA o.name A else deleteA o.name A
/-- what a cut may leave of it. -/
def partT (o : OpA) (A A' : PubA) : Prop :=
  if o.kind = 2 then PartA o.name (dataA o.N A.B o.data) A A' else A' = { (stepT o A).2 with on := false }

theorem changes_cases {k : Int} (h : changesB k = true) : k = 1 ∨ k = 2 ∨ k = 3 ∨ k = 5 := by
  simp [changesB] at h
  omega

theorem stepT_A {o : OpA} (hk : changesB o.kind = true) (A : PubA) : (stepA o A).1 = .err (stepT o A).1 ∧ (stepA o A).2 = (stepT o A).2 := by
  obtain ⟨k, s, N, bit, d⟩ := o
  rcases changes_cases hk with h | h | h | h <;> (simp only at h; subst h; exact ⟨rfl, rfl⟩)

/-- two disks that hold the same behind t steps; the first may have met faults. -/
structure Akin (t : Nat) (A C : PubA) : Prop where
  a : Inv t A
  c : Inv t C
  full : A.c.full = 0
  faults : 0 ≤ A.c.faults ∧ A.c.faults ≤ t
  files : A.files = C.files
  B : A.B = C.B

section
variable {t : Nat} {A C : PubA} {o : OpA}

theorem Akin.like (h : Akin t A C) : ∃ x, Like x A C :=
  ⟨⟨A.c.calls - C.c.calls, A.c.reads - C.c.reads, A.c.appends - C.c.appends, 0, 0, 0, 0⟩, h.B, by rw [h.a.Bs, h.c.Bs], by rw [h.a.on, h.c.on], h.files, by rw [h.a.used, h.c.used, h.files], by simp only []; omega, by simp only []; omega, by simp only []; omega⟩

theorem Akin.res (h : Akin t A C) (hk : changesB o.kind = true) : (stepT o A).1 = (stepT o C).1 ∧ (stepT o A).2.files = (stepT o C).2.files ∧ (stepT o A).2.B = (stepT o C).2.B := by
  obtain ⟨x, hx⟩ := h.like
  have h8 : o.kind ≠ 8 := by rcases changes_cases hk with h | h | h | h <;> omega
  obtain ⟨h1, h2⟩ := hx.step o h8
  rw [(stepT_A hk A).1, (stepT_A hk C).1] at h1
  rw [(stepT_A hk A).2, (stepT_A hk C).2] at h2
  exact ⟨congrArg ToldA.e h1, h2.files, h2.B⟩

/-- done, or refused with nothing changed. -/
def Way (r : Int × PubA) (A : PubA) : Prop := (r.1 = 0 ∧ r.2.c.full = A.c.full ∧ r.2.c.faults = A.c.faults) ∨ (r.2 = A ∧ r.1 ≠ 0 ∧ r.1 ≠ 10 ∧ r.1 ≠ 17)
theorem way_no {A : PubA} (v : Int) (h : v ≠ 0 ∧ v ≠ 10 ∧ v ≠ 17) : Way (v, A) A := .inr ⟨rfl, h⟩
theorem way_yes {A B : PubA} (h1 : B.c.full = A.c.full) (h2 : B.c.faults = A.c.faults) : Way (0, B) A := .inl ⟨rfl, h1, h2⟩
theorem create_way (s : ByteArray) (A : PubA) : Way (createA s A) A := by
  unfold createA
  repeat' split
  all_goals first | exact way_no _ (by decide) | exact way_yes rfl rfl
theorem seal_way (s : ByteArray) (A : PubA) : Way (sealA s A) A := by
  unfold sealA
  repeat' split
  all_goals first | exact way_no _ (by decide) | exact way_yes rfl rfl
theorem delete_way (s : ByteArray) (A : PubA) : Way (deleteA s A) A := by
  unfold deleteA
  repeat' split
  all_goals first | exact way_no _ (by decide) | exact way_yes rfl rfl
theorem append_way (s : ByteArray) (bl : List UInt8) (A : PubA) (hr : ¬ A.Bs ≤ A.c.used) : Way (appendA s bl A) A := by
  unfold appendA
  repeat' split
  all_goals first | contradiction | exact way_no _ (by decide) | exact way_yes rfl rfl
theorem step_way (o : OpA) (A : PubA) (hr : A.c.used < A.Bs) : Way (stepT o A) A := by
  unfold stepT
  split
  · exact create_way _ _
  split
  · exact append_way _ _ _ (by omega)
  split
  · exact seal_way _ _
  · exact delete_way _ _
theorem stepT_counts (o : OpA) (A : PubA) (hr : A.c.used < A.Bs) (h0 : (stepT o A).1 = 0) : (stepT o A).2.c.full = A.c.full ∧ (stepT o A).2.c.faults = A.c.faults := by
  rcases step_way o A hr with h | h
  · exact h.2
  · exact absurd h0 h.2.1
/-- refused, and nothing has changed. -/
theorem stepT_refused (o : OpA) (A : PubA) (hr : A.c.used < A.Bs) (hne : (stepT o A).1 ≠ 0) : (stepT o A).2 = A ∧ (stepT o A).1 ≠ 10 ∧ (stepT o A).1 ≠ 17 := by
  rcases step_way o A hr with h | h
  · exact absurd h.1 hne
  · exact ⟨h.1, h.2.2⟩

theorem Akin.room (h : Akin t A C) (ht : t < 1099511627776) : A.c.used < A.Bs := by
  rw [h.a.used, h.a.Bs]
  have := h.a.total
  omega

theorem Akin.more (h : Akin t A C) : Akin (t + 1) A C := ⟨h.a.more, h.c.more, h.full, by have := h.faults; omega, h.files, h.B⟩

theorem Akin.fault (h : Akin t A C) : Akin (t + 1) A.faulted C := by
  have h1 := h.a.more
  have hc := h.a.calls
  exact ⟨⟨h1.on, h1.size, h1.Bs, by show 0 ≤ A.c.calls + 1 ∧ A.c.calls + 1 ≤ _; omega, h1.reads, h1.appends, h1.full, h1.used, h1.total, h1.few, h1.names⟩, h.c.more, h.full, by have := h.faults; show 0 ≤ A.c.faults + 1 ∧ A.c.faults + 1 ≤ _; omega, h.files, h.B⟩

theorem Akin.done (h : Akin t A C) (ht : t < 1099511627776) (hk : changesB o.kind = true) (hp : A.files.Pairwise fun a b => a.1 ≠ b.1) (h0 : (stepT o A).1 = 0) : Akin (t + 1) (stepT o A).2 (stepT o C).2 := by
  have h1 := h.a.step hp o
  have h2 := h.c.step (h.files ▸ hp) o
  rw [(stepT_A hk _).2] at h1 h2
  obtain ⟨c1, c2⟩ := stepT_counts o A (h.room ht) h0
  obtain ⟨_, r2, r3⟩ := h.res hk
  exact ⟨h1, h2, by rw [c1, h.full], by rw [c2]; have := h.faults; omega, r2, r3⟩
end

section
variable {w w' : World} {E : Nat → Addr} {lo p mf mt : Nat} {D : DiskC}
theorem program_t (V : Env w lo E) (R : Rep w lo p mf mt D) (ho : D.on = true) (hS : Small D.pub) (hfl : 0 ≤ D.c.faults ∧ D.c.faults ≤ 1099511627776) (hcc : D.c.calls + 1 ≤ 1099511627776) {x k y : Int} (hT : TroubleIs D.T D.c.calls x k y) (o : OpA) (hk : changesB o.kind = true) {sa : Option Addr} {n c : Nat} (hd : Shows w sa n c o.data) (hn : n ≤ 1073741824) :
    Calls Tryd.prog 7 #[ptr p, opV o.kind o.name o.N o.bit sa n c, .int .i64 D.B] w fun e w' => ∃ r A', (∃ v, e = .returned (.tuple #[v, .bool true]) ∧ ToldAt w' w.heap.size (.err r) v) ∧ Did2 w w' lo p mf mt D A' ∧ Out D.pub (stepT o D.pub) (partT o D.pub) r A' := by
  obtain ⟨kk, s, N, bit, d⟩ := o
  rcases changes_cases hk with h | h | h | h <;> simp only at h <;> subst h
  · exact program_1t V R ho hS hfl hcc hT s N bit sa n c
  · exact program_2t V R ho hS hfl hcc hT s N bit hd hn
  · exact program_3t V R ho hS hfl hcc hT s N bit sa n c
  · exact program_5t V R ho hS hfl hcc hT s N bit sa n c
end

/-- two disks in memory, apart, that hold the same. -/
structure Keep (w : World) (lo p mf mt p2 mf2 mt2 B t : Nat) (D C : DiskC) : Prop where
  d : Rep w lo p mf mt D
  T : AllT D.T
  c : Runs w lo p2 mf2 mt2 B t C
  akin : Akin t D.pub C.pub
  apart : ∀ b ∈ D.foot p mf mt, b ∉ C.foot p2 mf2 mt2

/-- .. where something has befallen the first in a call. -/
structure Was (w : World) (lo p mf mt p2 mf2 mt2 B t : Nat) (D C : DiskC) (A' : PubA) : Prop where
  d : Rep w lo p mf mt D
  T : AllT D.T
  c : Runs w lo p2 mf2 mt2 B t C
  pub : D.pub = A'
  apart : ∀ b ∈ D.foot p mf mt, b ∉ C.foot p2 mf2 mt2

section
variable {w w' : World} {E : Nat → Addr} {lo p mf mt p2 mf2 mt2 B t : Nat} {D C : DiskC} {A' : PubA} {o : OpA}

theorem Keep.touch (h : Keep w lo p mf mt p2 mf2 mt2 B t D C) (ht : Touch [] w w') : Keep w' lo p mf mt p2 mf2 mt2 B t D C := ⟨h.d.touch ht (by simp), h.T, h.c.touch ht, h.akin, h.apart⟩
theorem Was.touch (h : Was w lo p mf mt p2 mf2 mt2 B t D C A') (ht : Touch [] w w') : Was w' lo p mf mt p2 mf2 mt2 B t D C A' := ⟨h.d.touch ht (by simp), h.T, h.c.touch ht, h.pub, h.apart⟩
theorem Keep.size (h : Keep w lo p mf mt p2 mf2 mt2 B t D C) : D.B = B := (show D.B = C.B from h.akin.B).trans h.c.B
theorem Keep.keys (h : Keep w lo p mf mt p2 mf2 mt2 B t D C) : D.pub.files.Pairwise fun a b => a.1 ≠ b.1 := by
  rw [h.akin.files]
  exact h.c.keys
theorem Keep.more (h : Keep w lo p mf mt p2 mf2 mt2 B t D C) : Keep w lo p mf mt p2 mf2 mt2 B (t + 1) D C := ⟨h.d, h.T, h.c.more, h.akin.more, h.apart⟩

/-- a call of the first. -/
theorem Keep.was (h : Keep w lo p mf mt p2 mf2 mt2 B t D C) (hd : Did2 w w' lo p mf mt D A') : ∃ D', Was w' lo p mf mt p2 mf2 mt2 B t D' C A' ∧ Touch (D.foot p mf mt) w w' ∧ ∀ b ∈ D'.foot p mf mt, b ∈ D.foot p mf mt ∨ w.heap.size ≤ b := by
  obtain ⟨D', R', hp, hT, ht, hf⟩ := hd
  refine ⟨D', ⟨R', ?_, ⟨h.c.rep.touch ht (fun b hb hd => h.apart b hd hb), h.c.T, h.c.inv, h.c.B⟩, hp, fun b hb hb2 => ?_⟩, ht, hf⟩
  · rcases hT with e | e
    · rw [e]; exact h.T
    · rw [e]; exact h.T.del _
  · rcases hf b hb with h1 | h1
    · exact h.apart b h1 hb2
    · have := h.c.rep.lt b hb2
      omega

/-- both have done it. -/
theorem Was.both (h : Was w lo p mf mt p2 mf2 mt2 B t D C A') {w2 : World} {C' : DiskC} (hA : Akin (t + 1) A' C'.pub) (hr : Runs w2 lo p2 mf2 mt2 B (t + 1) C') (ht : Touch (C.foot p2 mf2 mt2) w w2) (hf : ∀ b ∈ C'.foot p2 mf2 mt2, b ∈ C.foot p2 mf2 mt2 ∨ w.heap.size ≤ b) :
    Keep w2 lo p mf mt p2 mf2 mt2 B (t + 1) D C' := by
  refine ⟨h.d.touch ht (fun b hb hd => h.apart b hb hd), h.T, hr, h.pub ▸ hA, fun b hb hb2 => ?_⟩
  rcases hf b hb2 with h1 | h1
  · exact h.apart b hb h1
  · have := h.d.lt b hb
    omega
/-- the second has nothing to do. -/
theorem Was.keep (h : Was w lo p mf mt p2 mf2 mt2 B t D C A') (hA : Akin (t + 1) A' C.pub) : Keep w lo p mf mt p2 mf2 mt2 B (t + 1) D C :=
  ⟨h.d, h.T, h.c.more, h.pub ▸ hA, h.apart⟩

/-- the three ways that a call of the first may go. -/
theorem Akin.ways {A C A' : PubA} {r : Int} (h : Akin t A C) (ht : t < 1099511627776) (hk : changesB o.kind = true) (hp : A.files.Pairwise fun a b => a.1 ≠ b.1) (ho : Out A (stepT o A) (partT o A) r A') :
    (r = 0 ∧ (stepT o C).1 = 0 ∧ Akin (t + 1) A' (stepT o C).2) ∨ (r ≠ 0 ∧ r ≠ 10 ∧ r ≠ 17 ∧ Akin (t + 1) A' C) ∨ (r = 10 ∧ A'.on = false ∧ (stepT o C).1 = 0 ∧ A'.B = A.B ∧ (A'.files = C.files ∨ (o.kind ≠ 2 ∧ A'.files = (stepT o C).2.files) ∨ (o.kind = 2 ∧ ∃ f m, findA C.files (nm o.name) = some f ∧ A'.files = setA (nm o.name) { f with blocks := f.blocks ++ [cutB m (dataA o.N C.B o.data)] } C.files))) := by
  obtain ⟨e1, e2, e3⟩ := h.res hk
  rcases ho with ⟨rfl, rfl⟩ | ⟨h0, ⟨rfl, rfl⟩ | ⟨rfl, hc⟩⟩
  · by_cases h0 : (stepT o A).1 = 0
    · exact .inl ⟨h0, e1 ▸ h0, h.done ht hk hp h0⟩
    · obtain ⟨r1, r2, r3⟩ := stepT_refused o A (h.room ht) h0
      exact .inr (.inl ⟨h0, r2, r3, by rw [r1]; exact h.more⟩)
  · exact .inr (.inl ⟨by decide, by decide, by decide, h.fault⟩)
  · refine .inr (.inr ⟨rfl, ?_⟩)
    rcases hc with rfl | hc
    · exact ⟨rfl, e1 ▸ h0, rfl, .inl h.files⟩
    · unfold partT at hc
      split at hc
      · rename_i h2
        obtain ⟨f, m, hf, rfl⟩ := hc
        exact ⟨rfl, e1 ▸ h0, rfl, .inr (.inr ⟨h2, f, m, h.files ▸ hf, by rw [← h.B, ← h.files]⟩)⟩
      · rename_i h2
        subst hc
        exact ⟨rfl, e1 ▸ h0, by show (stepT o A).2.B = A.B; rw [← (stepT_A hk A).2]; exact (step_size o A).1, .inr (.inl ⟨h2, e2⟩)⟩
end
end Go.Proofs.YtcpncfngadablaaDoor
namespace Go.Proofs.YtcpncfngadablaaDoor
open Go.RowKit Go.Deep

section
variable {w w' : World} {E : Nat → Addr} {lo p mf mt B t : Nat} {C : DiskC} {o : OpA}

/-- cut, whatever the power left. -/
theorem cut_ok (V : Env w lo E) (R : Runs w lo p mf mt B t C) (ht : t + 1 < 1099511627776) (hk : changesB o.kind = true) (h0 : (stepT o C.pub).1 = 0)
    {n1 : Nat} {fv : Value} {l : List SFile} (h : StateAt w n1 B fv l) (hF : ∀ b ∈ C.foot p mf mt, b < n1) (hn1 : n1 ≤ w.heap.size)
    (hw : l.map SFile.pub = C.pub.files ∨ (o.kind ≠ 2 ∧ l.map SFile.pub = (stepT o C.pub).2.files) ∨ (o.kind = 2 ∧ ∃ f m, findA C.pub.files (nm o.name) = some f ∧ l.map SFile.pub = setA (nm o.name) { f with blocks := f.blocks ++ [cutB m (dataA o.N C.B o.data)] } C.pub.files))
    {sa : Option Addr} {n c : Nat} (hd : Shows w sa n c o.data) (hn : n ≤ 1073741824) :
    Calls Tryd.prog 15 #[.agg #[.int .i64 B, fv], ptr p, opV o.kind o.name o.N o.bit sa n c, .int .i64 B] w fun e w' => e = .returned (.bool true) ∧ Touch (C.foot p mf mt) w w' := by
  have hB := R.B
  have hS := R.inv.small (by omega)
  have hS2 := (R.inv.step R.keys o).small (by omega)
  have hcc : C.c.calls + 1 ≤ 1099511627776 := by have := R.inv.calls; simp only [DiskC.pub] at this; omega
  have hfw : C.pub.files.length < 1099511627776 := by have := R.inv.few; omega
  subst hB
  rcases hw with hw | ⟨h2, hw⟩ | ⟨h2, f, m, hf, hw⟩
  · exact (cut_same R.rep hS h hw o.kind o.name o.N o.bit sa n c).mono fun e w' ⟨h1, h2⟩ => ⟨h1, Touch.of_below h2 (Nat.le_refl _)⟩
  · refine cut_whole V R.rep R.T R.inv.on hS hcc o h2 ?_ hS2 h ?_ hF hn1 hd hn
    · rw [(stepT_A hk _).1]; exact h0
    · rw [(stepT_A hk _).2]; exact hw
  · obtain ⟨kk, s, N, bit, d⟩ := o
    simp only at h2
    subst h2
    exact cut_part V R.rep R.T R.inv.on hS hcc hfw s N bit d _ rfl h0 hS2 hf h hw hF hn1 hd hn
end
end Go.Proofs.YtcpncfngadablaaDoor
