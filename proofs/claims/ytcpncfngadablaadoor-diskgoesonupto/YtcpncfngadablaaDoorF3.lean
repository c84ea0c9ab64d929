import Derived.Test.YtcpncfngadablaaDoorF1
namespace Go.Proofs.YtcpncfngadablaaDoor
open Go.RowKit Go.Deep

def Cnt.row (c : Cnt) : Array Value := #[.int .i64 c.calls, .int .i64 c.reads, .int .i64 c.appends, .int .i64 c.faults, .int .i64 c.full, .int .i64 c.used, .int .i64 c.most]

/-- two disks in memory, apart, that hold the same; and the box of the counts. -/
structure Both (w : World) (lo p mf mt p2 mf2 mt2 B t wb : Nat) (x : Cnt) (D D2 : DiskC) : Prop where
  d : Runs w lo p mf mt B t D
  c : Runs w lo p2 mf2 mt2 B t D2
  like : Like x D.pub D2.pub
  apart : ∀ b ∈ D.foot p mf mt, b ∉ D2.foot p2 mf2 mt2
  box : w.heap[wb]? = some (.cells x.row 34 (0, 0))
  box1 : wb ∉ D.foot p mf mt
  box2 : wb ∉ D2.foot p2 mf2 mt2

/-- .. where the first is one step ahead. -/
structure Mid (w : World) (lo p mf mt p2 mf2 mt2 B t wb : Nat) (x : Cnt) (o : OpA) (A : PubA) (D D2 : DiskC) : Prop where
  d : Runs w lo p mf mt B (t + 1) D
  c : Runs w lo p2 mf2 mt2 B t D2
  pub : D.pub = (stepA o A).2
  like : Like x A D2.pub
  apart : ∀ b ∈ D.foot p mf mt, b ∉ D2.foot p2 mf2 mt2
  box : w.heap[wb]? = some (.cells x.row 34 (0, 0))
  box1 : wb ∉ D.foot p mf mt
  box2 : wb ∉ D2.foot p2 mf2 mt2

section
variable {w w' : World} {lo p mf mt p2 mf2 mt2 B t wb : Nat} {x : Cnt} {o : OpA} {A : PubA} {D D2 D' : DiskC}

theorem Runs.more (h : Runs w lo p mf mt B t D) : Runs w lo p mf mt B (t + 1) D := ⟨h.rep, h.T, h.inv.more, h.B⟩
theorem Both.more (h : Both w lo p mf mt p2 mf2 mt2 B t wb x D D2) : Both w lo p mf mt p2 mf2 mt2 B (t + 1) wb x D D2 := ⟨h.d.more, h.c.more, h.like, h.apart, h.box, h.box1, h.box2⟩
theorem Both.touch (h : Both w lo p mf mt p2 mf2 mt2 B t wb x D D2) (ht : Touch [] w w') : Both w' lo p mf mt p2 mf2 mt2 B t wb x D D2 := ⟨h.d.touch ht, h.c.touch ht, h.like, h.apart, kept_row h.box ht (by simp), h.box1, h.box2⟩
theorem Mid.touch (h : Mid w lo p mf mt p2 mf2 mt2 B t wb x o A D D2) (ht : Touch [] w w') : Mid w' lo p mf mt p2 mf2 mt2 B t wb x o A D D2 := ⟨h.d.touch ht, h.c.touch ht, h.pub, h.like, h.apart, kept_row h.box ht (by simp), h.box1, h.box2⟩

theorem Both.mid (h : Both w lo p mf mt p2 mf2 mt2 B t wb x D D2) (hr : Runs w' lo p mf mt B (t + 1) D') (hp : D'.pub = (stepA o D.pub).2) (ht : Touch (D.foot p mf mt) w w') (hf : ∀ b ∈ D'.foot p mf mt, b ∈ D.foot p mf mt ∨ w.heap.size ≤ b) :
    Mid w' lo p mf mt p2 mf2 mt2 B t wb x o D.pub D' D2 := by
  refine ⟨hr, ⟨h.c.rep.touch ht (fun b hb hd => h.apart b hd hb), h.c.T, h.c.inv, h.c.B⟩, hp, h.like, fun b hb hb2 => ?_, kept_row h.box ht h.box1, fun hb => ?_, h.box2⟩
  · rcases hf b hb with h1 | h1
    · exact h.apart b h1 hb2
    · have := h.c.rep.lt b hb2
      omega
  · rcases hf wb hb with h1 | h1
    · exact h.box1 h1
    · have := lt_of_block h.box
      omega

theorem Mid.both (h : Mid w lo p mf mt p2 mf2 mt2 B t wb x o A D D2) (ho : o.kind ≠ 8) (hr : Runs w' lo p2 mf2 mt2 B (t + 1) D') (hp : D'.pub = (stepA o D2.pub).2) (ht : Touch (D2.foot p2 mf2 mt2) w w') (hf : ∀ b ∈ D'.foot p2 mf2 mt2, b ∈ D2.foot p2 mf2 mt2 ∨ w.heap.size ≤ b) :
    Both w' lo p mf mt p2 mf2 mt2 B (t + 1) wb x D D' ∧ (stepA o A).1 = (stepA o D2.pub).1 := by
  obtain ⟨s1, s2⟩ := h.like.step o ho
  refine ⟨⟨⟨h.d.rep.touch ht (fun b hb hd => h.apart b hb hd), h.d.T, h.d.inv, h.d.B⟩, hr, by rw [h.pub, hp]; exact s2, fun b hb hb2 => ?_, kept_row h.box ht h.box2, h.box1, fun hb => ?_⟩, s1⟩
  · rcases hf b hb2 with h1 | h1
    · exact h.apart b hb h1
    · have := h.d.rep.lt b hb
      omega
  · rcases hf wb hb with h1 | h1
    · exact h.box2 h1
    · have := lt_of_block h.box
      omega
end
end Go.Proofs.YtcpncfngadablaaDoor
