import Derived.Test.YtcpncfngadablaaDoorF4
import Derived.Deep.CutRange
namespace Go.Proofs.YtcpncfngadablaaDoor
open Go.RowKit Go.Deep

theorem told_few {t : Nat} {A : PubA} (h : Inv t A) (o : OpA) : (stepA o A).1.names.length ≤ t := by
  have hf := h.few
  unfold stepA ToldA.err
  repeat' split
  all_goals simp
  all_goals omega

section
variable {w wr W wy wx : World} {lo p mf mt p2 mf2 mt2 B t wb : Nat} {x : Cnt} {o : OpA} {A : PubA} {D D2 D' : DiskC} {T : ToldA}

theorem ToldAt.lower {base base' : Nat} {v : Value} (h : ToldAt w base T v) (hb : base' ≤ base) : ToldAt w base' T v := by
  obtain ⟨dv, nv, e, hd, hn⟩ := h
  exact ⟨dv, nv, e, owns_base hd hb, owns_base hn hb⟩

theorem ToldAt.past {base : Nat} {v : Value} {b : Nat} (h : ToldAt w base T v) (ht : Touch [b] w wx) (hb : b < base ∨ w.heap.size ≤ b) : ToldAt wx base T v := by
  obtain ⟨dv, nv, e, hd, hn⟩ := h
  refine ⟨dv, nv, e, owns_touch hd ht fun y hy hyb => ?_, owns_touch hn ht fun y hy hyb => ?_⟩
  · have h1 := hd.lt y hy
    simp at hyb
    omega
  · have h1 := hn.lt y hy
    simp at hyb
    omega

/-- what is told, in a variable. -/
def Box (w : World) (base : Nat) (T : ToldA) (v : Value) : Prop :=
  ∃ (x : Option Addr) (y : Nat) (m : Option Addr) (l b : Nat), v = ptr b ∧ base ≤ b ∧ w.heap[b]? = some (.cells (T.row x y m l) 36 (0, 0)) ∧ ToldAt w base T (.agg (T.row x y m l))

theorem Box.touch {F : List Nat} {base : Nat} {v : Value} (h : Box w base T v) (ht : Touch F w wx) (hF : ∀ b ∈ F, b < base ∨ w.heap.size ≤ b) : Box wx base T v := by
  obtain ⟨x, y, m, l, b, e, hb, hr, dv, nv, ev, hd, hn⟩ := h
  have hlt := lt_of_block hr
  refine ⟨x, y, m, l, b, e, hb, kept_row hr ht (fun hm => by have := hF b hm; omega), dv, nv, ev, owns_touch hd ht fun z hz hm => ?_, owns_touch hn ht fun z hz hm => ?_⟩
  · have h1 := hd.lt z hz
    have := hF z hm
    omega
  · have h1 := hn.lt z hz
    have := hF z hm
    omega

/-- the step of the first disk, and its answer in a variable. -/
theorem step1_end (hbo : Both wr lo p mf mt p2 mf2 mt2 B t wb x D D2) (tW : Touch [] wr W) {b : Nat} {x1 : Option Addr} {y1 : Nat} {m1 : Option Addr} {l1 : Nat} (hat : ToldAt wy W.heap.size T (.agg (T.row x1 y1 m1 l1)))
    (hr : Runs wy lo p mf mt B (t + 1) D') (hp : D'.pub = (stepA o D.pub).2) (ht : Touch (D.foot p mf mt) W wy) (hf : ∀ b ∈ D'.foot p mf mt, b ∈ D.foot p mf mt ∨ W.heap.size ≤ b)
    (hb1 : wr.heap.size ≤ b) (hb2 : b < W.heap.size ∨ wy.heap.size ≤ b) (tx : Touch [b] wy wx) (hrow : wx.heap[b]? = some (.cells (T.row x1 y1 m1 l1) 36 (0, 0))) :
    Mid wx lo p mf mt p2 mf2 mt2 B t wb x o D.pub D' D2 ∧ Box wx wr.heap.size T (ptr b) ∧ Touch (D.foot p mf mt) wr wx := by
  have s1 := tW.size
  have tt : Touch (D.foot p mf mt) wr wx := ((tW.mono (by simp)).trans ht (fun _ h => .inl h)).trans tx (fun c hc => .inr (by simp at hc; omega))
  have hbn : b ∉ D'.foot p mf mt := fun hb => by
    have h1 := hr.rep.lt b hb
    rcases hf b hb with h2 | h2
    · have := hbo.d.rep.lt b h2
      omega
    · omega
  refine ⟨hbo.mid ⟨hr.rep.touch tx (fun c hc hm => by simp at hm; subst hm; exact hbn hc), hr.T, hr.inv, hr.B⟩ hp tt (fun c hc => ?_), ⟨x1, y1, m1, l1, b, rfl, hb1, hrow, (hat.past tx hb2).lower s1⟩, tt⟩
  rcases hf c hc with h | h
  · exact .inl h
  · exact .inr (by omega)

/-- the step of the second. -/
theorem step2_end (hmi : Mid wr lo p mf mt p2 mf2 mt2 B t wb x o A D D2) (ho : o.kind ≠ 8) (tW : Touch [] wr W) {b : Nat} {x1 : Option Addr} {y1 : Nat} {m1 : Option Addr} {l1 : Nat} (hat : ToldAt wy W.heap.size T (.agg (T.row x1 y1 m1 l1)))
    (hr : Runs wy lo p2 mf2 mt2 B (t + 1) D') (hp : D'.pub = (stepA o D2.pub).2) (ht : Touch (D2.foot p2 mf2 mt2) W wy) (hf : ∀ b ∈ D'.foot p2 mf2 mt2, b ∈ D2.foot p2 mf2 mt2 ∨ W.heap.size ≤ b)
    (hb1 : wr.heap.size ≤ b) (hb2 : b < W.heap.size ∨ wy.heap.size ≤ b) (tx : Touch [b] wy wx) (hrow : wx.heap[b]? = some (.cells (T.row x1 y1 m1 l1) 36 (0, 0))) :
    (Both wx lo p mf mt p2 mf2 mt2 B (t + 1) wb x D D' ∧ (stepA o A).1 = (stepA o D2.pub).1) ∧ Box wx wr.heap.size T (ptr b) ∧ Touch (D2.foot p2 mf2 mt2) wr wx := by
  have s1 := tW.size
  have tt : Touch (D2.foot p2 mf2 mt2) wr wx := ((tW.mono (by simp)).trans ht (fun _ h => .inl h)).trans tx (fun c hc => .inr (by simp at hc; omega))
  have hbn : b ∉ D'.foot p2 mf2 mt2 := fun hb => by
    have h1 := hr.rep.lt b hb
    rcases hf b hb with h2 | h2
    · have := hmi.c.rep.lt b h2
      omega
    · omega
  refine ⟨hmi.both ho ⟨hr.rep.touch tx (fun c hc hm => by simp at hm; subst hm; exact hbn hc), hr.T, hr.inv, hr.B⟩ hp tt (fun c hc => ?_), ⟨x1, y1, m1, l1, b, rfl, hb1, hrow, (hat.past tx hb2).lower s1⟩, tt⟩
  rcases hf c hc with h | h
  · exact .inl h
  · exact .inr (by omega)

/-- the store of the twelve cells. -/
theorem store_told {b : Nat} (hr : wy.heap[b]? = some (.cells zeroT 36 (0, 0))) (T : ToldA) (x1 : Option Addr) (y1 : Nat) (m1 : Option Addr) (l1 : Nat) :
    ∃ W2, W2 = (((((((((((wy.setCell ⟨b, 0, none⟩ (.int .i64 T.e)).setCell ⟨b, 1, none⟩ (.int .i64 T.n)).setCell ⟨b, 2, none⟩ (.bool T.shut)).setCell ⟨b, 3, none⟩ (.slice x1 T.data.length y1)).setCell ⟨b, 4, none⟩ (.slice m1 T.names.length l1)).setCell ⟨b, 5, none⟩ (.int .i64 T.c.calls)).setCell ⟨b, 6, none⟩ (.int .i64 T.c.reads)).setCell ⟨b, 7, none⟩ (.int .i64 T.c.appends)).setCell ⟨b, 8, none⟩ (.int .i64 T.c.faults)).setCell ⟨b, 9, none⟩ (.int .i64 T.c.full)).setCell ⟨b, 10, none⟩ (.int .i64 T.c.used)).setCell ⟨b, 11, none⟩ (.int .i64 T.c.most) ∧
      W2.heap[b]? = some (.cells (T.row x1 y1 m1 l1) 36 (0, 0)) ∧ Touch [b] wy W2 := by
  refine ⟨_, rfl, ?_, ?_⟩
  · refine (heap_setCell_row (heap_setCell_row (heap_setCell_row (heap_setCell_row (heap_setCell_row (heap_setCell_row (heap_setCell_row (heap_setCell_row (heap_setCell_row (heap_setCell_row (heap_setCell_row (heap_setCell_row hr 0 _) 1 _) 2 _) 3 _) 4 _) 5 _) 6 _) 7 _) 8 _) 9 _) 10 _) 11 _).trans ?_
    simp [zeroT, ToldA.row]
  · repeat' refine Touch.setCell ?_ (by simp) _
    exact Touch.refl _ _
end
end Go.Proofs.YtcpncfngadablaaDoor
