import Derived.Test.YtcpncfngadablaaDoorF5
import Derived.Deep.DeepCutAuto
namespace Go.Proofs.YtcpncfngadablaaDoor
open Go.RowKit Go.Deep

/-- the world behind the store of what is told. -/
abbrev toldW (wy : World) (b : Nat) (T : ToldA) (x1 : Option Addr) (y1 : Nat) (m1 : Option Addr) (l1 : Nat) : World :=
  (((((((((((wy.setCell ⟨b, 0, none⟩ (.int .i64 T.e)).setCell ⟨b, 1, none⟩ (.int .i64 T.n)).setCell ⟨b, 2, none⟩ (.bool T.shut)).setCell ⟨b, 3, none⟩ (.slice x1 T.data.length y1)).setCell ⟨b, 4, none⟩ (.slice m1 T.names.length l1)).setCell ⟨b, 5, none⟩ (.int .i64 T.c.calls)).setCell ⟨b, 6, none⟩ (.int .i64 T.c.reads)).setCell ⟨b, 7, none⟩ (.int .i64 T.c.appends)).setCell ⟨b, 8, none⟩ (.int .i64 T.c.faults)).setCell ⟨b, 9, none⟩ (.int .i64 T.c.full)).setCell ⟨b, 10, none⟩ (.int .i64 T.c.used)).setCell ⟨b, 11, none⟩ (.int .i64 T.c.most)

section
variable {w wr W wz wy : World} {lo p mf mt p2 mf2 mt2 B t wb : Nat} {x : Cnt} {o : OpA} {A : PubA} {D D2 D' : DiskC} {T : ToldA} {b : Nat} {x1 : Option Addr} {y1 : Nat} {m1 : Option Addr} {l1 : Nat}

theorem step1_rel (hbo : Both wr lo p mf mt p2 mf2 mt2 B t wb x D D2) (hbw : Below lo w wr) (hlo : lo ≤ wr.heap.size) (tW : Touch [] wr W) (hT : T = (stepA o D.pub).1) (hat : ToldAt wz W.heap.size T (.agg (T.row x1 y1 m1 l1)))
    (hr : Runs wz lo p mf mt B (t + 1) D') (hp : D'.pub = (stepA o D.pub).2) (ht : Touch (D.foot p mf mt) W wz) (hf : ∀ b ∈ D'.foot p mf mt, b ∈ D.foot p mf mt ∨ W.heap.size ≤ b)
    (tz : Touch [] wz wy) (hz : wy.heap[b]? = some (.cells zeroT 36 (0, 0))) (hb1 : wr.heap.size ≤ b) (hb2 : b < W.heap.size ∨ wz.heap.size ≤ b) :
    ∃ D1, Mid (toldW wy b T x1 y1 m1 l1) lo p mf mt p2 mf2 mt2 B t wb x o D.pub D1 D2 ∧ Box (toldW wy b T x1 y1 m1 l1) wr.heap.size (stepA o D.pub).1 (ptr b) ∧ Below lo w (toldW wy b T x1 y1 m1 l1) ∧ wr.heap.size ≤ (toldW wy b T x1 y1 m1 l1).heap.size := by
  obtain ⟨W2, e, hrow, tx⟩ := store_told hz T x1 y1 m1 l1
  rw [← show W2 = toldW wy b T x1 y1 m1 l1 from e]
  obtain ⟨g1, g2, g3⟩ := step1_end hbo tW hat hr hp ht hf hb1 hb2 ((tz.mono (by simp)).trans tx (by simp)) hrow
  rw [hT] at g2
  exact ⟨D', g1, g2, below_foot hbw g3 (fun b hb => hbo.d.rep.base b hb) hlo, g3.size⟩

theorem step2_rel (hmi : Mid wr lo p mf mt p2 mf2 mt2 B t wb x o A D D2) (ho : o.kind ≠ 8) (hbw : Below lo w wr) (hlo : lo ≤ wr.heap.size) (tW : Touch [] wr W) (hT : T = (stepA o D2.pub).1) (hat : ToldAt wz W.heap.size T (.agg (T.row x1 y1 m1 l1)))
    (hr : Runs wz lo p2 mf2 mt2 B (t + 1) D') (hp : D'.pub = (stepA o D2.pub).2) (ht : Touch (D2.foot p2 mf2 mt2) W wz) (hf : ∀ b ∈ D'.foot p2 mf2 mt2, b ∈ D2.foot p2 mf2 mt2 ∨ W.heap.size ≤ b)
    (tz : Touch [] wz wy) (hz : wy.heap[b]? = some (.cells zeroT 36 (0, 0))) (hb1 : wr.heap.size ≤ b) (hb2 : b < W.heap.size ∨ wz.heap.size ≤ b) {base : Nat} {T1 : ToldA} {v1 : Value} (hbx : Box wr base T1 v1) (hbase : ∀ b ∈ D2.foot p2 mf2 mt2, b < base) :
    ∃ D1, Both (toldW wy b T x1 y1 m1 l1) lo p mf mt p2 mf2 mt2 B (t + 1) wb x D D1 ∧ Box (toldW wy b T x1 y1 m1 l1) wr.heap.size (stepA o A).1 (ptr b) ∧ Box (toldW wy b T x1 y1 m1 l1) base T1 v1 ∧ Below lo w (toldW wy b T x1 y1 m1 l1) ∧ wr.heap.size ≤ (toldW wy b T x1 y1 m1 l1).heap.size := by
  obtain ⟨W2, e, hrow, tx⟩ := store_told hz T x1 y1 m1 l1
  rw [← show W2 = toldW wy b T x1 y1 m1 l1 from e]
  obtain ⟨⟨g1, g0⟩, g2, g3⟩ := step2_end hmi ho tW hat hr hp ht hf hb1 hb2 ((tz.mono (by simp)).trans tx (by simp)) hrow
  rw [hT, ← g0] at g2
  exact ⟨D', g1, g2, hbx.touch g3 (fun b hb => .inl (hbase b hb)), below_foot hbw g3 (fun b hb => hmi.c.rep.base b hb) hlo, g3.size⟩

theorem step1_new (hbo : Both wr lo p mf mt p2 mf2 mt2 B t wb x D D2) (hbw : Below lo w wr) (hlo : lo ≤ wr.heap.size) (tW : Touch [] wr W) (hT : T = (stepA o D.pub).1) (hat : ToldAt wz W.heap.size T (.agg (T.row x1 y1 m1 l1)))
    (hr : Runs wz lo p mf mt B (t + 1) D') (hp : D'.pub = (stepA o D.pub).2) (ht : Touch (D.foot p mf mt) W wz) (hf : ∀ b ∈ D'.foot p mf mt, b ∈ D.foot p mf mt ∨ W.heap.size ≤ b) :
    ∃ D1, Mid (wz.alloc (.cells (T.row x1 y1 m1 l1) 36)) lo p mf mt p2 mf2 mt2 B t wb x o D.pub D1 D2 ∧ Box (wz.alloc (.cells (T.row x1 y1 m1 l1) 36)) wr.heap.size (stepA o D.pub).1 (ptr wz.heap.size) ∧ Below lo w (wz.alloc (.cells (T.row x1 y1 m1 l1) 36)) ∧ wr.heap.size ≤ (wz.alloc (.cells (T.row x1 y1 m1 l1) 36)).heap.size := by
  obtain ⟨g1, g2, g3⟩ := step1_end hbo tW hat hr hp ht hf (b := wz.heap.size) (by have e1 := tW.size; have e2 := ht.size; omega) (.inr (Nat.le_refl _)) ((Touch.refl _ wz).alloc _) (heap_alloc_new wz _)
  rw [hT] at g2
  rw [hT] at g1 g3
  rw [hT]
  exact ⟨D', g1, g2, below_foot hbw g3 (fun b hb => hbo.d.rep.base b hb) hlo, g3.size⟩

theorem step2_new (hmi : Mid wr lo p mf mt p2 mf2 mt2 B t wb x o A D D2) (ho : o.kind ≠ 8) (hbw : Below lo w wr) (hlo : lo ≤ wr.heap.size) (tW : Touch [] wr W) (hT : T = (stepA o D2.pub).1) (hat : ToldAt wz W.heap.size T (.agg (T.row x1 y1 m1 l1)))
    (hr : Runs wz lo p2 mf2 mt2 B (t + 1) D') (hp : D'.pub = (stepA o D2.pub).2) (ht : Touch (D2.foot p2 mf2 mt2) W wz) (hf : ∀ b ∈ D'.foot p2 mf2 mt2, b ∈ D2.foot p2 mf2 mt2 ∨ W.heap.size ≤ b)
    {base : Nat} {T1 : ToldA} {v1 : Value} (hbx : Box wr base T1 v1) (hbase : ∀ b ∈ D2.foot p2 mf2 mt2, b < base) :
    ∃ D1, Both (wz.alloc (.cells (T.row x1 y1 m1 l1) 36)) lo p mf mt p2 mf2 mt2 B (t + 1) wb x D D1 ∧ Box (wz.alloc (.cells (T.row x1 y1 m1 l1) 36)) wr.heap.size (stepA o A).1 (ptr wz.heap.size) ∧ Box (wz.alloc (.cells (T.row x1 y1 m1 l1) 36)) base T1 v1 ∧ Below lo w (wz.alloc (.cells (T.row x1 y1 m1 l1) 36)) ∧ wr.heap.size ≤ (wz.alloc (.cells (T.row x1 y1 m1 l1) 36)).heap.size := by
  obtain ⟨⟨g1, g0⟩, g2, g3⟩ := step2_end hmi ho tW hat hr hp ht hf (b := wz.heap.size) (by have e1 := tW.size; have e2 := ht.size; omega) (.inr (Nat.le_refl _)) ((Touch.refl _ wz).alloc _) (heap_alloc_new wz _)
  have e : T = (stepA o A).1 := hT.trans g0.symm
  rw [e] at g1 g2 g3
  rw [e]
  exact ⟨D', g1, g2, hbx.touch g3 (fun b hb => .inl (hbase b hb)), below_foot hbw g3 (fun b hb => hmi.c.rep.base b hb) hlo, g3.size⟩
end
end Go.Proofs.YtcpncfngadablaaDoor
