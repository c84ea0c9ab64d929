import Derived.Test.YtkielflmpodapaaD1
namespace Go.Proofs.Ytkielflmpodapaa
open Go.RowKit

/-- The rows of RecsTotal in memory: the order, the three records, the plain order. -/
structure Five (W : World) (n : Nat) (o0 o1 o2 o3 a0 a1 a2 a3 b0 b1 b2 b3 c0 c1 c2 c3 : Int) : Prop where
  o : ∀ i : Nat, W.cell? ⟨n, i, none⟩ = (#[.int .i64 o0, .int .i64 o1, .int .i64 o2, .int .i64 o3] : Array Value)[i]?
  a : ∀ i : Nat, W.cell? ⟨n + 1 + 1, i, none⟩ = (#[.int .u64 a0, .int .u64 a1, .int .u64 a2, .int .u64 a3] : Array Value)[i]?
  b : ∀ i : Nat, W.cell? ⟨n + 1 + 1 + 1, i, none⟩ = (#[.int .u64 b0, .int .u64 b1, .int .u64 b2, .int .u64 b3] : Array Value)[i]?
  c : ∀ i : Nat, W.cell? ⟨n + 1 + 1 + 1 + 1, i, none⟩ = (#[.int .u64 c0, .int .u64 c1, .int .u64 c2, .int .u64 c3] : Array Value)[i]?
  p : ∀ i : Nat, W.cell? ⟨n + 1 + 1 + 1 + 1 + 1, i, none⟩ = (#[.int .i64 0, .int .i64 1, .int .i64 2, .int .i64 3] : Array Value)[i]?

theorem Five.below {X W : World} {n : Nat} {o0 o1 o2 o3 a0 a1 a2 a3 b0 b1 b2 b3 c0 c1 c2 c3 : Int} (h : Five X n o0 o1 o2 o3 a0 a1 a2 a3 b0 b1 b2 b3 c0 c1 c2 c3) (hz : n + 6 ≤ X.heap.size) (hb : Below X.heap.size X W) :
    Five W n o0 o1 o2 o3 a0 a1 a2 a3 b0 b1 b2 b3 c0 c1 c2 c3 :=
  ⟨fun i => (hb.cell (by dsimp only; omega)).trans (h.o i), fun i => (hb.cell (by dsimp only; omega)).trans (h.a i), fun i => (hb.cell (by dsimp only; omega)).trans (h.b i),
    fun i => (hb.cell (by dsimp only; omega)).trans (h.c i), fun i => (hb.cell (by dsimp only; omega)).trans (h.p i)⟩

theorem five_of {w : World} {o0 o1 o2 o3 a0 a1 a2 a3 b0 b1 b2 b3 c0 c1 c2 c3 : Int} : Five ((((((w.alloc (.cells #[.int .i64 o0, .int .i64 o1, .int .i64 o2, .int .i64 o3] 23)).alloc (.cells #[.int .u64 a0, .int .u64 a1, .int .u64 a2, .int .u64 a3, .int .u64 b0, .int .u64 b1, .int .u64 b2, .int .u64 b3, .int .u64 c0, .int .u64 c1, .int .u64 c2, .int .u64 c3] 27)).alloc (.cells #[.int .u64 a0, .int .u64 a1, .int .u64 a2, .int .u64 a3] 26)).alloc (.cells #[.int .u64 b0, .int .u64 b1, .int .u64 b2, .int .u64 b3] 26)).alloc (.cells #[.int .u64 c0, .int .u64 c1, .int .u64 c2, .int .u64 c3] 26)).alloc (.cells #[.int .i64 0, .int .i64 1, .int .i64 2, .int .i64 3] 23)) w.heap.size o0 o1 o2 o3 a0 a1 a2 a3 b0 b1 b2 b3 c0 c1 c2 c3 := by
  refine ⟨fun i => ?_, fun i => ?_, fun i => ?_, fun i => ?_, fun i => ?_⟩
  · rw [World.cell?_alloc_past _ _ _ (by first | (simp; done) | (simp; omega)), World.cell?_alloc_past _ _ _ (by first | (simp; done) | (simp; omega)), World.cell?_alloc_past _ _ _ (by first | (simp; done) | (simp; omega)), World.cell?_alloc_past _ _ _ (by first | (simp; done) | (simp; omega)), World.cell?_alloc_past _ _ _ (by first | (simp; done) | (simp; omega)), World.cell?_alloc_at _ _ _ _ (by simp)]
  · rw [World.cell?_alloc_past _ _ _ (by first | (simp; done) | (simp; omega)), World.cell?_alloc_past _ _ _ (by first | (simp; done) | (simp; omega)), World.cell?_alloc_past _ _ _ (by first | (simp; done) | (simp; omega)), World.cell?_alloc_at _ _ _ _ (by simp)]
  · rw [World.cell?_alloc_past _ _ _ (by first | (simp; done) | (simp; omega)), World.cell?_alloc_past _ _ _ (by first | (simp; done) | (simp; omega)), World.cell?_alloc_at _ _ _ _ (by simp)]
  · rw [World.cell?_alloc_past _ _ _ (by first | (simp; done) | (simp; omega)), World.cell?_alloc_at _ _ _ _ (by simp)]
  · rw [World.cell?_alloc_at _ _ _ _ (by simp)]

/-- Partly filled: the words of a at the first k places of the order. -/
def fillN (a0 a1 a2 a3 o0 o1 o2 o3 : Int) (k j : Nat) : Int := if j < k then pick a0 a1 a2 a3 (nth o0 o1 o2 o3 j) else 0

/-- The calls of RecsTotal, of known numbers. -/
structure Tot (o0 o1 o2 o3 a0 a1 a2 a3 b0 b1 b2 b3 c0 c1 c2 c3 x y z u : Int) : Prop where
  k0 : ∀ W, Calls Try.prog 7 #[.agg #[.int .i64 0, .int .i64 1, .int .i64 2, .int .i64 3]] W fun e w' => e = .returned (.bool true) ∧ Below W.heap.size W w'
  k1 : ∀ W, Calls Try.prog 8 #[.agg #[.int .i64 0, .int .i64 1, .int .i64 2, .int .i64 3], .agg #[.int .u64 0, .int .u64 9, .int .u64 9, .int .u64 9], .agg #[.int .u64 1, .int .u64 0, .int .u64 0, .int .u64 0]] W fun e w' => e = .returned (.int .i64 (-1)) ∧ Below W.heap.size W w'
  k2 : ∀ W, Calls Try.prog 8 #[.agg #[.int .i64 o0, .int .i64 o1, .int .i64 o2, .int .i64 o3], .agg #[.int .u64 a0, .int .u64 a1, .int .u64 a2, .int .u64 a3], .agg #[.int .u64 b0, .int .u64 b1, .int .u64 b2, .int .u64 b3]] W fun e w' => e = .returned (.int .i64 x) ∧ Below W.heap.size W w'
  k3 : ∀ W, Calls Try.prog 8 #[.agg #[.int .i64 o0, .int .i64 o1, .int .i64 o2, .int .i64 o3], .agg #[.int .u64 b0, .int .u64 b1, .int .u64 b2, .int .u64 b3], .agg #[.int .u64 a0, .int .u64 a1, .int .u64 a2, .int .u64 a3]] W fun e w' => e = .returned (.int .i64 y) ∧ Below W.heap.size W w'
  k4 : ∀ W, Calls Try.prog 8 #[.agg #[.int .i64 o0, .int .i64 o1, .int .i64 o2, .int .i64 o3], .agg #[.int .u64 b0, .int .u64 b1, .int .u64 b2, .int .u64 b3], .agg #[.int .u64 c0, .int .u64 c1, .int .u64 c2, .int .u64 c3]] W fun e w' => e = .returned (.int .i64 z) ∧ Below W.heap.size W w'
  k5 : ∀ W, Calls Try.prog 8 #[.agg #[.int .i64 o0, .int .i64 o1, .int .i64 o2, .int .i64 o3], .agg #[.int .u64 a0, .int .u64 a1, .int .u64 a2, .int .u64 a3], .agg #[.int .u64 c0, .int .u64 c1, .int .u64 c2, .int .u64 c3]] W fun e w' => e = .returned (.int .i64 u) ∧ Below W.heap.size W w'
  q : ∀ W, (Op.equalIn 10000 26 (.agg #[.int .u64 a0, .int .u64 a1, .int .u64 a2, .int .u64 a3]) (.agg #[.int .u64 b0, .int .u64 b1, .int .u64 b2, .int .u64 b3])).run Try.prog W = .ok (x == 0) W

set_option maxHeartbeats 4000000 in
theorem total_zz_n (o0 o1 o2 o3 a0 a1 a2 a3 b0 b1 b2 b3 c0 c1 c2 c3 x y z u : Int) (w : World) (K : Tot o0 o1 o2 o3 a0 a1 a2 a3 b0 b1 b2 b3 c0 c1 c2 c3 x y z u)
    (hy1 : -1 ≤ y) (hy2 : y ≤ 1) (hyx : -y = x) (hx1 : -1 ≤ x) (hx2 : x ≤ 1) (hx : x ≤ 0) (hz : z ≤ 0) (hu : u ≤ 0)
    (k6 : ∀ W, Calls Try.prog 7 #[.agg #[.int .i64 o0, .int .i64 o1, .int .i64 o2, .int .i64 o3]] W fun e w' => e = .returned (.bool false) ∧ Below W.heap.size W w')
    (k7 : ∀ W, Calls Try.prog 8 #[.agg #[.int .i64 0, .int .i64 1, .int .i64 2, .int .i64 3], .agg #[.int .u64 a0, .int .u64 a1, .int .u64 a2, .int .u64 a3], .agg #[.int .u64 b0, .int .u64 b1, .int .u64 b2, .int .u64 b3]] W fun e w' => e = .returned (.int .i64 x) ∧ Below W.heap.size W w') :
    Calls Try.prog 3 #[.agg #[.int .i64 o0, .int .i64 o1, .int .i64 o2, .int .i64 o3], .agg #[.int .u64 a0, .int .u64 a1, .int .u64 a2, .int .u64 a3, .int .u64 b0, .int .u64 b1, .int .u64 b2, .int .u64 b3, .int .u64 c0, .int .u64 c1, .int .u64 c2, .int .u64 c3]] w fun e w' =>
      e = .returned (.bool true) ∧ Below w.heap.size w w' := by
  obtain ⟨k0, k1, k2, k3, k4, k5, kq⟩ := K
  go_enter Try.func3, Try.ntmps3
  go_wp2_with fail
  obtain ⟨X, hX⟩ : ∃ X, X = ((((((w.alloc (.cells #[.int .i64 o0, .int .i64 o1, .int .i64 o2, .int .i64 o3] 23)).alloc (.cells #[.int .u64 a0, .int .u64 a1, .int .u64 a2, .int .u64 a3, .int .u64 b0, .int .u64 b1, .int .u64 b2, .int .u64 b3, .int .u64 c0, .int .u64 c1, .int .u64 c2, .int .u64 c3] 27)).alloc (.cells #[.int .u64 a0, .int .u64 a1, .int .u64 a2, .int .u64 a3] 26)).alloc (.cells #[.int .u64 b0, .int .u64 b1, .int .u64 b2, .int .u64 b3] 26)).alloc (.cells #[.int .u64 c0, .int .u64 c1, .int .u64 c2, .int .u64 c3] 26)).alloc (.cells #[.int .i64 0, .int .i64 1, .int .i64 2, .int .i64 3] 23)) := ⟨_, rfl⟩
  have HBX : Hid (Below w.heap.size w X) := hid (by rw [hX]; exact ((((((Below.refl _ _).alloc (Nat.le_refl _) _).alloc (by simp) _).alloc (by first | (simp; done) | (simp; omega)) _).alloc (by first | (simp; done) | (simp; omega)) _).alloc (by first | (simp; done) | (simp; omega)) _).alloc (by first | (simp; done) | (simp; omega)) _)
  have HF : Hid (Five X w.heap.size o0 o1 o2 o3 a0 a1 a2 a3 b0 b1 b2 b3 c0 c1 c2 c3) := hid (by rw [hX]; exact five_of)
  have HZ : Hid (w.heap.size + 6 ≤ X.heap.size) := hid (by rw [hX]; simp)
  rw [← hX]
  clear hX
  refine Calls.mono (k0 _) ?_
  rintro _ w1 ⟨rfl, hb1⟩
  have F1 := HF.out.below HZ.out hb1
  have fo1 := F1.o
  have fa1 := F1.a
  have fb1 := F1.b
  have fc1 := F1.c
  have fp1 := F1.p
  have T1 := hid hb1
  clear hb1 F1 k0
  go_wp2_with (first
    | (go_at_call 8; with_reducible refine Calls.mono (k7 _) ?_; rintro _ w8 ⟨rfl, hb8⟩; have hx8 := Below.on T7.out hb8; have F8 := HF.out.below HZ.out hx8; have fo8 := F8.o; have fa8 := F8.a; have fb8 := F8.b; have fc8 := F8.c; have fp8 := F8.p; have T8 := hid hx8; have G8 := hid F8; clear hb8 hx8 F8 fo7 fa7 fb7 fc7 fp7)
    | (go_at_call 7; with_reducible refine Calls.mono (k6 _) ?_; rintro _ w7 ⟨rfl, hb7⟩; have hx7 := Below.on T6.out hb7; have F7 := HF.out.below HZ.out hx7; have fo7 := F7.o; have fa7 := F7.a; have fb7 := F7.b; have fc7 := F7.c; have fp7 := F7.p; have T7 := hid hx7; have G7 := hid F7; clear hb7 hx7 F7 fo6 fa6 fb6 fc6 fp6)
    | (go_at_call 8; with_reducible refine Calls.mono (k5 _) ?_; rintro _ w6 ⟨rfl, hb6⟩; have hx6 := Below.on T5.out hb6; have F6 := HF.out.below HZ.out hx6; have fo6 := F6.o; have fa6 := F6.a; have fb6 := F6.b; have fc6 := F6.c; have fp6 := F6.p; have T6 := hid hx6; have G6 := hid F6; clear hb6 hx6 F6 fo5 fa5 fb5 fc5 fp5)
    | (go_at_call 8; with_reducible refine Calls.mono (k4 _) ?_; rintro _ w5 ⟨rfl, hb5⟩; have hx5 := Below.on T4.out hb5; have F5 := HF.out.below HZ.out hx5; have fo5 := F5.o; have fa5 := F5.a; have fb5 := F5.b; have fc5 := F5.c; have fp5 := F5.p; have T5 := hid hx5; have G5 := hid F5; clear hb5 hx5 F5 fo4 fa4 fb4 fc4 fp4)
    | (go_at_call 8; with_reducible refine Calls.mono (k3 _) ?_; rintro _ w4 ⟨rfl, hb4⟩; have hx4 := Below.on T3.out hb4; have F4 := HF.out.below HZ.out hx4; have fo4 := F4.o; have fa4 := F4.a; have fb4 := F4.b; have fc4 := F4.c; have fp4 := F4.p; have T4 := hid hx4; have G4 := hid F4; clear hb4 hx4 F4 fo3 fa3 fb3 fc3 fp3)
    | (go_at_call 8; with_reducible refine Calls.mono (k2 _) ?_; rintro _ w3 ⟨rfl, hb3⟩; have hx3 := Below.on T2.out hb3; have F3 := HF.out.below HZ.out hx3; have fo3 := F3.o; have fa3 := F3.a; have fb3 := F3.b; have fc3 := F3.c; have fp3 := F3.p; have T3 := hid hx3; have G3 := hid F3; clear hb3 hx3 F3 fo2 fa2 fb2 fc2 fp2)
    | (go_at_call 8; with_reducible refine Calls.mono (k1 _) ?_; rintro _ w2 ⟨rfl, hb2⟩; have hx2 := Below.on T1.out hb2; have F2 := HF.out.below HZ.out hx2; have fo2 := F2.o; have fa2 := F2.a; have fb2 := F2.b; have fc2 := F2.c; have fp2 := F2.p; have T2 := hid hx2; have G2 := hid F2; clear hb2 hx2 F2 fo1 fa1 fb1 fc1 fp1))
  go_ret
  exact ⟨rfl, HBX.out.trans (T8.out.mono HBX.out.size)⟩

set_option maxHeartbeats 4000000 in
theorem total_zp_n (o0 o1 o2 o3 a0 a1 a2 a3 b0 b1 b2 b3 c0 c1 c2 c3 x y z u : Int) (w : World) (K : Tot o0 o1 o2 o3 a0 a1 a2 a3 b0 b1 b2 b3 c0 c1 c2 c3 x y z u)
    (hy1 : -1 ≤ y) (hy2 : y ≤ 1) (hyx : -y = x) (hx1 : -1 ≤ x) (hx2 : x ≤ 1) (hx : x ≤ 0) (hz : 0 < z)
    (k6 : ∀ W, Calls Try.prog 7 #[.agg #[.int .i64 o0, .int .i64 o1, .int .i64 o2, .int .i64 o3]] W fun e w' => e = .returned (.bool false) ∧ Below W.heap.size W w')
    (k7 : ∀ W, Calls Try.prog 8 #[.agg #[.int .i64 0, .int .i64 1, .int .i64 2, .int .i64 3], .agg #[.int .u64 a0, .int .u64 a1, .int .u64 a2, .int .u64 a3], .agg #[.int .u64 b0, .int .u64 b1, .int .u64 b2, .int .u64 b3]] W fun e w' => e = .returned (.int .i64 x) ∧ Below W.heap.size W w') :
    Calls Try.prog 3 #[.agg #[.int .i64 o0, .int .i64 o1, .int .i64 o2, .int .i64 o3], .agg #[.int .u64 a0, .int .u64 a1, .int .u64 a2, .int .u64 a3, .int .u64 b0, .int .u64 b1, .int .u64 b2, .int .u64 b3, .int .u64 c0, .int .u64 c1, .int .u64 c2, .int .u64 c3]] w fun e w' =>
      e = .returned (.bool true) ∧ Below w.heap.size w w' := by
  obtain ⟨k0, k1, k2, k3, k4, k5, kq⟩ := K
  clear k5
  go_enter Try.func3, Try.ntmps3
  go_wp2_with fail
  obtain ⟨X, hX⟩ : ∃ X, X = ((((((w.alloc (.cells #[.int .i64 o0, .int .i64 o1, .int .i64 o2, .int .i64 o3] 23)).alloc (.cells #[.int .u64 a0, .int .u64 a1, .int .u64 a2, .int .u64 a3, .int .u64 b0, .int .u64 b1, .int .u64 b2, .int .u64 b3, .int .u64 c0, .int .u64 c1, .int .u64 c2, .int .u64 c3] 27)).alloc (.cells #[.int .u64 a0, .int .u64 a1, .int .u64 a2, .int .u64 a3] 26)).alloc (.cells #[.int .u64 b0, .int .u64 b1, .int .u64 b2, .int .u64 b3] 26)).alloc (.cells #[.int .u64 c0, .int .u64 c1, .int .u64 c2, .int .u64 c3] 26)).alloc (.cells #[.int .i64 0, .int .i64 1, .int .i64 2, .int .i64 3] 23)) := ⟨_, rfl⟩
  have HBX : Hid (Below w.heap.size w X) := hid (by rw [hX]; exact ((((((Below.refl _ _).alloc (Nat.le_refl _) _).alloc (by simp) _).alloc (by first | (simp; done) | (simp; omega)) _).alloc (by first | (simp; done) | (simp; omega)) _).alloc (by first | (simp; done) | (simp; omega)) _).alloc (by first | (simp; done) | (simp; omega)) _)
  have HF : Hid (Five X w.heap.size o0 o1 o2 o3 a0 a1 a2 a3 b0 b1 b2 b3 c0 c1 c2 c3) := hid (by rw [hX]; exact five_of)
  have HZ : Hid (w.heap.size + 6 ≤ X.heap.size) := hid (by rw [hX]; simp)
  rw [← hX]
  clear hX
  refine Calls.mono (k0 _) ?_
  rintro _ w1 ⟨rfl, hb1⟩
  have F1 := HF.out.below HZ.out hb1
  have fo1 := F1.o
  have fa1 := F1.a
  have fb1 := F1.b
  have fc1 := F1.c
  have fp1 := F1.p
  have T1 := hid hb1
  clear hb1 F1 k0
  go_wp2_with (first
    | (go_at_call 8; with_reducible refine Calls.mono (k7 _) ?_; rintro _ w7 ⟨rfl, hb7⟩; have hx7 := Below.on T6.out hb7; have F7 := HF.out.below HZ.out hx7; have fo7 := F7.o; have fa7 := F7.a; have fb7 := F7.b; have fc7 := F7.c; have fp7 := F7.p; have T7 := hid hx7; have G7 := hid F7; clear hb7 hx7 F7 fo6 fa6 fb6 fc6 fp6)
    | (go_at_call 7; with_reducible refine Calls.mono (k6 _) ?_; rintro _ w6 ⟨rfl, hb6⟩; have hx6 := Below.on T5.out hb6; have F6 := HF.out.below HZ.out hx6; have fo6 := F6.o; have fa6 := F6.a; have fb6 := F6.b; have fc6 := F6.c; have fp6 := F6.p; have T6 := hid hx6; have G6 := hid F6; clear hb6 hx6 F6 fo5 fa5 fb5 fc5 fp5)
    | (go_at_call 8; with_reducible refine Calls.mono (k4 _) ?_; rintro _ w5 ⟨rfl, hb5⟩; have hx5 := Below.on T4.out hb5; have F5 := HF.out.below HZ.out hx5; have fo5 := F5.o; have fa5 := F5.a; have fb5 := F5.b; have fc5 := F5.c; have fp5 := F5.p; have T5 := hid hx5; have G5 := hid F5; clear hb5 hx5 F5 fo4 fa4 fb4 fc4 fp4)
    | (go_at_call 8; with_reducible refine Calls.mono (k3 _) ?_; rintro _ w4 ⟨rfl, hb4⟩; have hx4 := Below.on T3.out hb4; have F4 := HF.out.below HZ.out hx4; have fo4 := F4.o; have fa4 := F4.a; have fb4 := F4.b; have fc4 := F4.c; have fp4 := F4.p; have T4 := hid hx4; have G4 := hid F4; clear hb4 hx4 F4 fo3 fa3 fb3 fc3 fp3)
    | (go_at_call 8; with_reducible refine Calls.mono (k2 _) ?_; rintro _ w3 ⟨rfl, hb3⟩; have hx3 := Below.on T2.out hb3; have F3 := HF.out.below HZ.out hx3; have fo3 := F3.o; have fa3 := F3.a; have fb3 := F3.b; have fc3 := F3.c; have fp3 := F3.p; have T3 := hid hx3; have G3 := hid F3; clear hb3 hx3 F3 fo2 fa2 fb2 fc2 fp2)
    | (go_at_call 8; with_reducible refine Calls.mono (k1 _) ?_; rintro _ w2 ⟨rfl, hb2⟩; have hx2 := Below.on T1.out hb2; have F2 := HF.out.below HZ.out hx2; have fo2 := F2.o; have fa2 := F2.a; have fb2 := F2.b; have fc2 := F2.c; have fp2 := F2.p; have T2 := hid hx2; have G2 := hid F2; clear hb2 hx2 F2 fo1 fa1 fb1 fc1 fp1))
  go_ret
  exact ⟨rfl, HBX.out.trans (T7.out.mono HBX.out.size)⟩

set_option maxHeartbeats 4000000 in
theorem total_p_n (o0 o1 o2 o3 a0 a1 a2 a3 b0 b1 b2 b3 c0 c1 c2 c3 x y z u : Int) (w : World) (K : Tot o0 o1 o2 o3 a0 a1 a2 a3 b0 b1 b2 b3 c0 c1 c2 c3 x y z u)
    (hy1 : -1 ≤ y) (hy2 : y ≤ 1) (hyx : -y = x) (hx1 : -1 ≤ x) (hx2 : x ≤ 1) (hx : 0 < x)
    (k6 : ∀ W, Calls Try.prog 7 #[.agg #[.int .i64 o0, .int .i64 o1, .int .i64 o2, .int .i64 o3]] W fun e w' => e = .returned (.bool false) ∧ Below W.heap.size W w')
    (k7 : ∀ W, Calls Try.prog 8 #[.agg #[.int .i64 0, .int .i64 1, .int .i64 2, .int .i64 3], .agg #[.int .u64 a0, .int .u64 a1, .int .u64 a2, .int .u64 a3], .agg #[.int .u64 b0, .int .u64 b1, .int .u64 b2, .int .u64 b3]] W fun e w' => e = .returned (.int .i64 x) ∧ Below W.heap.size W w') :
    Calls Try.prog 3 #[.agg #[.int .i64 o0, .int .i64 o1, .int .i64 o2, .int .i64 o3], .agg #[.int .u64 a0, .int .u64 a1, .int .u64 a2, .int .u64 a3, .int .u64 b0, .int .u64 b1, .int .u64 b2, .int .u64 b3, .int .u64 c0, .int .u64 c1, .int .u64 c2, .int .u64 c3]] w fun e w' =>
      e = .returned (.bool true) ∧ Below w.heap.size w w' := by
  obtain ⟨k0, k1, k2, k3, k4, k5, kq⟩ := K
  clear k5
  go_enter Try.func3, Try.ntmps3
  go_wp2_with fail
  obtain ⟨X, hX⟩ : ∃ X, X = ((((((w.alloc (.cells #[.int .i64 o0, .int .i64 o1, .int .i64 o2, .int .i64 o3] 23)).alloc (.cells #[.int .u64 a0, .int .u64 a1, .int .u64 a2, .int .u64 a3, .int .u64 b0, .int .u64 b1, .int .u64 b2, .int .u64 b3, .int .u64 c0, .int .u64 c1, .int .u64 c2, .int .u64 c3] 27)).alloc (.cells #[.int .u64 a0, .int .u64 a1, .int .u64 a2, .int .u64 a3] 26)).alloc (.cells #[.int .u64 b0, .int .u64 b1, .int .u64 b2, .int .u64 b3] 26)).alloc (.cells #[.int .u64 c0, .int .u64 c1, .int .u64 c2, .int .u64 c3] 26)).alloc (.cells #[.int .i64 0, .int .i64 1, .int .i64 2, .int .i64 3] 23)) := ⟨_, rfl⟩
  have HBX : Hid (Below w.heap.size w X) := hid (by rw [hX]; exact ((((((Below.refl _ _).alloc (Nat.le_refl _) _).alloc (by simp) _).alloc (by first | (simp; done) | (simp; omega)) _).alloc (by first | (simp; done) | (simp; omega)) _).alloc (by first | (simp; done) | (simp; omega)) _).alloc (by first | (simp; done) | (simp; omega)) _)
  have HF : Hid (Five X w.heap.size o0 o1 o2 o3 a0 a1 a2 a3 b0 b1 b2 b3 c0 c1 c2 c3) := hid (by rw [hX]; exact five_of)
  have HZ : Hid (w.heap.size + 6 ≤ X.heap.size) := hid (by rw [hX]; simp)
  rw [← hX]
  clear hX
  refine Calls.mono (k0 _) ?_
  rintro _ w1 ⟨rfl, hb1⟩
  have F1 := HF.out.below HZ.out hb1
  have fo1 := F1.o
  have fa1 := F1.a
  have fb1 := F1.b
  have fc1 := F1.c
  have fp1 := F1.p
  have T1 := hid hb1
  clear hb1 F1 k0
  go_wp2_with (first
    | (go_at_call 8; with_reducible refine Calls.mono (k7 _) ?_; rintro _ w7 ⟨rfl, hb7⟩; have hx7 := Below.on T6.out hb7; have F7 := HF.out.below HZ.out hx7; have fo7 := F7.o; have fa7 := F7.a; have fb7 := F7.b; have fc7 := F7.c; have fp7 := F7.p; have T7 := hid hx7; have G7 := hid F7; clear hb7 hx7 F7 fo6 fa6 fb6 fc6 fp6)
    | (go_at_call 7; with_reducible refine Calls.mono (k6 _) ?_; rintro _ w6 ⟨rfl, hb6⟩; have hx6 := Below.on T5.out hb6; have F6 := HF.out.below HZ.out hx6; have fo6 := F6.o; have fa6 := F6.a; have fb6 := F6.b; have fc6 := F6.c; have fp6 := F6.p; have T6 := hid hx6; have G6 := hid F6; clear hb6 hx6 F6 fo5 fa5 fb5 fc5 fp5)
    | (go_at_call 8; with_reducible refine Calls.mono (k4 _) ?_; rintro _ w5 ⟨rfl, hb5⟩; have hx5 := Below.on T4.out hb5; have F5 := HF.out.below HZ.out hx5; have fo5 := F5.o; have fa5 := F5.a; have fb5 := F5.b; have fc5 := F5.c; have fp5 := F5.p; have T5 := hid hx5; have G5 := hid F5; clear hb5 hx5 F5 fo4 fa4 fb4 fc4 fp4)
    | (go_at_call 8; with_reducible refine Calls.mono (k3 _) ?_; rintro _ w4 ⟨rfl, hb4⟩; have hx4 := Below.on T3.out hb4; have F4 := HF.out.below HZ.out hx4; have fo4 := F4.o; have fa4 := F4.a; have fb4 := F4.b; have fc4 := F4.c; have fp4 := F4.p; have T4 := hid hx4; have G4 := hid F4; clear hb4 hx4 F4 fo3 fa3 fb3 fc3 fp3)
    | (go_at_call 8; with_reducible refine Calls.mono (k2 _) ?_; rintro _ w3 ⟨rfl, hb3⟩; have hx3 := Below.on T2.out hb3; have F3 := HF.out.below HZ.out hx3; have fo3 := F3.o; have fa3 := F3.a; have fb3 := F3.b; have fc3 := F3.c; have fp3 := F3.p; have T3 := hid hx3; have G3 := hid F3; clear hb3 hx3 F3 fo2 fa2 fb2 fc2 fp2)
    | (go_at_call 8; with_reducible refine Calls.mono (k1 _) ?_; rintro _ w2 ⟨rfl, hb2⟩; have hx2 := Below.on T1.out hb2; have F2 := HF.out.below HZ.out hx2; have fo2 := F2.o; have fa2 := F2.a; have fb2 := F2.b; have fc2 := F2.c; have fp2 := F2.p; have T2 := hid hx2; have G2 := hid F2; clear hb2 hx2 F2 fo1 fa1 fb1 fc1 fp1))
  go_ret
  exact ⟨rfl, HBX.out.trans (T7.out.mono HBX.out.size)⟩

set_option maxHeartbeats 4000000 in
theorem total_zz_s (o0 o1 o2 o3 a0 a1 a2 a3 b0 b1 b2 b3 c0 c1 c2 c3 x y z u : Int) (w : World) (K : Tot o0 o1 o2 o3 a0 a1 a2 a3 b0 b1 b2 b3 c0 c1 c2 c3 x y z u)
    (hy1 : -1 ≤ y) (hy2 : y ≤ 1) (hyx : -y = x) (hx1 : -1 ≤ x) (hx2 : x ≤ 1) (hx : x ≤ 0) (hz : z ≤ 0) (hu : u ≤ 0)
    (k6 : ∀ W, Calls Try.prog 7 #[.agg #[.int .i64 o0, .int .i64 o1, .int .i64 o2, .int .i64 o3]] W fun e w' => e = .returned (.bool true) ∧ Below W.heap.size W w') (HS : Hid (SoundO o0 o1 o2 o3))
    (k7 : ∀ W, Calls Try.prog 8 #[.agg #[.int .i64 0, .int .i64 1, .int .i64 2, .int .i64 3], .agg #[.int .u64 (pick a0 a1 a2 a3 o0), .int .u64 (pick a0 a1 a2 a3 o1), .int .u64 (pick a0 a1 a2 a3 o2), .int .u64 (pick a0 a1 a2 a3 o3)], .agg #[.int .u64 (pick b0 b1 b2 b3 o0), .int .u64 (pick b0 b1 b2 b3 o1), .int .u64 (pick b0 b1 b2 b3 o2), .int .u64 (pick b0 b1 b2 b3 o3)]] W fun e w' => e = .returned (.int .i64 x) ∧ Below W.heap.size W w') :
    Calls Try.prog 3 #[.agg #[.int .i64 o0, .int .i64 o1, .int .i64 o2, .int .i64 o3], .agg #[.int .u64 a0, .int .u64 a1, .int .u64 a2, .int .u64 a3, .int .u64 b0, .int .u64 b1, .int .u64 b2, .int .u64 b3, .int .u64 c0, .int .u64 c1, .int .u64 c2, .int .u64 c3]] w fun e w' =>
      e = .returned (.bool true) ∧ Below w.heap.size w w' := by
  obtain ⟨k0, k1, k2, k3, k4, k5, kq⟩ := K
  go_enter Try.func3, Try.ntmps3
  go_wp2_with fail
  obtain ⟨X, hX⟩ : ∃ X, X = ((((((w.alloc (.cells #[.int .i64 o0, .int .i64 o1, .int .i64 o2, .int .i64 o3] 23)).alloc (.cells #[.int .u64 a0, .int .u64 a1, .int .u64 a2, .int .u64 a3, .int .u64 b0, .int .u64 b1, .int .u64 b2, .int .u64 b3, .int .u64 c0, .int .u64 c1, .int .u64 c2, .int .u64 c3] 27)).alloc (.cells #[.int .u64 a0, .int .u64 a1, .int .u64 a2, .int .u64 a3] 26)).alloc (.cells #[.int .u64 b0, .int .u64 b1, .int .u64 b2, .int .u64 b3] 26)).alloc (.cells #[.int .u64 c0, .int .u64 c1, .int .u64 c2, .int .u64 c3] 26)).alloc (.cells #[.int .i64 0, .int .i64 1, .int .i64 2, .int .i64 3] 23)) := ⟨_, rfl⟩
  have HBX : Hid (Below w.heap.size w X) := hid (by rw [hX]; exact ((((((Below.refl _ _).alloc (Nat.le_refl _) _).alloc (by simp) _).alloc (by first | (simp; done) | (simp; omega)) _).alloc (by first | (simp; done) | (simp; omega)) _).alloc (by first | (simp; done) | (simp; omega)) _).alloc (by first | (simp; done) | (simp; omega)) _)
  have HF : Hid (Five X w.heap.size o0 o1 o2 o3 a0 a1 a2 a3 b0 b1 b2 b3 c0 c1 c2 c3) := hid (by rw [hX]; exact five_of)
  have HZ : Hid (w.heap.size + 6 ≤ X.heap.size) := hid (by rw [hX]; simp)
  rw [← hX]
  clear hX
  refine Calls.mono (k0 _) ?_
  rintro _ w1 ⟨rfl, hb1⟩
  have F1 := HF.out.below HZ.out hb1
  have fo1 := F1.o
  have fa1 := F1.a
  have fb1 := F1.b
  have fc1 := F1.c
  have fp1 := F1.p
  have T1 := hid hb1
  clear hb1 F1 k0
  go_wp2_with (first
    | (go_at_call 7; with_reducible refine Calls.mono (k6 _) ?_; rintro _ w7 ⟨rfl, hb7⟩; have hx7 := Below.on T6.out hb7; have F7 := HF.out.below HZ.out hx7; have fo7 := F7.o; have fa7 := F7.a; have fb7 := F7.b; have fc7 := F7.c; have fp7 := F7.p; have T7 := hid hx7; have G7 := hid F7; clear hb7 hx7 F7 fo6 fa6 fb6 fc6 fp6)
    | (go_at_call 8; with_reducible refine Calls.mono (k5 _) ?_; rintro _ w6 ⟨rfl, hb6⟩; have hx6 := Below.on T5.out hb6; have F6 := HF.out.below HZ.out hx6; have fo6 := F6.o; have fa6 := F6.a; have fb6 := F6.b; have fc6 := F6.c; have fp6 := F6.p; have T6 := hid hx6; have G6 := hid F6; clear hb6 hx6 F6 fo5 fa5 fb5 fc5 fp5)
    | (go_at_call 8; with_reducible refine Calls.mono (k4 _) ?_; rintro _ w5 ⟨rfl, hb5⟩; have hx5 := Below.on T4.out hb5; have F5 := HF.out.below HZ.out hx5; have fo5 := F5.o; have fa5 := F5.a; have fb5 := F5.b; have fc5 := F5.c; have fp5 := F5.p; have T5 := hid hx5; have G5 := hid F5; clear hb5 hx5 F5 fo4 fa4 fb4 fc4 fp4)
    | (go_at_call 8; with_reducible refine Calls.mono (k3 _) ?_; rintro _ w4 ⟨rfl, hb4⟩; have hx4 := Below.on T3.out hb4; have F4 := HF.out.below HZ.out hx4; have fo4 := F4.o; have fa4 := F4.a; have fb4 := F4.b; have fc4 := F4.c; have fp4 := F4.p; have T4 := hid hx4; have G4 := hid F4; clear hb4 hx4 F4 fo3 fa3 fb3 fc3 fp3)
    | (go_at_call 8; with_reducible refine Calls.mono (k2 _) ?_; rintro _ w3 ⟨rfl, hb3⟩; have hx3 := Below.on T2.out hb3; have F3 := HF.out.below HZ.out hx3; have fo3 := F3.o; have fa3 := F3.a; have fb3 := F3.b; have fc3 := F3.c; have fp3 := F3.p; have T3 := hid hx3; have G3 := hid F3; clear hb3 hx3 F3 fo2 fa2 fb2 fc2 fp2)
    | (go_at_call 8; with_reducible refine Calls.mono (k1 _) ?_; rintro _ w2 ⟨rfl, hb2⟩; have hx2 := Below.on T1.out hb2; have F2 := HF.out.below HZ.out hx2; have fo2 := F2.o; have fa2 := F2.a; have fb2 := F2.b; have fc2 := F2.c; have fp2 := F2.p; have T2 := hid hx2; have G2 := hid F2; clear hb2 hx2 F2 fo1 fa1 fb1 fc1 fp1))
  have z0 : w.heap.size < w7.heap.size := by have e1 := HZ.out; have e2 := T7.out.size; omega
  have zA : w.heap.size + 1 < w7.heap.size := by have e1 := HZ.out; have e2 := T7.out.size; omega
  have zB : w.heap.size + 1 + 1 + 1 + 1 < w7.heap.size := by have e1 := HZ.out; have e2 := T7.out.size; omega
  have z1 : w.heap.size + 1 + 1 < w7.heap.size := by have e1 := HZ.out; have e2 := T7.out.size; omega
  have z2 : w.heap.size + 1 + 1 + 1 < w7.heap.size := by have e1 := HZ.out; have e2 := T7.out.size; omega
  have z3 : w.heap.size + 1 + 1 + 1 + 1 + 1 < w7.heap.size := by have e1 := HZ.out; have e2 := T7.out.size; omega
  go_loopw [14] (fun i W => ∃ k : Nat, k ≤ 4 ∧ i = .int .i64 k ∧ W = (w7.alloc (.cells #[.int .u64 (fillN a0 a1 a2 a3 o0 o1 o2 o3 k 0), .int .u64 (fillN a0 a1 a2 a3 o0 o1 o2 o3 k 1), .int .u64 (fillN a0 a1 a2 a3 o0 o1 o2 o3 k 2), .int .u64 (fillN a0 a1 a2 a3 o0 o1 o2 o3 k 3)] 26)).alloc (.cells #[.int .u64 (fillN b0 b1 b2 b3 o0 o1 o2 o3 k 0), .int .u64 (fillN b0 b1 b2 b3 o0 o1 o2 o3 k 1), .int .u64 (fillN b0 b1 b2 b3 o0 o1 o2 o3 k 2), .int .u64 (fillN b0 b1 b2 b3 o0 o1 o2 o3 k 3)] 26))
    (fun i _ => 4 - (intOf i).toNat)
  case atStart => exact ⟨0, Nat.zero_le _, rfl, rfl⟩
  case round =>
    obtain ⟨k, hk, rfl, rfl⟩ := hrel
    by_cases hlt : k < 4
    · have hk4 : k = 0 ∨ k = 1 ∨ k = 2 ∨ k = 3 := by omega
      have HG := sound_range HS.out
      rcases hk4 with rfl | rfl | rfl | rfl
      · have hv : o0 = 0 ∨ o0 = 1 ∨ o0 = 2 ∨ o0 = 3 := by have := HG.1; omega
        clear HG HS T7 HBX HF HZ k7
        simp only [fillN, nth]
        clear fc7 fp7
        rcases hv with rfl | rfl | rfl | rfl
        · go_wp2
          exact ⟨⟨1, by omega, by go_num, by simp [pick]⟩, by simp [intOf]⟩
        · go_wp2
          exact ⟨⟨1, by omega, by go_num, by simp [pick]⟩, by simp [intOf]⟩
        · go_wp2
          exact ⟨⟨1, by omega, by go_num, by simp [pick]⟩, by simp [intOf]⟩
        · go_wp2
          exact ⟨⟨1, by omega, by go_num, by simp [pick]⟩, by simp [intOf]⟩
      · have hv : o1 = 0 ∨ o1 = 1 ∨ o1 = 2 ∨ o1 = 3 := by have := HG.2.1; omega
        clear HG HS T7 HBX HF HZ k7
        simp only [fillN, nth]
        clear fc7 fp7
        rcases hv with rfl | rfl | rfl | rfl
        · go_wp2
          exact ⟨⟨2, by omega, by go_num, by simp [pick]⟩, by simp [intOf]⟩
        · go_wp2
          exact ⟨⟨2, by omega, by go_num, by simp [pick]⟩, by simp [intOf]⟩
        · go_wp2
          exact ⟨⟨2, by omega, by go_num, by simp [pick]⟩, by simp [intOf]⟩
        · go_wp2
          exact ⟨⟨2, by omega, by go_num, by simp [pick]⟩, by simp [intOf]⟩
      · have hv : o2 = 0 ∨ o2 = 1 ∨ o2 = 2 ∨ o2 = 3 := by have := HG.2.2.1; omega
        clear HG HS T7 HBX HF HZ k7
        simp only [fillN, nth]
        clear fc7 fp7
        rcases hv with rfl | rfl | rfl | rfl
        · go_wp2
          exact ⟨⟨3, by omega, by go_num, by simp [pick]⟩, by simp [intOf]⟩
        · go_wp2
          exact ⟨⟨3, by omega, by go_num, by simp [pick]⟩, by simp [intOf]⟩
        · go_wp2
          exact ⟨⟨3, by omega, by go_num, by simp [pick]⟩, by simp [intOf]⟩
        · go_wp2
          exact ⟨⟨3, by omega, by go_num, by simp [pick]⟩, by simp [intOf]⟩
      · have hv : o3 = 0 ∨ o3 = 1 ∨ o3 = 2 ∨ o3 = 3 := by have := HG.2.2.2; omega
        clear HG HS T7 HBX HF HZ k7
        simp only [fillN, nth]
        clear fc7 fp7
        rcases hv with rfl | rfl | rfl | rfl
        · go_wp2
          exact ⟨⟨4, by omega, by go_num, by simp [pick]⟩, by simp [intOf]⟩
        · go_wp2
          exact ⟨⟨4, by omega, by go_num, by simp [pick]⟩, by simp [intOf]⟩
        · go_wp2
          exact ⟨⟨4, by omega, by go_num, by simp [pick]⟩, by simp [intOf]⟩
        · go_wp2
          exact ⟨⟨4, by omega, by go_num, by simp [pick]⟩, by simp [intOf]⟩
    · obtain rfl : k = 4 := by omega
      have HB9 : Hid (Below X.heap.size X ((w7.alloc (.cells #[.int .u64 (fillN a0 a1 a2 a3 o0 o1 o2 o3 4 0), .int .u64 (fillN a0 a1 a2 a3 o0 o1 o2 o3 4 1), .int .u64 (fillN a0 a1 a2 a3 o0 o1 o2 o3 4 2), .int .u64 (fillN a0 a1 a2 a3 o0 o1 o2 o3 4 3)] 26)).alloc (.cells #[.int .u64 (fillN b0 b1 b2 b3 o0 o1 o2 o3 4 0), .int .u64 (fillN b0 b1 b2 b3 o0 o1 o2 o3 4 1), .int .u64 (fillN b0 b1 b2 b3 o0 o1 o2 o3 4 2), .int .u64 (fillN b0 b1 b2 b3 o0 o1 o2 o3 4 3)] 26))) := hid ((T7.out.alloc T7.out.size _).alloc (by have := T7.out.size; simp; omega) _)
      simp only [fillN, nth, show (0 : Nat) < 4 from by omega, show (1 : Nat) < 4 from by omega, show (2 : Nat) < 4 from by omega, show (3 : Nat) < 4 from by omega, if_true] at HB9 ⊢
      obtain ⟨a0', ea0⟩ : ∃ q, q = pick a0 a1 a2 a3 o0 := ⟨_, rfl⟩
      obtain ⟨b0', eb0⟩ : ∃ q, q = pick b0 b1 b2 b3 o0 := ⟨_, rfl⟩
      obtain ⟨a1', ea1⟩ : ∃ q, q = pick a0 a1 a2 a3 o1 := ⟨_, rfl⟩
      obtain ⟨b1', eb1⟩ : ∃ q, q = pick b0 b1 b2 b3 o1 := ⟨_, rfl⟩
      obtain ⟨a2', ea2⟩ : ∃ q, q = pick a0 a1 a2 a3 o2 := ⟨_, rfl⟩
      obtain ⟨b2', eb2⟩ : ∃ q, q = pick b0 b1 b2 b3 o2 := ⟨_, rfl⟩
      obtain ⟨a3', ea3⟩ : ∃ q, q = pick a0 a1 a2 a3 o3 := ⟨_, rfl⟩
      obtain ⟨b3', eb3⟩ : ∃ q, q = pick b0 b1 b2 b3 o3 := ⟨_, rfl⟩
      rw [← ea0, ← ea1, ← ea2, ← ea3, ← eb0, ← eb1, ← eb2, ← eb3] at k7 HB9 ⊢
      clear ea0 ea1 ea2 ea3 eb0 eb1 eb2 eb3
      go_wp2_with (go_at_call 8; with_reducible refine Calls.mono (k7 _) ?_; rintro _ w9 ⟨rfl, hb9⟩; have T9 := hid (Below.on HB9.out hb9); clear hb9)
      go_ret
      exact ⟨rfl, HBX.out.trans (T9.out.mono HBX.out.size)⟩

set_option maxHeartbeats 4000000 in
theorem total_zp_s (o0 o1 o2 o3 a0 a1 a2 a3 b0 b1 b2 b3 c0 c1 c2 c3 x y z u : Int) (w : World) (K : Tot o0 o1 o2 o3 a0 a1 a2 a3 b0 b1 b2 b3 c0 c1 c2 c3 x y z u)
    (hy1 : -1 ≤ y) (hy2 : y ≤ 1) (hyx : -y = x) (hx1 : -1 ≤ x) (hx2 : x ≤ 1) (hx : x ≤ 0) (hz : 0 < z)
    (k6 : ∀ W, Calls Try.prog 7 #[.agg #[.int .i64 o0, .int .i64 o1, .int .i64 o2, .int .i64 o3]] W fun e w' => e = .returned (.bool true) ∧ Below W.heap.size W w') (HS : Hid (SoundO o0 o1 o2 o3))
    (k7 : ∀ W, Calls Try.prog 8 #[.agg #[.int .i64 0, .int .i64 1, .int .i64 2, .int .i64 3], .agg #[.int .u64 (pick a0 a1 a2 a3 o0), .int .u64 (pick a0 a1 a2 a3 o1), .int .u64 (pick a0 a1 a2 a3 o2), .int .u64 (pick a0 a1 a2 a3 o3)], .agg #[.int .u64 (pick b0 b1 b2 b3 o0), .int .u64 (pick b0 b1 b2 b3 o1), .int .u64 (pick b0 b1 b2 b3 o2), .int .u64 (pick b0 b1 b2 b3 o3)]] W fun e w' => e = .returned (.int .i64 x) ∧ Below W.heap.size W w') :
    Calls Try.prog 3 #[.agg #[.int .i64 o0, .int .i64 o1, .int .i64 o2, .int .i64 o3], .agg #[.int .u64 a0, .int .u64 a1, .int .u64 a2, .int .u64 a3, .int .u64 b0, .int .u64 b1, .int .u64 b2, .int .u64 b3, .int .u64 c0, .int .u64 c1, .int .u64 c2, .int .u64 c3]] w fun e w' =>
      e = .returned (.bool true) ∧ Below w.heap.size w w' := by
  obtain ⟨k0, k1, k2, k3, k4, k5, kq⟩ := K
  clear k5
  go_enter Try.func3, Try.ntmps3
  go_wp2_with fail
  obtain ⟨X, hX⟩ : ∃ X, X = ((((((w.alloc (.cells #[.int .i64 o0, .int .i64 o1, .int .i64 o2, .int .i64 o3] 23)).alloc (.cells #[.int .u64 a0, .int .u64 a1, .int .u64 a2, .int .u64 a3, .int .u64 b0, .int .u64 b1, .int .u64 b2, .int .u64 b3, .int .u64 c0, .int .u64 c1, .int .u64 c2, .int .u64 c3] 27)).alloc (.cells #[.int .u64 a0, .int .u64 a1, .int .u64 a2, .int .u64 a3] 26)).alloc (.cells #[.int .u64 b0, .int .u64 b1, .int .u64 b2, .int .u64 b3] 26)).alloc (.cells #[.int .u64 c0, .int .u64 c1, .int .u64 c2, .int .u64 c3] 26)).alloc (.cells #[.int .i64 0, .int .i64 1, .int .i64 2, .int .i64 3] 23)) := ⟨_, rfl⟩
  have HBX : Hid (Below w.heap.size w X) := hid (by rw [hX]; exact ((((((Below.refl _ _).alloc (Nat.le_refl _) _).alloc (by simp) _).alloc (by first | (simp; done) | (simp; omega)) _).alloc (by first | (simp; done) | (simp; omega)) _).alloc (by first | (simp; done) | (simp; omega)) _).alloc (by first | (simp; done) | (simp; omega)) _)
  have HF : Hid (Five X w.heap.size o0 o1 o2 o3 a0 a1 a2 a3 b0 b1 b2 b3 c0 c1 c2 c3) := hid (by rw [hX]; exact five_of)
  have HZ : Hid (w.heap.size + 6 ≤ X.heap.size) := hid (by rw [hX]; simp)
  rw [← hX]
  clear hX
  refine Calls.mono (k0 _) ?_
  rintro _ w1 ⟨rfl, hb1⟩
  have F1 := HF.out.below HZ.out hb1
  have fo1 := F1.o
  have fa1 := F1.a
  have fb1 := F1.b
  have fc1 := F1.c
  have fp1 := F1.p
  have T1 := hid hb1
  clear hb1 F1 k0
  go_wp2_with (first
    | (go_at_call 7; with_reducible refine Calls.mono (k6 _) ?_; rintro _ w6 ⟨rfl, hb6⟩; have hx6 := Below.on T5.out hb6; have F6 := HF.out.below HZ.out hx6; have fo6 := F6.o; have fa6 := F6.a; have fb6 := F6.b; have fc6 := F6.c; have fp6 := F6.p; have T6 := hid hx6; have G6 := hid F6; clear hb6 hx6 F6 fo5 fa5 fb5 fc5 fp5)
    | (go_at_call 8; with_reducible refine Calls.mono (k4 _) ?_; rintro _ w5 ⟨rfl, hb5⟩; have hx5 := Below.on T4.out hb5; have F5 := HF.out.below HZ.out hx5; have fo5 := F5.o; have fa5 := F5.a; have fb5 := F5.b; have fc5 := F5.c; have fp5 := F5.p; have T5 := hid hx5; have G5 := hid F5; clear hb5 hx5 F5 fo4 fa4 fb4 fc4 fp4)
    | (go_at_call 8; with_reducible refine Calls.mono (k3 _) ?_; rintro _ w4 ⟨rfl, hb4⟩; have hx4 := Below.on T3.out hb4; have F4 := HF.out.below HZ.out hx4; have fo4 := F4.o; have fa4 := F4.a; have fb4 := F4.b; have fc4 := F4.c; have fp4 := F4.p; have T4 := hid hx4; have G4 := hid F4; clear hb4 hx4 F4 fo3 fa3 fb3 fc3 fp3)
    | (go_at_call 8; with_reducible refine Calls.mono (k2 _) ?_; rintro _ w3 ⟨rfl, hb3⟩; have hx3 := Below.on T2.out hb3; have F3 := HF.out.below HZ.out hx3; have fo3 := F3.o; have fa3 := F3.a; have fb3 := F3.b; have fc3 := F3.c; have fp3 := F3.p; have T3 := hid hx3; have G3 := hid F3; clear hb3 hx3 F3 fo2 fa2 fb2 fc2 fp2)
    | (go_at_call 8; with_reducible refine Calls.mono (k1 _) ?_; rintro _ w2 ⟨rfl, hb2⟩; have hx2 := Below.on T1.out hb2; have F2 := HF.out.below HZ.out hx2; have fo2 := F2.o; have fa2 := F2.a; have fb2 := F2.b; have fc2 := F2.c; have fp2 := F2.p; have T2 := hid hx2; have G2 := hid F2; clear hb2 hx2 F2 fo1 fa1 fb1 fc1 fp1))
  have z0 : w.heap.size < w6.heap.size := by have e1 := HZ.out; have e2 := T6.out.size; omega
  have zA : w.heap.size + 1 < w6.heap.size := by have e1 := HZ.out; have e2 := T6.out.size; omega
  have zB : w.heap.size + 1 + 1 + 1 + 1 < w6.heap.size := by have e1 := HZ.out; have e2 := T6.out.size; omega
  have z1 : w.heap.size + 1 + 1 < w6.heap.size := by have e1 := HZ.out; have e2 := T6.out.size; omega
  have z2 : w.heap.size + 1 + 1 + 1 < w6.heap.size := by have e1 := HZ.out; have e2 := T6.out.size; omega
  have z3 : w.heap.size + 1 + 1 + 1 + 1 + 1 < w6.heap.size := by have e1 := HZ.out; have e2 := T6.out.size; omega
  go_loopw [14] (fun i W => ∃ k : Nat, k ≤ 4 ∧ i = .int .i64 k ∧ W = (w6.alloc (.cells #[.int .u64 (fillN a0 a1 a2 a3 o0 o1 o2 o3 k 0), .int .u64 (fillN a0 a1 a2 a3 o0 o1 o2 o3 k 1), .int .u64 (fillN a0 a1 a2 a3 o0 o1 o2 o3 k 2), .int .u64 (fillN a0 a1 a2 a3 o0 o1 o2 o3 k 3)] 26)).alloc (.cells #[.int .u64 (fillN b0 b1 b2 b3 o0 o1 o2 o3 k 0), .int .u64 (fillN b0 b1 b2 b3 o0 o1 o2 o3 k 1), .int .u64 (fillN b0 b1 b2 b3 o0 o1 o2 o3 k 2), .int .u64 (fillN b0 b1 b2 b3 o0 o1 o2 o3 k 3)] 26))
    (fun i _ => 4 - (intOf i).toNat)
  case atStart => exact ⟨0, Nat.zero_le _, rfl, rfl⟩
  case round =>
    obtain ⟨k, hk, rfl, rfl⟩ := hrel
    by_cases hlt : k < 4
    · have hk4 : k = 0 ∨ k = 1 ∨ k = 2 ∨ k = 3 := by omega
      have HG := sound_range HS.out
      rcases hk4 with rfl | rfl | rfl | rfl
      · have hv : o0 = 0 ∨ o0 = 1 ∨ o0 = 2 ∨ o0 = 3 := by have := HG.1; omega
        clear HG HS T6 HBX HF HZ k7
        simp only [fillN, nth]
        clear fc6 fp6
        rcases hv with rfl | rfl | rfl | rfl
        · go_wp2
          exact ⟨⟨1, by omega, by go_num, by simp [pick]⟩, by simp [intOf]⟩
        · go_wp2
          exact ⟨⟨1, by omega, by go_num, by simp [pick]⟩, by simp [intOf]⟩
        · go_wp2
          exact ⟨⟨1, by omega, by go_num, by simp [pick]⟩, by simp [intOf]⟩
        · go_wp2
          exact ⟨⟨1, by omega, by go_num, by simp [pick]⟩, by simp [intOf]⟩
      · have hv : o1 = 0 ∨ o1 = 1 ∨ o1 = 2 ∨ o1 = 3 := by have := HG.2.1; omega
        clear HG HS T6 HBX HF HZ k7
        simp only [fillN, nth]
        clear fc6 fp6
        rcases hv with rfl | rfl | rfl | rfl
        · go_wp2
          exact ⟨⟨2, by omega, by go_num, by simp [pick]⟩, by simp [intOf]⟩
        · go_wp2
          exact ⟨⟨2, by omega, by go_num, by simp [pick]⟩, by simp [intOf]⟩
        · go_wp2
          exact ⟨⟨2, by omega, by go_num, by simp [pick]⟩, by simp [intOf]⟩
        · go_wp2
          exact ⟨⟨2, by omega, by go_num, by simp [pick]⟩, by simp [intOf]⟩
      · have hv : o2 = 0 ∨ o2 = 1 ∨ o2 = 2 ∨ o2 = 3 := by have := HG.2.2.1; omega
        clear HG HS T6 HBX HF HZ k7
        simp only [fillN, nth]
        clear fc6 fp6
        rcases hv with rfl | rfl | rfl | rfl
        · go_wp2
          exact ⟨⟨3, by omega, by go_num, by simp [pick]⟩, by simp [intOf]⟩
        · go_wp2
          exact ⟨⟨3, by omega, by go_num, by simp [pick]⟩, by simp [intOf]⟩
        · go_wp2
          exact ⟨⟨3, by omega, by go_num, by simp [pick]⟩, by simp [intOf]⟩
        · go_wp2
          exact ⟨⟨3, by omega, by go_num, by simp [pick]⟩, by simp [intOf]⟩
      · have hv : o3 = 0 ∨ o3 = 1 ∨ o3 = 2 ∨ o3 = 3 := by have := HG.2.2.2; omega
        clear HG HS T6 HBX HF HZ k7
        simp only [fillN, nth]
        clear fc6 fp6
        rcases hv with rfl | rfl | rfl | rfl
        · go_wp2
          exact ⟨⟨4, by omega, by go_num, by simp [pick]⟩, by simp [intOf]⟩
        · go_wp2
          exact ⟨⟨4, by omega, by go_num, by simp [pick]⟩, by simp [intOf]⟩
        · go_wp2
          exact ⟨⟨4, by omega, by go_num, by simp [pick]⟩, by simp [intOf]⟩
        · go_wp2
          exact ⟨⟨4, by omega, by go_num, by simp [pick]⟩, by simp [intOf]⟩
    · obtain rfl : k = 4 := by omega
      have HB9 : Hid (Below X.heap.size X ((w6.alloc (.cells #[.int .u64 (fillN a0 a1 a2 a3 o0 o1 o2 o3 4 0), .int .u64 (fillN a0 a1 a2 a3 o0 o1 o2 o3 4 1), .int .u64 (fillN a0 a1 a2 a3 o0 o1 o2 o3 4 2), .int .u64 (fillN a0 a1 a2 a3 o0 o1 o2 o3 4 3)] 26)).alloc (.cells #[.int .u64 (fillN b0 b1 b2 b3 o0 o1 o2 o3 4 0), .int .u64 (fillN b0 b1 b2 b3 o0 o1 o2 o3 4 1), .int .u64 (fillN b0 b1 b2 b3 o0 o1 o2 o3 4 2), .int .u64 (fillN b0 b1 b2 b3 o0 o1 o2 o3 4 3)] 26))) := hid ((T6.out.alloc T6.out.size _).alloc (by have := T6.out.size; simp; omega) _)
      simp only [fillN, nth, show (0 : Nat) < 4 from by omega, show (1 : Nat) < 4 from by omega, show (2 : Nat) < 4 from by omega, show (3 : Nat) < 4 from by omega, if_true] at HB9 ⊢
      obtain ⟨a0', ea0⟩ : ∃ q, q = pick a0 a1 a2 a3 o0 := ⟨_, rfl⟩
      obtain ⟨b0', eb0⟩ : ∃ q, q = pick b0 b1 b2 b3 o0 := ⟨_, rfl⟩
      obtain ⟨a1', ea1⟩ : ∃ q, q = pick a0 a1 a2 a3 o1 := ⟨_, rfl⟩
      obtain ⟨b1', eb1⟩ : ∃ q, q = pick b0 b1 b2 b3 o1 := ⟨_, rfl⟩
      obtain ⟨a2', ea2⟩ : ∃ q, q = pick a0 a1 a2 a3 o2 := ⟨_, rfl⟩
      obtain ⟨b2', eb2⟩ : ∃ q, q = pick b0 b1 b2 b3 o2 := ⟨_, rfl⟩
      obtain ⟨a3', ea3⟩ : ∃ q, q = pick a0 a1 a2 a3 o3 := ⟨_, rfl⟩
      obtain ⟨b3', eb3⟩ : ∃ q, q = pick b0 b1 b2 b3 o3 := ⟨_, rfl⟩
      rw [← ea0, ← ea1, ← ea2, ← ea3, ← eb0, ← eb1, ← eb2, ← eb3] at k7 HB9 ⊢
      clear ea0 ea1 ea2 ea3 eb0 eb1 eb2 eb3
      go_wp2_with (go_at_call 8; with_reducible refine Calls.mono (k7 _) ?_; rintro _ w9 ⟨rfl, hb9⟩; have T9 := hid (Below.on HB9.out hb9); clear hb9)
      go_ret
      exact ⟨rfl, HBX.out.trans (T9.out.mono HBX.out.size)⟩

set_option maxHeartbeats 4000000 in
theorem total_p_s (o0 o1 o2 o3 a0 a1 a2 a3 b0 b1 b2 b3 c0 c1 c2 c3 x y z u : Int) (w : World) (K : Tot o0 o1 o2 o3 a0 a1 a2 a3 b0 b1 b2 b3 c0 c1 c2 c3 x y z u)
    (hy1 : -1 ≤ y) (hy2 : y ≤ 1) (hyx : -y = x) (hx1 : -1 ≤ x) (hx2 : x ≤ 1) (hx : 0 < x)
    (k6 : ∀ W, Calls Try.prog 7 #[.agg #[.int .i64 o0, .int .i64 o1, .int .i64 o2, .int .i64 o3]] W fun e w' => e = .returned (.bool true) ∧ Below W.heap.size W w') (HS : Hid (SoundO o0 o1 o2 o3))
    (k7 : ∀ W, Calls Try.prog 8 #[.agg #[.int .i64 0, .int .i64 1, .int .i64 2, .int .i64 3], .agg #[.int .u64 (pick a0 a1 a2 a3 o0), .int .u64 (pick a0 a1 a2 a3 o1), .int .u64 (pick a0 a1 a2 a3 o2), .int .u64 (pick a0 a1 a2 a3 o3)], .agg #[.int .u64 (pick b0 b1 b2 b3 o0), .int .u64 (pick b0 b1 b2 b3 o1), .int .u64 (pick b0 b1 b2 b3 o2), .int .u64 (pick b0 b1 b2 b3 o3)]] W fun e w' => e = .returned (.int .i64 x) ∧ Below W.heap.size W w') :
    Calls Try.prog 3 #[.agg #[.int .i64 o0, .int .i64 o1, .int .i64 o2, .int .i64 o3], .agg #[.int .u64 a0, .int .u64 a1, .int .u64 a2, .int .u64 a3, .int .u64 b0, .int .u64 b1, .int .u64 b2, .int .u64 b3, .int .u64 c0, .int .u64 c1, .int .u64 c2, .int .u64 c3]] w fun e w' =>
      e = .returned (.bool true) ∧ Below w.heap.size w w' := by
  obtain ⟨k0, k1, k2, k3, k4, k5, kq⟩ := K
  clear k5
  go_enter Try.func3, Try.ntmps3
  go_wp2_with fail
  obtain ⟨X, hX⟩ : ∃ X, X = ((((((w.alloc (.cells #[.int .i64 o0, .int .i64 o1, .int .i64 o2, .int .i64 o3] 23)).alloc (.cells #[.int .u64 a0, .int .u64 a1, .int .u64 a2, .int .u64 a3, .int .u64 b0, .int .u64 b1, .int .u64 b2, .int .u64 b3, .int .u64 c0, .int .u64 c1, .int .u64 c2, .int .u64 c3] 27)).alloc (.cells #[.int .u64 a0, .int .u64 a1, .int .u64 a2, .int .u64 a3] 26)).alloc (.cells #[.int .u64 b0, .int .u64 b1, .int .u64 b2, .int .u64 b3] 26)).alloc (.cells #[.int .u64 c0, .int .u64 c1, .int .u64 c2, .int .u64 c3] 26)).alloc (.cells #[.int .i64 0, .int .i64 1, .int .i64 2, .int .i64 3] 23)) := ⟨_, rfl⟩
  have HBX : Hid (Below w.heap.size w X) := hid (by rw [hX]; exact ((((((Below.refl _ _).alloc (Nat.le_refl _) _).alloc (by simp) _).alloc (by first | (simp; done) | (simp; omega)) _).alloc (by first | (simp; done) | (simp; omega)) _).alloc (by first | (simp; done) | (simp; omega)) _).alloc (by first | (simp; done) | (simp; omega)) _)
  have HF : Hid (Five X w.heap.size o0 o1 o2 o3 a0 a1 a2 a3 b0 b1 b2 b3 c0 c1 c2 c3) := hid (by rw [hX]; exact five_of)
  have HZ : Hid (w.heap.size + 6 ≤ X.heap.size) := hid (by rw [hX]; simp)
  rw [← hX]
  clear hX
  refine Calls.mono (k0 _) ?_
  rintro _ w1 ⟨rfl, hb1⟩
  have F1 := HF.out.below HZ.out hb1
  have fo1 := F1.o
  have fa1 := F1.a
  have fb1 := F1.b
  have fc1 := F1.c
  have fp1 := F1.p
  have T1 := hid hb1
  clear hb1 F1 k0
  go_wp2_with (first
    | (go_at_call 7; with_reducible refine Calls.mono (k6 _) ?_; rintro _ w6 ⟨rfl, hb6⟩; have hx6 := Below.on T5.out hb6; have F6 := HF.out.below HZ.out hx6; have fo6 := F6.o; have fa6 := F6.a; have fb6 := F6.b; have fc6 := F6.c; have fp6 := F6.p; have T6 := hid hx6; have G6 := hid F6; clear hb6 hx6 F6 fo5 fa5 fb5 fc5 fp5)
    | (go_at_call 8; with_reducible refine Calls.mono (k4 _) ?_; rintro _ w5 ⟨rfl, hb5⟩; have hx5 := Below.on T4.out hb5; have F5 := HF.out.below HZ.out hx5; have fo5 := F5.o; have fa5 := F5.a; have fb5 := F5.b; have fc5 := F5.c; have fp5 := F5.p; have T5 := hid hx5; have G5 := hid F5; clear hb5 hx5 F5 fo4 fa4 fb4 fc4 fp4)
    | (go_at_call 8; with_reducible refine Calls.mono (k3 _) ?_; rintro _ w4 ⟨rfl, hb4⟩; have hx4 := Below.on T3.out hb4; have F4 := HF.out.below HZ.out hx4; have fo4 := F4.o; have fa4 := F4.a; have fb4 := F4.b; have fc4 := F4.c; have fp4 := F4.p; have T4 := hid hx4; have G4 := hid F4; clear hb4 hx4 F4 fo3 fa3 fb3 fc3 fp3)
    | (go_at_call 8; with_reducible refine Calls.mono (k2 _) ?_; rintro _ w3 ⟨rfl, hb3⟩; have hx3 := Below.on T2.out hb3; have F3 := HF.out.below HZ.out hx3; have fo3 := F3.o; have fa3 := F3.a; have fb3 := F3.b; have fc3 := F3.c; have fp3 := F3.p; have T3 := hid hx3; have G3 := hid F3; clear hb3 hx3 F3 fo2 fa2 fb2 fc2 fp2)
    | (go_at_call 8; with_reducible refine Calls.mono (k1 _) ?_; rintro _ w2 ⟨rfl, hb2⟩; have hx2 := Below.on T1.out hb2; have F2 := HF.out.below HZ.out hx2; have fo2 := F2.o; have fa2 := F2.a; have fb2 := F2.b; have fc2 := F2.c; have fp2 := F2.p; have T2 := hid hx2; have G2 := hid F2; clear hb2 hx2 F2 fo1 fa1 fb1 fc1 fp1))
  have z0 : w.heap.size < w6.heap.size := by have e1 := HZ.out; have e2 := T6.out.size; omega
  have zA : w.heap.size + 1 < w6.heap.size := by have e1 := HZ.out; have e2 := T6.out.size; omega
  have zB : w.heap.size + 1 + 1 + 1 + 1 < w6.heap.size := by have e1 := HZ.out; have e2 := T6.out.size; omega
  have z1 : w.heap.size + 1 + 1 < w6.heap.size := by have e1 := HZ.out; have e2 := T6.out.size; omega
  have z2 : w.heap.size + 1 + 1 + 1 < w6.heap.size := by have e1 := HZ.out; have e2 := T6.out.size; omega
  have z3 : w.heap.size + 1 + 1 + 1 + 1 + 1 < w6.heap.size := by have e1 := HZ.out; have e2 := T6.out.size; omega
  go_loopw [14] (fun i W => ∃ k : Nat, k ≤ 4 ∧ i = .int .i64 k ∧ W = (w6.alloc (.cells #[.int .u64 (fillN a0 a1 a2 a3 o0 o1 o2 o3 k 0), .int .u64 (fillN a0 a1 a2 a3 o0 o1 o2 o3 k 1), .int .u64 (fillN a0 a1 a2 a3 o0 o1 o2 o3 k 2), .int .u64 (fillN a0 a1 a2 a3 o0 o1 o2 o3 k 3)] 26)).alloc (.cells #[.int .u64 (fillN b0 b1 b2 b3 o0 o1 o2 o3 k 0), .int .u64 (fillN b0 b1 b2 b3 o0 o1 o2 o3 k 1), .int .u64 (fillN b0 b1 b2 b3 o0 o1 o2 o3 k 2), .int .u64 (fillN b0 b1 b2 b3 o0 o1 o2 o3 k 3)] 26))
    (fun i _ => 4 - (intOf i).toNat)
  case atStart => exact ⟨0, Nat.zero_le _, rfl, rfl⟩
  case round =>
    obtain ⟨k, hk, rfl, rfl⟩ := hrel
    by_cases hlt : k < 4
    · have hk4 : k = 0 ∨ k = 1 ∨ k = 2 ∨ k = 3 := by omega
      have HG := sound_range HS.out
      rcases hk4 with rfl | rfl | rfl | rfl
      · have hv : o0 = 0 ∨ o0 = 1 ∨ o0 = 2 ∨ o0 = 3 := by have := HG.1; omega
        clear HG HS T6 HBX HF HZ k7
        simp only [fillN, nth]
        clear fc6 fp6
        rcases hv with rfl | rfl | rfl | rfl
        · go_wp2
          exact ⟨⟨1, by omega, by go_num, by simp [pick]⟩, by simp [intOf]⟩
        · go_wp2
          exact ⟨⟨1, by omega, by go_num, by simp [pick]⟩, by simp [intOf]⟩
        · go_wp2
          exact ⟨⟨1, by omega, by go_num, by simp [pick]⟩, by simp [intOf]⟩
        · go_wp2
          exact ⟨⟨1, by omega, by go_num, by simp [pick]⟩, by simp [intOf]⟩
      · have hv : o1 = 0 ∨ o1 = 1 ∨ o1 = 2 ∨ o1 = 3 := by have := HG.2.1; omega
        clear HG HS T6 HBX HF HZ k7
        simp only [fillN, nth]
        clear fc6 fp6
        rcases hv with rfl | rfl | rfl | rfl
        · go_wp2
          exact ⟨⟨2, by omega, by go_num, by simp [pick]⟩, by simp [intOf]⟩
        · go_wp2
          exact ⟨⟨2, by omega, by go_num, by simp [pick]⟩, by simp [intOf]⟩
        · go_wp2
          exact ⟨⟨2, by omega, by go_num, by simp [pick]⟩, by simp [intOf]⟩
        · go_wp2
          exact ⟨⟨2, by omega, by go_num, by simp [pick]⟩, by simp [intOf]⟩
      · have hv : o2 = 0 ∨ o2 = 1 ∨ o2 = 2 ∨ o2 = 3 := by have := HG.2.2.1; omega
        clear HG HS T6 HBX HF HZ k7
        simp only [fillN, nth]
        clear fc6 fp6
        rcases hv with rfl | rfl | rfl | rfl
        · go_wp2
          exact ⟨⟨3, by omega, by go_num, by simp [pick]⟩, by simp [intOf]⟩
        · go_wp2
          exact ⟨⟨3, by omega, by go_num, by simp [pick]⟩, by simp [intOf]⟩
        · go_wp2
          exact ⟨⟨3, by omega, by go_num, by simp [pick]⟩, by simp [intOf]⟩
        · go_wp2
          exact ⟨⟨3, by omega, by go_num, by simp [pick]⟩, by simp [intOf]⟩
      · have hv : o3 = 0 ∨ o3 = 1 ∨ o3 = 2 ∨ o3 = 3 := by have := HG.2.2.2; omega
        clear HG HS T6 HBX HF HZ k7
        simp only [fillN, nth]
        clear fc6 fp6
        rcases hv with rfl | rfl | rfl | rfl
        · go_wp2
          exact ⟨⟨4, by omega, by go_num, by simp [pick]⟩, by simp [intOf]⟩
        · go_wp2
          exact ⟨⟨4, by omega, by go_num, by simp [pick]⟩, by simp [intOf]⟩
        · go_wp2
          exact ⟨⟨4, by omega, by go_num, by simp [pick]⟩, by simp [intOf]⟩
        · go_wp2
          exact ⟨⟨4, by omega, by go_num, by simp [pick]⟩, by simp [intOf]⟩
    · obtain rfl : k = 4 := by omega
      have HB9 : Hid (Below X.heap.size X ((w6.alloc (.cells #[.int .u64 (fillN a0 a1 a2 a3 o0 o1 o2 o3 4 0), .int .u64 (fillN a0 a1 a2 a3 o0 o1 o2 o3 4 1), .int .u64 (fillN a0 a1 a2 a3 o0 o1 o2 o3 4 2), .int .u64 (fillN a0 a1 a2 a3 o0 o1 o2 o3 4 3)] 26)).alloc (.cells #[.int .u64 (fillN b0 b1 b2 b3 o0 o1 o2 o3 4 0), .int .u64 (fillN b0 b1 b2 b3 o0 o1 o2 o3 4 1), .int .u64 (fillN b0 b1 b2 b3 o0 o1 o2 o3 4 2), .int .u64 (fillN b0 b1 b2 b3 o0 o1 o2 o3 4 3)] 26))) := hid ((T6.out.alloc T6.out.size _).alloc (by have := T6.out.size; simp; omega) _)
      simp only [fillN, nth, show (0 : Nat) < 4 from by omega, show (1 : Nat) < 4 from by omega, show (2 : Nat) < 4 from by omega, show (3 : Nat) < 4 from by omega, if_true] at HB9 ⊢
      obtain ⟨a0', ea0⟩ : ∃ q, q = pick a0 a1 a2 a3 o0 := ⟨_, rfl⟩
      obtain ⟨b0', eb0⟩ : ∃ q, q = pick b0 b1 b2 b3 o0 := ⟨_, rfl⟩
      obtain ⟨a1', ea1⟩ : ∃ q, q = pick a0 a1 a2 a3 o1 := ⟨_, rfl⟩
      obtain ⟨b1', eb1⟩ : ∃ q, q = pick b0 b1 b2 b3 o1 := ⟨_, rfl⟩
      obtain ⟨a2', ea2⟩ : ∃ q, q = pick a0 a1 a2 a3 o2 := ⟨_, rfl⟩
      obtain ⟨b2', eb2⟩ : ∃ q, q = pick b0 b1 b2 b3 o2 := ⟨_, rfl⟩
      obtain ⟨a3', ea3⟩ : ∃ q, q = pick a0 a1 a2 a3 o3 := ⟨_, rfl⟩
      obtain ⟨b3', eb3⟩ : ∃ q, q = pick b0 b1 b2 b3 o3 := ⟨_, rfl⟩
      rw [← ea0, ← ea1, ← ea2, ← ea3, ← eb0, ← eb1, ← eb2, ← eb3] at k7 HB9 ⊢
      clear ea0 ea1 ea2 ea3 eb0 eb1 eb2 eb3
      go_wp2_with (go_at_call 8; with_reducible refine Calls.mono (k7 _) ?_; rintro _ w9 ⟨rfl, hb9⟩; have T9 := hid (Below.on HB9.out hb9); clear hb9)
      go_ret
      exact ⟨rfl, HBX.out.trans (T9.out.mono HBX.out.size)⟩

end Go.Proofs.Ytkielflmpodapaa
