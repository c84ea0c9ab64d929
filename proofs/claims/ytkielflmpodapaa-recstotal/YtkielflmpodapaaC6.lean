import Derived.Test.YtkielflmpodapaaC4
import Derived.Test.YtkielflmpodapaaC5
import Derived.Deep.RegionHeld3
namespace Go.Proofs.Ytkielflmpodapaa
open Go.RowKit

theorem compareP (o0 o1 o2 o3 a0 a1 a2 a3 b0 b1 b2 b3 : Int) (w : World) :
    Calls Try.prog 8 #[.agg #[.int .i64 o0, .int .i64 o1, .int .i64 o2, .int .i64 o3], .agg #[.int .u64 a0, .int .u64 a1, .int .u64 a2, .int .u64 a3], .agg #[.int .u64 b0, .int .u64 b1, .int .u64 b2, .int .u64 b3]] w fun e w' =>
      e = .returned (.int .i64 (cmpO o0 o1 o2 o3 a0 a1 a2 a3 b0 b1 b2 b3)) ∧ Below w.heap.size w w' := by
  by_cases h : a0 = b0 ∧ a1 = b1 ∧ a2 = b2 ∧ a3 = b3
  · obtain ⟨rfl, rfl, rfl, rfl⟩ := h
    have e : cmpO o0 o1 o2 o3 a0 a1 a2 a3 a0 a1 a2 a3 = 0 := by simp [cmpO, lexAt]
    rw [e]
    exact compareP_same o0 o1 o2 o3 a0 a1 a2 a3 w
  · exact compareP_tail o0 o1 o2 o3 a0 a1 a2 a3 b0 b1 b2 b3 w h

theorem soundPb (o0 o1 o2 o3 : Int) (w : World) :
    Calls Try.prog 7 #[.agg #[.int .i64 o0, .int .i64 o1, .int .i64 o2, .int .i64 o3]] w fun e w' => e = .returned (.bool (decide (SoundO o0 o1 o2 o3))) ∧ Below w.heap.size w w' := by
  refine (soundP o0 o1 o2 o3 w).mono ?_
  rintro _ _ ⟨rfl, t0, t1, t2, t3, rfl⟩
  exact ⟨rfl, ((Below.refl _ _).alloc (Nat.le_refl _) _).alloc (by simp) _⟩

theorem soundRb (o0 o1 o2 o3 : Int) (w : World) :
    Calls Try.prog 9 #[.agg #[.int .i64 o0, .int .i64 o1, .int .i64 o2, .int .i64 o3]] w fun e w' => e = .returned (.bool (decide (SoundO o0 o1 o2 o3))) ∧ Below w.heap.size w w' := by
  refine (soundR o0 o1 o2 o3 w).mono ?_
  rintro _ _ ⟨rfl, rfl⟩
  exact ⟨rfl, (Below.refl _ _).alloc (Nat.le_refl _) _⟩

/-- A call leaves what stood. -/
theorem Below.on {a w w' : World} (h : Below a.heap.size a w) (h' : Below w.heap.size w w') : Below a.heap.size a w' :=
  ⟨h'.os.trans h.os, h'.tape.trans h.tape, h'.output.trans h.output, Nat.le_trans h.size h'.size, fun i hi => (h'.block i (Nat.lt_of_lt_of_le hi h.size)).trans (h.block i hi)⟩

theorem Rows3.of_alloc3 {w : World} {o0 o1 o2 o3 a0 a1 a2 a3 b0 b1 b2 b3 : Int} (t0 t1 t2 : TypeId) :
    Rows3 (((w.alloc (.cells #[.int .i64 o0, .int .i64 o1, .int .i64 o2, .int .i64 o3] t0)).alloc (.cells #[.int .u64 a0, .int .u64 a1, .int .u64 a2, .int .u64 a3] t1)).alloc (.cells #[.int .u64 b0, .int .u64 b1, .int .u64 b2, .int .u64 b3] t2))
      w.heap.size (w.heap.size + 1) (w.heap.size + 1 + 1) o0 o1 o2 o3 a0 a1 a2 a3 b0 b1 b2 b3 :=
  ⟨fun i => by rw [World.cell?_alloc_past _ _ _ (by first | (simp; done) | (simp; omega)), World.cell?_alloc_past _ _ _ (by simp), World.cell?_alloc_at _ _ _ _ rfl],
    fun i => by rw [World.cell?_alloc_past _ _ _ (by simp), World.cell?_alloc_at _ _ _ _ (by simp)],
    fun i => by rw [World.cell?_alloc_at _ _ _ _ (by simp)]⟩

def Cells12 (W : World) (n : Nat) (o0 o1 o2 o3 a0 a1 a2 a3 b0 b1 b2 b3 : Int) : Prop :=
  W.cell? ⟨n, 0, none⟩ = some (.int .i64 o0) ∧ W.cell? ⟨n, 1, none⟩ = some (.int .i64 o1) ∧ W.cell? ⟨n, 2, none⟩ = some (.int .i64 o2) ∧ W.cell? ⟨n, 3, none⟩ = some (.int .i64 o3) ∧
  W.cell? ⟨n + 1, 0, none⟩ = some (.int .u64 a0) ∧ W.cell? ⟨n + 1, 1, none⟩ = some (.int .u64 a1) ∧ W.cell? ⟨n + 1, 2, none⟩ = some (.int .u64 a2) ∧ W.cell? ⟨n + 1, 3, none⟩ = some (.int .u64 a3) ∧
  W.cell? ⟨n + 1 + 1, 0, none⟩ = some (.int .u64 b0) ∧ W.cell? ⟨n + 1 + 1, 1, none⟩ = some (.int .u64 b1) ∧ W.cell? ⟨n + 1 + 1, 2, none⟩ = some (.int .u64 b2) ∧ W.cell? ⟨n + 1 + 1, 3, none⟩ = some (.int .u64 b3)

set_option maxHeartbeats 2000000 in
theorem orders_any (o0 o1 o2 o3 a0 a1 a2 a3 b0 b1 b2 b3 : Int) (w : World) :
    Calls Try.prog 4 #[.agg #[.int .i64 o0, .int .i64 o1, .int .i64 o2, .int .i64 o3], .agg #[.int .u64 a0, .int .u64 a1, .int .u64 a2, .int .u64 a3], .agg #[.int .u64 b0, .int .u64 b1, .int .u64 b2, .int .u64 b3]] w fun e w' =>
      e = .returned (.bool true) ∧ Below w.heap.size w w' := by
  have H7 := hid (fun W => soundPb o0 o1 o2 o3 W)
  have H9 := hid (fun W => soundRb o0 o1 o2 o3 W)
  obtain ⟨s, hs⟩ : ∃ s, s = decide (SoundO o0 o1 o2 o3) := ⟨_, rfl⟩
  rw [← hs] at H7 H9
  have H8 := hid (fun W => compareP o0 o1 o2 o3 a0 a1 a2 a3 b0 b1 b2 b3 W)
  have H10 := hid (fun W => compareR o0 o1 o2 o3 a0 a1 a2 a3 b0 b1 b2 b3 W)
  obtain ⟨c, hc⟩ : ∃ c, c = cmpO o0 o1 o2 o3 a0 a1 a2 a3 b0 b1 b2 b3 := ⟨_, rfl⟩
  rw [← hc] at H8 H10
  have g1 : (s == s) = true := by simp
  clear hs hc
  go_enter Try.func4, Try.ntmps4
  go_wp2
  obtain ⟨X, hX⟩ : ∃ X, X = (((w.alloc (.cells #[.int .i64 o0, .int .i64 o1, .int .i64 o2, .int .i64 o3] 23)).alloc (.cells #[.int .u64 a0, .int .u64 a1, .int .u64 a2, .int .u64 a3] 26)).alloc (.cells #[.int .u64 b0, .int .u64 b1, .int .u64 b2, .int .u64 b3] 26)) := ⟨_, rfl⟩
  have HBX : Hid (Below w.heap.size w X) := hid (by rw [hX]; exact (((Below.refl _ _).alloc (Nat.le_refl _) _).alloc (by simp) _).alloc (by first | (simp; done) | (simp; omega)) _)
  have HCK : Hid (∀ W, Below X.heap.size X W → Cells12 W w.heap.size o0 o1 o2 o3 a0 a1 a2 a3 b0 b1 b2 b3) := hid fun W hW => by
    have hR : Rows3 X w.heap.size (w.heap.size + 1) (w.heap.size + 1 + 1) o0 o1 o2 o3 a0 a1 a2 a3 b0 b1 b2 b3 := by rw [hX]; exact Rows3.of_alloc3 23 26 26
    have hz : X.heap.size = w.heap.size + 1 + 1 + 1 := by rw [hX]; simp
    have hc : ∀ q : Addr, q.block < X.heap.size → W.cell? q = X.cell? q := fun q hq => hW.cell hq
    refine ⟨?_, ?_, ?_, ?_, ?_, ?_, ?_, ?_, ?_, ?_, ?_, ?_⟩
    all_goals
      rw [hc _ (by rw [hz]; dsimp only; omega)]
      first | exact hR.o _ | exact hR.a _ | exact hR.b _
  rw [← hX]
  have d0 := HCK.out X (Below.refl _ _)
  unfold Cells12 at d0
  clear hX
  go_region_held3 (fun W => W.cell? ⟨w.heap.size, 0, none⟩ = some (.int .i64 o0) ∧ W.cell? ⟨w.heap.size, 1, none⟩ = some (.int .i64 o1) ∧ W.cell? ⟨w.heap.size, 2, none⟩ = some (.int .i64 o2) ∧ W.cell? ⟨w.heap.size, 3, none⟩ = some (.int .i64 o3) ∧
    W.cell? ⟨w.heap.size + 1, 0, none⟩ = some (.int .u64 a0) ∧ W.cell? ⟨w.heap.size + 1, 1, none⟩ = some (.int .u64 a1) ∧ W.cell? ⟨w.heap.size + 1, 2, none⟩ = some (.int .u64 a2) ∧ W.cell? ⟨w.heap.size + 1, 3, none⟩ = some (.int .u64 a3) ∧
    W.cell? ⟨w.heap.size + 1 + 1, 0, none⟩ = some (.int .u64 b0) ∧ W.cell? ⟨w.heap.size + 1 + 1, 1, none⟩ = some (.int .u64 b1) ∧ W.cell? ⟨w.heap.size + 1 + 1, 2, none⟩ = some (.int .u64 b2) ∧ W.cell? ⟨w.heap.size + 1 + 1, 3, none⟩ = some (.int .u64 b3)) (go_keep)
    (first
      | (go_at_call 10; with_reducible refine Calls.mono (H10.out _) ?_; rintro _ w4 ⟨rfl, hb4⟩; have hx4 := Below.on T3.out hb4; have d4 := HCK.out w4 hx4; unfold Cells12 at d4; have T4 := hid hx4; clear hb4 hx4 d3)
      | (go_at_call 8; with_reducible refine Calls.mono (H8.out _) ?_; rintro _ w3 ⟨rfl, hb3⟩; have hx3 := Below.on T2.out hb3; have d3 := HCK.out w3 hx3; unfold Cells12 at d3; have T3 := hid hx3; clear hb3 hx3 d2)
      | (go_at_call 9; with_reducible refine Calls.mono (H9.out _) ?_; rintro _ w2 ⟨rfl, hb2⟩; have hx2 := Below.on T1.out hb2; have d2 := HCK.out w2 hx2; unfold Cells12 at d2; have T2 := hid hx2; clear hb2 hx2 d1)
      | (go_at_call 7; with_reducible refine Calls.mono (H7.out _) ?_; rintro _ w1 ⟨rfl, hb1⟩; have hx1 := Below.on (Below.refl _ X).drew hb1; have d1 := HCK.out w1 hx1; unfold Cells12 at d1; have T1 := hid hx1; clear hb1 hx1 d0))
  go_wp2
  go_ret
  exact ⟨rfl, HBX.out.trans (T4.out.mono HBX.out.size)⟩

end Go.Proofs.Ytkielflmpodapaa
