import Derived.Test.YtkielflmpodapaaC3
namespace Go.Proofs.Ytkielflmpodapaa
open Go.RowKit

set_option maxHeartbeats 1000000 in
theorem compareP_same (o0 o1 o2 o3 a0 a1 a2 a3 : Int) (w : World) :
    Calls Try.prog 8 #[.agg #[.int .i64 o0, .int .i64 o1, .int .i64 o2, .int .i64 o3], .agg #[.int .u64 a0, .int .u64 a1, .int .u64 a2, .int .u64 a3], .agg #[.int .u64 a0, .int .u64 a1, .int .u64 a2, .int .u64 a3]] w fun e w' =>
      e = .returned (.int .i64 0) ∧ Below w.heap.size w w' := by
  have H0 : Hid (Below w.heap.size w ((((w.alloc (.cells #[.int .i64 o0, .int .i64 o1, .int .i64 o2, .int .i64 o3] 23)).alloc (.cells #[.int .u64 a0, .int .u64 a1, .int .u64 a2, .int .u64 a3] 26)).alloc (.cells #[.int .u64 a0, .int .u64 a1, .int .u64 a2, .int .u64 a3] 26)))) :=
    hid ((((Below.refl _ _).alloc (Nat.le_refl _) _).alloc (by simp) _).alloc (by simp; omega) _)
  have he : ∀ W, (Op.equalIn 10000 26 (.agg #[.int .u64 a0, .int .u64 a1, .int .u64 a2, .int .u64 a3]) (.agg #[.int .u64 a0, .int .u64 a1, .int .u64 a2, .int .u64 a3])).run Try.prog W = .ok true W := fun W => by
    have := eq26 a0 a1 a2 a3 a0 a1 a2 a3 W
    simpa using this
  go_enter Try.func8, Try.ntmps8
  go_wp2
  go_ret
  exact ⟨rfl, H0.out⟩

theorem lexAt_zero (X Y : Nat → Int) : ∀ (n k : Nat), lexAt X Y k n = 0 → ∀ j, k ≤ j → j < k + n → X j = Y j
  | 0, k, _, j, h1, h2 => by omega
  | n + 1, k, h, j, h1, h2 => by
    simp only [lexAt] at h
    split at h
    · omega
    · split at h
      · omega
      · by_cases e : j = k
        · subst e; omega
        · exact lexAt_zero X Y n (k + 1) h j (by omega) (by omega)

theorem nth_onto {o0 o1 o2 o3 : Int} {j : Int} (h : cnt o0 o1 o2 o3 j = 1) : ∃ k : Nat, k < 4 ∧ nth o0 o1 o2 o3 k = j := by
  refine Classical.byContradiction fun hn => ?_
  have hz : ∀ k : Nat, k < 4 → ¬ nth o0 o1 o2 o3 k = j := fun k hk e => hn ⟨k, hk, e⟩
  have z0 : ¬ o0 = j := hz 0 (by omega)
  have z1 : ¬ o1 = j := hz 1 (by omega)
  have z2 : ¬ o2 = j := hz 2 (by omega)
  have z3 : ¬ o3 = j := hz 3 (by omega)
  simp [cnt, hit, z0, z1, z2, z3] at h

theorem cmpO_zero {o0 o1 o2 o3 a0 a1 a2 a3 b0 b1 b2 b3 : Int} (h : cmpO o0 o1 o2 o3 a0 a1 a2 a3 b0 b1 b2 b3 = 0) : a0 = b0 ∧ a1 = b1 ∧ a2 = b2 ∧ a3 = b3 := by
  have hz := lexAt_zero _ _ 4 0 h
  have key : ∀ j : Int, (j = 0 ∨ j = 1 ∨ j = 2 ∨ j = 3) → ∃ k : Nat, k < 4 ∧ ordN o0 o1 o2 o3 k = j := by
    intro j hj
    by_cases hs : SoundO o0 o1 o2 o3
    · have hc : cnt o0 o1 o2 o3 j = 1 := by
        rcases hj with rfl | rfl | rfl | rfl
        · exact hs.1
        · exact hs.2.1
        · exact hs.2.2.1
        · exact hs.2.2.2
      obtain ⟨k, hk, e⟩ := nth_onto hc
      exact ⟨k, hk, by rw [ordN, if_pos hs, e]⟩
    · refine ⟨j.toNat, by omega, ?_⟩
      rw [ordN, if_neg hs]
      omega
  have all : ∀ j : Int, (j = 0 ∨ j = 1 ∨ j = 2 ∨ j = 3) → pick a0 a1 a2 a3 j = pick b0 b1 b2 b3 j := by
    intro j hj
    obtain ⟨k, hk, e⟩ := key j hj
    have := hz k (by omega) (by omega)
    simpa only [e] using this
  have e0 := all 0 (by omega)
  have e1 := all 1 (by omega)
  have e2 := all 2 (by omega)
  have e3 := all 3 (by omega)
  simp [pick] at e0 e1 e2 e3
  exact ⟨e0, e1, e2, e3⟩

theorem Rows3.of_alloc4 {w : World} {o0 o1 o2 o3 a0 a1 a2 a3 b0 b1 b2 b3 : Int} (t0 t1 t2 : TypeId) (O : Obj) :
    Rows3 ((((w.alloc (.cells #[.int .i64 o0, .int .i64 o1, .int .i64 o2, .int .i64 o3] t0)).alloc (.cells #[.int .u64 a0, .int .u64 a1, .int .u64 a2, .int .u64 a3] t1)).alloc (.cells #[.int .u64 b0, .int .u64 b1, .int .u64 b2, .int .u64 b3] t2)).alloc O)
      w.heap.size (w.heap.size + 1) (w.heap.size + 1 + 1) o0 o1 o2 o3 a0 a1 a2 a3 b0 b1 b2 b3 :=
  ⟨fun i => by rw [World.cell?_alloc_past _ _ _ (by first | (simp; done) | (simp; omega)), World.cell?_alloc_past _ _ _ (by first | (simp; done) | (simp; omega)), World.cell?_alloc_past _ _ _ (by simp), World.cell?_alloc_at _ _ _ _ rfl],
    fun i => by rw [World.cell?_alloc_past _ _ _ (by first | (simp; done) | (simp; omega)), World.cell?_alloc_past _ _ _ (by simp), World.cell?_alloc_at _ _ _ _ (by simp)],
    fun i => by rw [World.cell?_alloc_past _ _ _ (by simp), World.cell?_alloc_at _ _ _ _ (by simp)]⟩

theorem Rows3.alloc {W : World} {o0 o1 o2 o3 a0 a1 a2 a3 b0 b1 b2 b3 : Int} {bo ba bb : Nat} (h : Rows3 W bo ba bb o0 o1 o2 o3 a0 a1 a2 a3 b0 b1 b2 b3)
    (lo : bo < W.heap.size) (la : ba < W.heap.size) (lb : bb < W.heap.size) (O : Obj) : Rows3 (W.alloc O) bo ba bb o0 o1 o2 o3 a0 a1 a2 a3 b0 b1 b2 b3 :=
  ⟨fun i => by rw [World.cell?_alloc_past _ _ _ lo]; exact h.o i, fun i => by rw [World.cell?_alloc_past _ _ _ la]; exact h.a i, fun i => by rw [World.cell?_alloc_past _ _ _ lb]; exact h.b i⟩

set_option maxHeartbeats 8000000 in
theorem compareP_tail (o0 o1 o2 o3 a0 a1 a2 a3 b0 b1 b2 b3 : Int) (w : World) (hne : ¬ (a0 = b0 ∧ a1 = b1 ∧ a2 = b2 ∧ a3 = b3)) :
    Calls Try.prog 8 #[.agg #[.int .i64 o0, .int .i64 o1, .int .i64 o2, .int .i64 o3], .agg #[.int .u64 a0, .int .u64 a1, .int .u64 a2, .int .u64 a3], .agg #[.int .u64 b0, .int .u64 b1, .int .u64 b2, .int .u64 b3]] w fun e w' =>
      e = .returned (.int .i64 (cmpO o0 o1 o2 o3 a0 a1 a2 a3 b0 b1 b2 b3)) ∧ Below w.heap.size w w' := by
  have he : ∀ W, (Op.equalIn 10000 26 (.agg #[.int .u64 a0, .int .u64 a1, .int .u64 a2, .int .u64 a3]) (.agg #[.int .u64 b0, .int .u64 b1, .int .u64 b2, .int .u64 b3])).run Try.prog W = .ok false W := fun W => by
    have := eq26 a0 a1 a2 a3 b0 b1 b2 b3 W
    rw [decide_eq_false hne] at this
    exact this
  obtain ⟨X, hX⟩ : ∃ X : Nat → Int, X = fun k => pick a0 a1 a2 a3 (ordN o0 o1 o2 o3 k) := ⟨_, rfl⟩
  obtain ⟨Y, hY⟩ : ∃ Y : Nat → Int, Y = fun k => pick b0 b1 b2 b3 (ordN o0 o1 o2 o3 k) := ⟨_, rfl⟩
  have hR : cmpO o0 o1 o2 o3 a0 a1 a2 a3 b0 b1 b2 b3 = lexAt X Y 0 4 := by rw [hX, hY]; rfl
  have hR0 : ¬ cmpO o0 o1 o2 o3 a0 a1 a2 a3 b0 b1 b2 b3 = 0 := fun h => hne (cmpO_zero h)
  rw [hR] at hR0 ⊢
  obtain ⟨R, hRR⟩ : ∃ R, R = lexAt X Y 0 4 := ⟨_, rfl⟩
  rw [← hRR] at hR0 ⊢
  have HN := hid hR0
  have HR := hid hRR
  have HX := hid hX
  have HY := hid hY
  clear hR hRR hX hY hR0 hne
  by_cases hp : o0 = 0 ∧ o1 = 1 ∧ o2 = 2 ∧ o3 = 3
  · obtain ⟨rfl, rfl, rfl, rfl⟩ := hp
    have hq : ∀ W, (Op.equalIn 10000 23 (.agg #[.int .i64 0, .int .i64 1, .int .i64 2, .int .i64 3]) (.agg #[.int .i64 0, .int .i64 1, .int .i64 2, .int .i64 3])).run Try.prog W = .ok true W := fun W => by
      have := eq23 0 1 2 3 0 1 2 3 W
      simpa using this
    have ho : ∀ k : Nat, k < 4 → ordN 0 1 2 3 k = (k : Int) := fun k hk => by
      unfold ordN
      split
      · have : k = 0 ∨ k = 1 ∨ k = 2 ∨ k = 3 := by omega
        rcases this with rfl | rfl | rfl | rfl <;> rfl
      · rfl
    have x0 : Hid (X 0 = a0 ∧ Y 0 = b0) := hid (by rw [HX.out, HY.out]; simp only [ho 0 (by omega)]; simp [pick])
    have x1 : Hid (X 1 = a1 ∧ Y 1 = b1) := hid (by rw [HX.out, HY.out]; simp only [ho 1 (by omega)]; simp [pick])
    have x2 : Hid (X 2 = a2 ∧ Y 2 = b2) := hid (by rw [HX.out, HY.out]; simp only [ho 2 (by omega)]; simp [pick])
    have x3 : Hid (X 3 = a3 ∧ Y 3 = b3) := hid (by rw [HX.out, HY.out]; simp only [ho 3 (by omega)]; simp [pick])
    clear HX HY ho
    go_enter Try.func8, Try.ntmps8
    go_wp2
    clear he hq
    go_loopw [8] (fun i W => ∃ k : Nat, k ≤ 4 ∧ i = .int .i64 k ∧ R = lexAt X Y k (4 - k) ∧
        Rows3 W w.heap.size (w.heap.size + 1) (w.heap.size + 1 + 1) 0 1 2 3 a0 a1 a2 a3 b0 b1 b2 b3 ∧ Below w.heap.size w W)
      (fun i _ => 4 - (intOf i).toNat)
    case atStart => exact ⟨0, Nat.zero_le _, rfl, HR.out, Rows3.of_alloc4 23 26 26 _, ((((Below.refl _ _).alloc (Nat.le_refl _) _).alloc (by simp) _).alloc (by first | (simp; done) | (simp; omega)) _).alloc (by first | (simp; done) | (simp; omega)) _⟩
    case round =>
      obtain ⟨k, hk, rfl, hk2, hrows, hbel⟩ := hrel
      have HB := hid hbel
      have HK := hid hk2
      have HW := hid hrows
      have co := hrows.o
      have ca := hrows.a
      have cb := hrows.b
      clear hk2 hbel hrows
      by_cases hlt : k < 4
      · have hk4 : k = 0 ∨ k = 1 ∨ k = 2 ∨ k = 3 := by omega
        rcases hk4 with rfl | rfl | rfl | rfl
        · obtain ⟨ex, ey⟩ := x0.out
          clear x0 x1 x2 x3
          by_cases c1 : a0 < b0
          · have hr : Hid (R = -1) := hid (by rw [HK.out]; simp [lexAt, ex, ey, c1])
            have c3 : (a0 == b0) = false := by simp; omega
            clear ex ey HK
            go_wp2
            go_quiet (fail)
            go_wp2
            go_quiet (fail)
            go_wp2
            go_ret
            exact ⟨by rw [hr.out]; rfl, Below.drewN' (Below.drewN' HB.out _) _⟩
          · by_cases c2 : b0 < a0
            · have hr : Hid (R = 1) := hid (by rw [HK.out]; simp [lexAt, ex, ey, c1, c2])
              have c3 : (a0 == b0) = false := by simp; omega
              clear ex ey HK
              go_wp2
              go_quiet (fail)
              go_wp2
              go_quiet (fail)
              go_wp2
              go_ret
              exact ⟨by rw [hr.out]; rfl, Below.drewN' (Below.drewN' HB.out _) _⟩
            · have hr : Hid (R = lexAt X Y 1 (4 - 1)) := hid (by rw [HK.out]; simp [lexAt, ex, ey, c1, c2])
              have c3 : (a0 == b0) = true := by simp; omega
              clear ex ey HK c1 c2
              go_wp2
              go_quiet (fail)
              go_wp2
              exact ⟨⟨1, by omega, by go_num, hr.out, HW.out.drewN _, Below.drewN' HB.out _⟩, by simp [intOf]⟩
        · obtain ⟨ex, ey⟩ := x1.out
          clear x0 x1 x2 x3
          by_cases c1 : a1 < b1
          · have hr : Hid (R = -1) := hid (by rw [HK.out]; simp [lexAt, ex, ey, c1])
            have c3 : (a1 == b1) = false := by simp; omega
            clear ex ey HK
            go_wp2
            go_quiet (fail)
            go_wp2
            go_quiet (fail)
            go_wp2
            go_ret
            exact ⟨by rw [hr.out]; rfl, Below.drewN' (Below.drewN' HB.out _) _⟩
          · by_cases c2 : b1 < a1
            · have hr : Hid (R = 1) := hid (by rw [HK.out]; simp [lexAt, ex, ey, c1, c2])
              have c3 : (a1 == b1) = false := by simp; omega
              clear ex ey HK
              go_wp2
              go_quiet (fail)
              go_wp2
              go_quiet (fail)
              go_wp2
              go_ret
              exact ⟨by rw [hr.out]; rfl, Below.drewN' (Below.drewN' HB.out _) _⟩
            · have hr : Hid (R = lexAt X Y 2 (4 - 2)) := hid (by rw [HK.out]; simp [lexAt, ex, ey, c1, c2])
              have c3 : (a1 == b1) = true := by simp; omega
              clear ex ey HK c1 c2
              go_wp2
              go_quiet (fail)
              go_wp2
              exact ⟨⟨2, by omega, by go_num, hr.out, HW.out.drewN _, Below.drewN' HB.out _⟩, by simp [intOf]⟩
        · obtain ⟨ex, ey⟩ := x2.out
          clear x0 x1 x2 x3
          by_cases c1 : a2 < b2
          · have hr : Hid (R = -1) := hid (by rw [HK.out]; simp [lexAt, ex, ey, c1])
            have c3 : (a2 == b2) = false := by simp; omega
            clear ex ey HK
            go_wp2
            go_quiet (fail)
            go_wp2
            go_quiet (fail)
            go_wp2
            go_ret
            exact ⟨by rw [hr.out]; rfl, Below.drewN' (Below.drewN' HB.out _) _⟩
          · by_cases c2 : b2 < a2
            · have hr : Hid (R = 1) := hid (by rw [HK.out]; simp [lexAt, ex, ey, c1, c2])
              have c3 : (a2 == b2) = false := by simp; omega
              clear ex ey HK
              go_wp2
              go_quiet (fail)
              go_wp2
              go_quiet (fail)
              go_wp2
              go_ret
              exact ⟨by rw [hr.out]; rfl, Below.drewN' (Below.drewN' HB.out _) _⟩
            · have hr : Hid (R = lexAt X Y 3 (4 - 3)) := hid (by rw [HK.out]; simp [lexAt, ex, ey, c1, c2])
              have c3 : (a2 == b2) = true := by simp; omega
              clear ex ey HK c1 c2
              go_wp2
              go_quiet (fail)
              go_wp2
              exact ⟨⟨3, by omega, by go_num, hr.out, HW.out.drewN _, Below.drewN' HB.out _⟩, by simp [intOf]⟩
        · obtain ⟨ex, ey⟩ := x3.out
          clear x0 x1 x2 x3
          by_cases c1 : a3 < b3
          · have hr : Hid (R = -1) := hid (by rw [HK.out]; simp [lexAt, ex, ey, c1])
            have c3 : (a3 == b3) = false := by simp; omega
            clear ex ey HK
            go_wp2
            go_quiet (fail)
            go_wp2
            go_quiet (fail)
            go_wp2
            go_ret
            exact ⟨by rw [hr.out]; rfl, Below.drewN' (Below.drewN' HB.out _) _⟩
          · by_cases c2 : b3 < a3
            · have hr : Hid (R = 1) := hid (by rw [HK.out]; simp [lexAt, ex, ey, c1, c2])
              have c3 : (a3 == b3) = false := by simp; omega
              clear ex ey HK
              go_wp2
              go_quiet (fail)
              go_wp2
              go_quiet (fail)
              go_wp2
              go_ret
              exact ⟨by rw [hr.out]; rfl, Below.drewN' (Below.drewN' HB.out _) _⟩
            · have hr : Hid (R = lexAt X Y 4 (4 - 4)) := hid (by rw [HK.out]; simp [lexAt, ex, ey, c1, c2])
              have c3 : (a3 == b3) = true := by simp; omega
              clear ex ey HK c1 c2
              go_wp2
              go_quiet (fail)
              go_wp2
              exact ⟨⟨4, by omega, by go_num, hr.out, HW.out.drewN _, Below.drewN' HB.out _⟩, by simp [intOf]⟩
      · obtain rfl : k = 4 := by omega
        exact absurd (by rw [HK.out]; rfl) HN.out
  · have hq : ∀ W, (Op.equalIn 10000 23 (.agg #[.int .i64 o0, .int .i64 o1, .int .i64 o2, .int .i64 o3]) (.agg #[.int .i64 0, .int .i64 1, .int .i64 2, .int .i64 3])).run Try.prog W = .ok false W := fun W => by
      have := eq23 o0 o1 o2 o3 0 1 2 3 W
      rw [decide_eq_false hp] at this
      exact this
    have HS := fun W => soundP o0 o1 o2 o3 W
    by_cases hs : SoundO o0 o1 o2 o3
    · have hd : decide (SoundO o0 o1 o2 o3) = true := decide_eq_true hs
      rw [hd] at HS
      have HG := hid (sound_range hs)
      have x0 : Hid (X 0 = pick a0 a1 a2 a3 o0 ∧ Y 0 = pick b0 b1 b2 b3 o0) := hid (by rw [HX.out, HY.out]; simp only [ordN, if_pos hs, nth, and_self])
      have x1 : Hid (X 1 = pick a0 a1 a2 a3 o1 ∧ Y 1 = pick b0 b1 b2 b3 o1) := hid (by rw [HX.out, HY.out]; simp only [ordN, if_pos hs, nth, and_self])
      have x2 : Hid (X 2 = pick a0 a1 a2 a3 o2 ∧ Y 2 = pick b0 b1 b2 b3 o2) := hid (by rw [HX.out, HY.out]; simp only [ordN, if_pos hs, nth, and_self])
      have x3 : Hid (X 3 = pick a0 a1 a2 a3 o3 ∧ Y 3 = pick b0 b1 b2 b3 o3) := hid (by rw [HX.out, HY.out]; simp only [ordN, if_pos hs, nth, and_self])
      clear hd hs hp HX HY
      go_enter Try.func8, Try.ntmps8
      go_wp2_with (go_at_call 7; with_reducible refine Calls.mono (HS _) ?_; rintro _ _ ⟨rfl, t0, t1, t2, t3, rfl⟩)
      clear HS he hq
      go_loopw [8] (fun i W => ∃ k : Nat, k ≤ 4 ∧ i = .int .i64 k ∧ R = lexAt X Y k (4 - k) ∧
          Rows3 W w.heap.size (w.heap.size + 1) (w.heap.size + 1 + 1) o0 o1 o2 o3 a0 a1 a2 a3 b0 b1 b2 b3 ∧ Below w.heap.size w W)
        (fun i _ => 4 - (intOf i).toNat)
      case atStart => exact ⟨0, Nat.zero_le _, rfl, HR.out, ((Rows3.of_alloc4 23 26 26 _).alloc (by first | (simp; done) | (simp; omega)) (by first | (simp; done) | (simp; omega)) (by first | (simp; done) | (simp; omega)) _).alloc (by first | (simp; done) | (simp; omega)) (by first | (simp; done) | (simp; omega)) (by first | (simp; done) | (simp; omega)) _, ((((((Below.refl _ _).alloc (Nat.le_refl _) _).alloc (by simp) _).alloc (by first | (simp; done) | (simp; omega)) _).alloc (by first | (simp; done) | (simp; omega)) _).alloc (by first | (simp; done) | (simp; omega)) _).alloc (by first | (simp; done) | (simp; omega)) _⟩
      case round =>
        obtain ⟨k, hk, rfl, hk2, hrows, hbel⟩ := hrel
        have HB := hid hbel
        have HK := hid hk2
        have HW := hid hrows
        have co := hrows.o
        have ca := hrows.a
        have cb := hrows.b
        clear hk2 hbel hrows
        by_cases hlt : k < 4
        · have hk4 : k = 0 ∨ k = 1 ∨ k = 2 ∨ k = 3 := by omega
          rcases hk4 with rfl | rfl | rfl | rfl
          · have hv : o0 = 0 ∨ o0 = 1 ∨ o0 = 2 ∨ o0 = 3 := by have := HG.out.1; omega
            obtain ⟨ex, ey⟩ := x0.out
            clear x0 x1 x2 x3 HG
            rcases hv with rfl | rfl | rfl | rfl
            · simp only [pick, ↓reduceIte] at ex ey
              by_cases c1 : a0 < b0
              · have hr : Hid (R = -1) := hid (by rw [HK.out]; simp [lexAt, ex, ey, c1])
                have c3 : (a0 == b0) = false := by simp; omega
                clear ex ey HK
                go_wp2
                go_quiet (fail)
                go_wp2
                go_quiet (fail)
                go_wp2
                go_ret
                exact ⟨by rw [hr.out]; rfl, Below.drewN' (Below.drewN' HB.out _) _⟩
              · by_cases c2 : b0 < a0
                · have hr : Hid (R = 1) := hid (by rw [HK.out]; simp [lexAt, ex, ey, c1, c2])
                  have c3 : (a0 == b0) = false := by simp; omega
                  clear ex ey HK
                  go_wp2
                  go_quiet (fail)
                  go_wp2
                  go_quiet (fail)
                  go_wp2
                  go_ret
                  exact ⟨by rw [hr.out]; rfl, Below.drewN' (Below.drewN' HB.out _) _⟩
                · have hr : Hid (R = lexAt X Y 1 (4 - 1)) := hid (by rw [HK.out]; simp [lexAt, ex, ey, c1, c2])
                  have c3 : (a0 == b0) = true := by simp; omega
                  clear ex ey HK c1 c2
                  go_wp2
                  go_quiet (fail)
                  go_wp2
                  exact ⟨⟨1, by omega, by go_num, hr.out, HW.out.drewN _, Below.drewN' HB.out _⟩, by simp [intOf]⟩
            · simp only [pick, ↓reduceIte, Int.reduceEq] at ex ey
              by_cases c1 : a1 < b1
              · have hr : Hid (R = -1) := hid (by rw [HK.out]; simp [lexAt, ex, ey, c1])
                have c3 : (a1 == b1) = false := by simp; omega
                clear ex ey HK
                go_wp2
                go_quiet (fail)
                go_wp2
                go_quiet (fail)
                go_wp2
                go_ret
                exact ⟨by rw [hr.out]; rfl, Below.drewN' (Below.drewN' HB.out _) _⟩
              · by_cases c2 : b1 < a1
                · have hr : Hid (R = 1) := hid (by rw [HK.out]; simp [lexAt, ex, ey, c1, c2])
                  have c3 : (a1 == b1) = false := by simp; omega
                  clear ex ey HK
                  go_wp2
                  go_quiet (fail)
                  go_wp2
                  go_quiet (fail)
                  go_wp2
                  go_ret
                  exact ⟨by rw [hr.out]; rfl, Below.drewN' (Below.drewN' HB.out _) _⟩
                · have hr : Hid (R = lexAt X Y 1 (4 - 1)) := hid (by rw [HK.out]; simp [lexAt, ex, ey, c1, c2])
                  have c3 : (a1 == b1) = true := by simp; omega
                  clear ex ey HK c1 c2
                  go_wp2
                  go_quiet (fail)
                  go_wp2
                  exact ⟨⟨1, by omega, by go_num, hr.out, HW.out.drewN _, Below.drewN' HB.out _⟩, by simp [intOf]⟩
            · simp only [pick, ↓reduceIte, Int.reduceEq] at ex ey
              by_cases c1 : a2 < b2
              · have hr : Hid (R = -1) := hid (by rw [HK.out]; simp [lexAt, ex, ey, c1])
                have c3 : (a2 == b2) = false := by simp; omega
                clear ex ey HK
                go_wp2
                go_quiet (fail)
                go_wp2
                go_quiet (fail)
                go_wp2
                go_ret
                exact ⟨by rw [hr.out]; rfl, Below.drewN' (Below.drewN' HB.out _) _⟩
              · by_cases c2 : b2 < a2
                · have hr : Hid (R = 1) := hid (by rw [HK.out]; simp [lexAt, ex, ey, c1, c2])
                  have c3 : (a2 == b2) = false := by simp; omega
                  clear ex ey HK
                  go_wp2
                  go_quiet (fail)
                  go_wp2
                  go_quiet (fail)
                  go_wp2
                  go_ret
                  exact ⟨by rw [hr.out]; rfl, Below.drewN' (Below.drewN' HB.out _) _⟩
                · have hr : Hid (R = lexAt X Y 1 (4 - 1)) := hid (by rw [HK.out]; simp [lexAt, ex, ey, c1, c2])
                  have c3 : (a2 == b2) = true := by simp; omega
                  clear ex ey HK c1 c2
                  go_wp2
                  go_quiet (fail)
                  go_wp2
                  exact ⟨⟨1, by omega, by go_num, hr.out, HW.out.drewN _, Below.drewN' HB.out _⟩, by simp [intOf]⟩
            · simp only [pick, ↓reduceIte, Int.reduceEq] at ex ey
              by_cases c1 : a3 < b3
              · have hr : Hid (R = -1) := hid (by rw [HK.out]; simp [lexAt, ex, ey, c1])
                have c3 : (a3 == b3) = false := by simp; omega
                clear ex ey HK
                go_wp2
                go_quiet (fail)
                go_wp2
                go_quiet (fail)
                go_wp2
                go_ret
                exact ⟨by rw [hr.out]; rfl, Below.drewN' (Below.drewN' HB.out _) _⟩
              · by_cases c2 : b3 < a3
                · have hr : Hid (R = 1) := hid (by rw [HK.out]; simp [lexAt, ex, ey, c1, c2])
                  have c3 : (a3 == b3) = false := by simp; omega
                  clear ex ey HK
                  go_wp2
                  go_quiet (fail)
                  go_wp2
                  go_quiet (fail)
                  go_wp2
                  go_ret
                  exact ⟨by rw [hr.out]; rfl, Below.drewN' (Below.drewN' HB.out _) _⟩
                · have hr : Hid (R = lexAt X Y 1 (4 - 1)) := hid (by rw [HK.out]; simp [lexAt, ex, ey, c1, c2])
                  have c3 : (a3 == b3) = true := by simp; omega
                  clear ex ey HK c1 c2
                  go_wp2
                  go_quiet (fail)
                  go_wp2
                  exact ⟨⟨1, by omega, by go_num, hr.out, HW.out.drewN _, Below.drewN' HB.out _⟩, by simp [intOf]⟩
          · have hv : o1 = 0 ∨ o1 = 1 ∨ o1 = 2 ∨ o1 = 3 := by have := HG.out.2.1; omega
            obtain ⟨ex, ey⟩ := x1.out
            clear x0 x1 x2 x3 HG
            rcases hv with rfl | rfl | rfl | rfl
            · simp only [pick, ↓reduceIte] at ex ey
              by_cases c1 : a0 < b0
              · have hr : Hid (R = -1) := hid (by rw [HK.out]; simp [lexAt, ex, ey, c1])
                have c3 : (a0 == b0) = false := by simp; omega
                clear ex ey HK
                go_wp2
                go_quiet (fail)
                go_wp2
                go_quiet (fail)
                go_wp2
                go_ret
                exact ⟨by rw [hr.out]; rfl, Below.drewN' (Below.drewN' HB.out _) _⟩
              · by_cases c2 : b0 < a0
                · have hr : Hid (R = 1) := hid (by rw [HK.out]; simp [lexAt, ex, ey, c1, c2])
                  have c3 : (a0 == b0) = false := by simp; omega
                  clear ex ey HK
                  go_wp2
                  go_quiet (fail)
                  go_wp2
                  go_quiet (fail)
                  go_wp2
                  go_ret
                  exact ⟨by rw [hr.out]; rfl, Below.drewN' (Below.drewN' HB.out _) _⟩
                · have hr : Hid (R = lexAt X Y 2 (4 - 2)) := hid (by rw [HK.out]; simp [lexAt, ex, ey, c1, c2])
                  have c3 : (a0 == b0) = true := by simp; omega
                  clear ex ey HK c1 c2
                  go_wp2
                  go_quiet (fail)
                  go_wp2
                  exact ⟨⟨2, by omega, by go_num, hr.out, HW.out.drewN _, Below.drewN' HB.out _⟩, by simp [intOf]⟩
            · simp only [pick, ↓reduceIte, Int.reduceEq] at ex ey
              by_cases c1 : a1 < b1
              · have hr : Hid (R = -1) := hid (by rw [HK.out]; simp [lexAt, ex, ey, c1])
                have c3 : (a1 == b1) = false := by simp; omega
                clear ex ey HK
                go_wp2
                go_quiet (fail)
                go_wp2
                go_quiet (fail)
                go_wp2
                go_ret
                exact ⟨by rw [hr.out]; rfl, Below.drewN' (Below.drewN' HB.out _) _⟩
              · by_cases c2 : b1 < a1
                · have hr : Hid (R = 1) := hid (by rw [HK.out]; simp [lexAt, ex, ey, c1, c2])
                  have c3 : (a1 == b1) = false := by simp; omega
                  clear ex ey HK
                  go_wp2
                  go_quiet (fail)
                  go_wp2
                  go_quiet (fail)
                  go_wp2
                  go_ret
                  exact ⟨by rw [hr.out]; rfl, Below.drewN' (Below.drewN' HB.out _) _⟩
                · have hr : Hid (R = lexAt X Y 2 (4 - 2)) := hid (by rw [HK.out]; simp [lexAt, ex, ey, c1, c2])
                  have c3 : (a1 == b1) = true := by simp; omega
                  clear ex ey HK c1 c2
                  go_wp2
                  go_quiet (fail)
                  go_wp2
                  exact ⟨⟨2, by omega, by go_num, hr.out, HW.out.drewN _, Below.drewN' HB.out _⟩, by simp [intOf]⟩
            · simp only [pick, ↓reduceIte, Int.reduceEq] at ex ey
              by_cases c1 : a2 < b2
              · have hr : Hid (R = -1) := hid (by rw [HK.out]; simp [lexAt, ex, ey, c1])
                have c3 : (a2 == b2) = false := by simp; omega
                clear ex ey HK
                go_wp2
                go_quiet (fail)
                go_wp2
                go_quiet (fail)
                go_wp2
                go_ret
                exact ⟨by rw [hr.out]; rfl, Below.drewN' (Below.drewN' HB.out _) _⟩
              · by_cases c2 : b2 < a2
                · have hr : Hid (R = 1) := hid (by rw [HK.out]; simp [lexAt, ex, ey, c1, c2])
                  have c3 : (a2 == b2) = false := by simp; omega
                  clear ex ey HK
                  go_wp2
                  go_quiet (fail)
                  go_wp2
                  go_quiet (fail)
                  go_wp2
                  go_ret
                  exact ⟨by rw [hr.out]; rfl, Below.drewN' (Below.drewN' HB.out _) _⟩
                · have hr : Hid (R = lexAt X Y 2 (4 - 2)) := hid (by rw [HK.out]; simp [lexAt, ex, ey, c1, c2])
                  have c3 : (a2 == b2) = true := by simp; omega
                  clear ex ey HK c1 c2
                  go_wp2
                  go_quiet (fail)
                  go_wp2
                  exact ⟨⟨2, by omega, by go_num, hr.out, HW.out.drewN _, Below.drewN' HB.out _⟩, by simp [intOf]⟩
            · simp only [pick, ↓reduceIte, Int.reduceEq] at ex ey
              by_cases c1 : a3 < b3
              · have hr : Hid (R = -1) := hid (by rw [HK.out]; simp [lexAt, ex, ey, c1])
                have c3 : (a3 == b3) = false := by simp; omega
                clear ex ey HK
                go_wp2
                go_quiet (fail)
                go_wp2
                go_quiet (fail)
                go_wp2
                go_ret
                exact ⟨by rw [hr.out]; rfl, Below.drewN' (Below.drewN' HB.out _) _⟩
              · by_cases c2 : b3 < a3
                · have hr : Hid (R = 1) := hid (by rw [HK.out]; simp [lexAt, ex, ey, c1, c2])
                  have c3 : (a3 == b3) = false := by simp; omega
                  clear ex ey HK
                  go_wp2
                  go_quiet (fail)
                  go_wp2
                  go_quiet (fail)
                  go_wp2
                  go_ret
                  exact ⟨by rw [hr.out]; rfl, Below.drewN' (Below.drewN' HB.out _) _⟩
                · have hr : Hid (R = lexAt X Y 2 (4 - 2)) := hid (by rw [HK.out]; simp [lexAt, ex, ey, c1, c2])
                  have c3 : (a3 == b3) = true := by simp; omega
                  clear ex ey HK c1 c2
                  go_wp2
                  go_quiet (fail)
                  go_wp2
                  exact ⟨⟨2, by omega, by go_num, hr.out, HW.out.drewN _, Below.drewN' HB.out _⟩, by simp [intOf]⟩
          · have hv : o2 = 0 ∨ o2 = 1 ∨ o2 = 2 ∨ o2 = 3 := by have := HG.out.2.2.1; omega
            obtain ⟨ex, ey⟩ := x2.out
            clear x0 x1 x2 x3 HG
            rcases hv with rfl | rfl | rfl | rfl
            · simp only [pick, ↓reduceIte] at ex ey
              by_cases c1 : a0 < b0
              · have hr : Hid (R = -1) := hid (by rw [HK.out]; simp [lexAt, ex, ey, c1])
                have c3 : (a0 == b0) = false := by simp; omega
                clear ex ey HK
                go_wp2
                go_quiet (fail)
                go_wp2
                go_quiet (fail)
                go_wp2
                go_ret
                exact ⟨by rw [hr.out]; rfl, Below.drewN' (Below.drewN' HB.out _) _⟩
              · by_cases c2 : b0 < a0
                · have hr : Hid (R = 1) := hid (by rw [HK.out]; simp [lexAt, ex, ey, c1, c2])
                  have c3 : (a0 == b0) = false := by simp; omega
                  clear ex ey HK
                  go_wp2
                  go_quiet (fail)
                  go_wp2
                  go_quiet (fail)
                  go_wp2
                  go_ret
                  exact ⟨by rw [hr.out]; rfl, Below.drewN' (Below.drewN' HB.out _) _⟩
                · have hr : Hid (R = lexAt X Y 3 (4 - 3)) := hid (by rw [HK.out]; simp [lexAt, ex, ey, c1, c2])
                  have c3 : (a0 == b0) = true := by simp; omega
                  clear ex ey HK c1 c2
                  go_wp2
                  go_quiet (fail)
                  go_wp2
                  exact ⟨⟨3, by omega, by go_num, hr.out, HW.out.drewN _, Below.drewN' HB.out _⟩, by simp [intOf]⟩
            · simp only [pick, ↓reduceIte, Int.reduceEq] at ex ey
              by_cases c1 : a1 < b1
              · have hr : Hid (R = -1) := hid (by rw [HK.out]; simp [lexAt, ex, ey, c1])
                have c3 : (a1 == b1) = false := by simp; omega
                clear ex ey HK
                go_wp2
                go_quiet (fail)
                go_wp2
                go_quiet (fail)
                go_wp2
                go_ret
                exact ⟨by rw [hr.out]; rfl, Below.drewN' (Below.drewN' HB.out _) _⟩
              · by_cases c2 : b1 < a1
                · have hr : Hid (R = 1) := hid (by rw [HK.out]; simp [lexAt, ex, ey, c1, c2])
                  have c3 : (a1 == b1) = false := by simp; omega
                  clear ex ey HK
                  go_wp2
                  go_quiet (fail)
                  go_wp2
                  go_quiet (fail)
                  go_wp2
                  go_ret
                  exact ⟨by rw [hr.out]; rfl, Below.drewN' (Below.drewN' HB.out _) _⟩
                · have hr : Hid (R = lexAt X Y 3 (4 - 3)) := hid (by rw [HK.out]; simp [lexAt, ex, ey, c1, c2])
                  have c3 : (a1 == b1) = true := by simp; omega
                  clear ex ey HK c1 c2
                  go_wp2
                  go_quiet (fail)
                  go_wp2
                  exact ⟨⟨3, by omega, by go_num, hr.out, HW.out.drewN _, Below.drewN' HB.out _⟩, by simp [intOf]⟩
            · simp only [pick, ↓reduceIte, Int.reduceEq] at ex ey
              by_cases c1 : a2 < b2
              · have hr : Hid (R = -1) := hid (by rw [HK.out]; simp [lexAt, ex, ey, c1])
                have c3 : (a2 == b2) = false := by simp; omega
                clear ex ey HK
                go_wp2
                go_quiet (fail)
                go_wp2
                go_quiet (fail)
                go_wp2
                go_ret
                exact ⟨by rw [hr.out]; rfl, Below.drewN' (Below.drewN' HB.out _) _⟩
              · by_cases c2 : b2 < a2
                · have hr : Hid (R = 1) := hid (by rw [HK.out]; simp [lexAt, ex, ey, c1, c2])
                  have c3 : (a2 == b2) = false := by simp; omega
                  clear ex ey HK
                  go_wp2
                  go_quiet (fail)
                  go_wp2
                  go_quiet (fail)
                  go_wp2
                  go_ret
                  exact ⟨by rw [hr.out]; rfl, Below.drewN' (Below.drewN' HB.out _) _⟩
                · have hr : Hid (R = lexAt X Y 3 (4 - 3)) := hid (by rw [HK.out]; simp [lexAt, ex, ey, c1, c2])
                  have c3 : (a2 == b2) = true := by simp; omega
                  clear ex ey HK c1 c2
                  go_wp2
                  go_quiet (fail)
                  go_wp2
                  exact ⟨⟨3, by omega, by go_num, hr.out, HW.out.drewN _, Below.drewN' HB.out _⟩, by simp [intOf]⟩
            · simp only [pick, ↓reduceIte, Int.reduceEq] at ex ey
              by_cases c1 : a3 < b3
              · have hr : Hid (R = -1) := hid (by rw [HK.out]; simp [lexAt, ex, ey, c1])
                have c3 : (a3 == b3) = false := by simp; omega
                clear ex ey HK
                go_wp2
                go_quiet (fail)
                go_wp2
                go_quiet (fail)
                go_wp2
                go_ret
                exact ⟨by rw [hr.out]; rfl, Below.drewN' (Below.drewN' HB.out _) _⟩
              · by_cases c2 : b3 < a3
                · have hr : Hid (R = 1) := hid (by rw [HK.out]; simp [lexAt, ex, ey, c1, c2])
                  have c3 : (a3 == b3) = false := by simp; omega
                  clear ex ey HK
                  go_wp2
                  go_quiet (fail)
                  go_wp2
                  go_quiet (fail)
                  go_wp2
                  go_ret
                  exact ⟨by rw [hr.out]; rfl, Below.drewN' (Below.drewN' HB.out _) _⟩
                · have hr : Hid (R = lexAt X Y 3 (4 - 3)) := hid (by rw [HK.out]; simp [lexAt, ex, ey, c1, c2])
                  have c3 : (a3 == b3) = true := by simp; omega
                  clear ex ey HK c1 c2
                  go_wp2
                  go_quiet (fail)
                  go_wp2
                  exact ⟨⟨3, by omega, by go_num, hr.out, HW.out.drewN _, Below.drewN' HB.out _⟩, by simp [intOf]⟩
          · have hv : o3 = 0 ∨ o3 = 1 ∨ o3 = 2 ∨ o3 = 3 := by have := HG.out.2.2.2; omega
            obtain ⟨ex, ey⟩ := x3.out
            clear x0 x1 x2 x3 HG
            rcases hv with rfl | rfl | rfl | rfl
            · simp only [pick, ↓reduceIte] at ex ey
              by_cases c1 : a0 < b0
              · have hr : Hid (R = -1) := hid (by rw [HK.out]; simp [lexAt, ex, ey, c1])
                have c3 : (a0 == b0) = false := by simp; omega
                clear ex ey HK
                go_wp2
                go_quiet (fail)
                go_wp2
                go_quiet (fail)
                go_wp2
                go_ret
                exact ⟨by rw [hr.out]; rfl, Below.drewN' (Below.drewN' HB.out _) _⟩
              · by_cases c2 : b0 < a0
                · have hr : Hid (R = 1) := hid (by rw [HK.out]; simp [lexAt, ex, ey, c1, c2])
                  have c3 : (a0 == b0) = false := by simp; omega
                  clear ex ey HK
                  go_wp2
                  go_quiet (fail)
                  go_wp2
                  go_quiet (fail)
                  go_wp2
                  go_ret
                  exact ⟨by rw [hr.out]; rfl, Below.drewN' (Below.drewN' HB.out _) _⟩
                · have hr : Hid (R = lexAt X Y 4 (4 - 4)) := hid (by rw [HK.out]; simp [lexAt, ex, ey, c1, c2])
                  have c3 : (a0 == b0) = true := by simp; omega
                  clear ex ey HK c1 c2
                  go_wp2
                  go_quiet (fail)
                  go_wp2
                  exact ⟨⟨4, by omega, by go_num, hr.out, HW.out.drewN _, Below.drewN' HB.out _⟩, by simp [intOf]⟩
            · simp only [pick, ↓reduceIte, Int.reduceEq] at ex ey
              by_cases c1 : a1 < b1
              · have hr : Hid (R = -1) := hid (by rw [HK.out]; simp [lexAt, ex, ey, c1])
                have c3 : (a1 == b1) = false := by simp; omega
                clear ex ey HK
                go_wp2
                go_quiet (fail)
                go_wp2
                go_quiet (fail)
                go_wp2
                go_ret
                exact ⟨by rw [hr.out]; rfl, Below.drewN' (Below.drewN' HB.out _) _⟩
              · by_cases c2 : b1 < a1
                · have hr : Hid (R = 1) := hid (by rw [HK.out]; simp [lexAt, ex, ey, c1, c2])
                  have c3 : (a1 == b1) = false := by simp; omega
                  clear ex ey HK
                  go_wp2
                  go_quiet (fail)
                  go_wp2
                  go_quiet (fail)
                  go_wp2
                  go_ret
                  exact ⟨by rw [hr.out]; rfl, Below.drewN' (Below.drewN' HB.out _) _⟩
                · have hr : Hid (R = lexAt X Y 4 (4 - 4)) := hid (by rw [HK.out]; simp [lexAt, ex, ey, c1, c2])
                  have c3 : (a1 == b1) = true := by simp; omega
                  clear ex ey HK c1 c2
                  go_wp2
                  go_quiet (fail)
                  go_wp2
                  exact ⟨⟨4, by omega, by go_num, hr.out, HW.out.drewN _, Below.drewN' HB.out _⟩, by simp [intOf]⟩
            · simp only [pick, ↓reduceIte, Int.reduceEq] at ex ey
              by_cases c1 : a2 < b2
              · have hr : Hid (R = -1) := hid (by rw [HK.out]; simp [lexAt, ex, ey, c1])
                have c3 : (a2 == b2) = false := by simp; omega
                clear ex ey HK
                go_wp2
                go_quiet (fail)
                go_wp2
                go_quiet (fail)
                go_wp2
                go_ret
                exact ⟨by rw [hr.out]; rfl, Below.drewN' (Below.drewN' HB.out _) _⟩
              · by_cases c2 : b2 < a2
                · have hr : Hid (R = 1) := hid (by rw [HK.out]; simp [lexAt, ex, ey, c1, c2])
                  have c3 : (a2 == b2) = false := by simp; omega
                  clear ex ey HK
                  go_wp2
                  go_quiet (fail)
                  go_wp2
                  go_quiet (fail)
                  go_wp2
                  go_ret
                  exact ⟨by rw [hr.out]; rfl, Below.drewN' (Below.drewN' HB.out _) _⟩
                · have hr : Hid (R = lexAt X Y 4 (4 - 4)) := hid (by rw [HK.out]; simp [lexAt, ex, ey, c1, c2])
                  have c3 : (a2 == b2) = true := by simp; omega
                  clear ex ey HK c1 c2
                  go_wp2
                  go_quiet (fail)
                  go_wp2
                  exact ⟨⟨4, by omega, by go_num, hr.out, HW.out.drewN _, Below.drewN' HB.out _⟩, by simp [intOf]⟩
            · simp only [pick, ↓reduceIte, Int.reduceEq] at ex ey
              by_cases c1 : a3 < b3
              · have hr : Hid (R = -1) := hid (by rw [HK.out]; simp [lexAt, ex, ey, c1])
                have c3 : (a3 == b3) = false := by simp; omega
                clear ex ey HK
                go_wp2
                go_quiet (fail)
                go_wp2
                go_quiet (fail)
                go_wp2
                go_ret
                exact ⟨by rw [hr.out]; rfl, Below.drewN' (Below.drewN' HB.out _) _⟩
              · by_cases c2 : b3 < a3
                · have hr : Hid (R = 1) := hid (by rw [HK.out]; simp [lexAt, ex, ey, c1, c2])
                  have c3 : (a3 == b3) = false := by simp; omega
                  clear ex ey HK
                  go_wp2
                  go_quiet (fail)
                  go_wp2
                  go_quiet (fail)
                  go_wp2
                  go_ret
                  exact ⟨by rw [hr.out]; rfl, Below.drewN' (Below.drewN' HB.out _) _⟩
                · have hr : Hid (R = lexAt X Y 4 (4 - 4)) := hid (by rw [HK.out]; simp [lexAt, ex, ey, c1, c2])
                  have c3 : (a3 == b3) = true := by simp; omega
                  clear ex ey HK c1 c2
                  go_wp2
                  go_quiet (fail)
                  go_wp2
                  exact ⟨⟨4, by omega, by go_num, hr.out, HW.out.drewN _, Below.drewN' HB.out _⟩, by simp [intOf]⟩
        · obtain rfl : k = 4 := by omega
          exact absurd (by rw [HK.out]; rfl) HN.out
    · have hd : decide (SoundO o0 o1 o2 o3) = false := decide_eq_false hs
      rw [hd] at HS
      have x0 : Hid (X 0 = a0 ∧ Y 0 = b0) := hid (by rw [HX.out, HY.out]; simp [ordN, hs, pick])
      have x1 : Hid (X 1 = a1 ∧ Y 1 = b1) := hid (by rw [HX.out, HY.out]; simp [ordN, hs, pick])
      have x2 : Hid (X 2 = a2 ∧ Y 2 = b2) := hid (by rw [HX.out, HY.out]; simp [ordN, hs, pick])
      have x3 : Hid (X 3 = a3 ∧ Y 3 = b3) := hid (by rw [HX.out, HY.out]; simp [ordN, hs, pick])
      clear hd hs hp HX HY
      go_enter Try.func8, Try.ntmps8
      go_wp2_with (go_at_call 7; with_reducible refine Calls.mono (HS _) ?_; rintro _ _ ⟨rfl, t0, t1, t2, t3, rfl⟩)
      clear HS he hq
      go_loopw [8] (fun i W => ∃ k : Nat, k ≤ 4 ∧ i = .int .i64 k ∧ R = lexAt X Y k (4 - k) ∧
          Rows3 W w.heap.size (w.heap.size + 1) (w.heap.size + 1 + 1) 0 1 2 3 a0 a1 a2 a3 b0 b1 b2 b3 ∧ Below w.heap.size w W)
        (fun i _ => 4 - (intOf i).toNat)
      case atStart => exact ⟨0, Nat.zero_le _, rfl, HR.out, ((Rows3.of_alloc4 23 26 26 _).alloc (by first | (simp; done) | (simp; omega)) (by first | (simp; done) | (simp; omega)) (by first | (simp; done) | (simp; omega)) _).alloc (by first | (simp; done) | (simp; omega)) (by first | (simp; done) | (simp; omega)) (by first | (simp; done) | (simp; omega)) _, ((((((Below.refl _ _).alloc (Nat.le_refl _) _).alloc (by simp) _).alloc (by first | (simp; done) | (simp; omega)) _).alloc (by first | (simp; done) | (simp; omega)) _).alloc (by first | (simp; done) | (simp; omega)) _).alloc (by first | (simp; done) | (simp; omega)) _⟩
      case round =>
        obtain ⟨k, hk, rfl, hk2, hrows, hbel⟩ := hrel
        have HB := hid hbel
        have HK := hid hk2
        have HW := hid hrows
        have co := hrows.o
        have ca := hrows.a
        have cb := hrows.b
        clear hk2 hbel hrows
        by_cases hlt : k < 4
        · have hk4 : k = 0 ∨ k = 1 ∨ k = 2 ∨ k = 3 := by omega
          rcases hk4 with rfl | rfl | rfl | rfl
          · obtain ⟨ex, ey⟩ := x0.out
            clear x0 x1 x2 x3
            by_cases c1 : a0 < b0
            · have hr : Hid (R = -1) := hid (by rw [HK.out]; simp [lexAt, ex, ey, c1])
              have c3 : (a0 == b0) = false := by simp; omega
              clear ex ey HK
              go_wp2
              go_quiet (fail)
              go_wp2
              go_quiet (fail)
              go_wp2
              go_ret
              exact ⟨by rw [hr.out]; rfl, Below.drewN' (Below.drewN' HB.out _) _⟩
            · by_cases c2 : b0 < a0
              · have hr : Hid (R = 1) := hid (by rw [HK.out]; simp [lexAt, ex, ey, c1, c2])
                have c3 : (a0 == b0) = false := by simp; omega
                clear ex ey HK
                go_wp2
                go_quiet (fail)
                go_wp2
                go_quiet (fail)
                go_wp2
                go_ret
                exact ⟨by rw [hr.out]; rfl, Below.drewN' (Below.drewN' HB.out _) _⟩
              · have hr : Hid (R = lexAt X Y 1 (4 - 1)) := hid (by rw [HK.out]; simp [lexAt, ex, ey, c1, c2])
                have c3 : (a0 == b0) = true := by simp; omega
                clear ex ey HK c1 c2
                go_wp2
                go_quiet (fail)
                go_wp2
                exact ⟨⟨1, by omega, by go_num, hr.out, HW.out.drewN _, Below.drewN' HB.out _⟩, by simp [intOf]⟩
          · obtain ⟨ex, ey⟩ := x1.out
            clear x0 x1 x2 x3
            by_cases c1 : a1 < b1
            · have hr : Hid (R = -1) := hid (by rw [HK.out]; simp [lexAt, ex, ey, c1])
              have c3 : (a1 == b1) = false := by simp; omega
              clear ex ey HK
              go_wp2
              go_quiet (fail)
              go_wp2
              go_quiet (fail)
              go_wp2
              go_ret
              exact ⟨by rw [hr.out]; rfl, Below.drewN' (Below.drewN' HB.out _) _⟩
            · by_cases c2 : b1 < a1
              · have hr : Hid (R = 1) := hid (by rw [HK.out]; simp [lexAt, ex, ey, c1, c2])
                have c3 : (a1 == b1) = false := by simp; omega
                clear ex ey HK
                go_wp2
                go_quiet (fail)
                go_wp2
                go_quiet (fail)
                go_wp2
                go_ret
                exact ⟨by rw [hr.out]; rfl, Below.drewN' (Below.drewN' HB.out _) _⟩
              · have hr : Hid (R = lexAt X Y 2 (4 - 2)) := hid (by rw [HK.out]; simp [lexAt, ex, ey, c1, c2])
                have c3 : (a1 == b1) = true := by simp; omega
                clear ex ey HK c1 c2
                go_wp2
                go_quiet (fail)
                go_wp2
                exact ⟨⟨2, by omega, by go_num, hr.out, HW.out.drewN _, Below.drewN' HB.out _⟩, by simp [intOf]⟩
          · obtain ⟨ex, ey⟩ := x2.out
            clear x0 x1 x2 x3
            by_cases c1 : a2 < b2
            · have hr : Hid (R = -1) := hid (by rw [HK.out]; simp [lexAt, ex, ey, c1])
              have c3 : (a2 == b2) = false := by simp; omega
              clear ex ey HK
              go_wp2
              go_quiet (fail)
              go_wp2
              go_quiet (fail)
              go_wp2
              go_ret
              exact ⟨by rw [hr.out]; rfl, Below.drewN' (Below.drewN' HB.out _) _⟩
            · by_cases c2 : b2 < a2
              · have hr : Hid (R = 1) := hid (by rw [HK.out]; simp [lexAt, ex, ey, c1, c2])
                have c3 : (a2 == b2) = false := by simp; omega
                clear ex ey HK
                go_wp2
                go_quiet (fail)
                go_wp2
                go_quiet (fail)
                go_wp2
                go_ret
                exact ⟨by rw [hr.out]; rfl, Below.drewN' (Below.drewN' HB.out _) _⟩
              · have hr : Hid (R = lexAt X Y 3 (4 - 3)) := hid (by rw [HK.out]; simp [lexAt, ex, ey, c1, c2])
                have c3 : (a2 == b2) = true := by simp; omega
                clear ex ey HK c1 c2
                go_wp2
                go_quiet (fail)
                go_wp2
                exact ⟨⟨3, by omega, by go_num, hr.out, HW.out.drewN _, Below.drewN' HB.out _⟩, by simp [intOf]⟩
          · obtain ⟨ex, ey⟩ := x3.out
            clear x0 x1 x2 x3
            by_cases c1 : a3 < b3
            · have hr : Hid (R = -1) := hid (by rw [HK.out]; simp [lexAt, ex, ey, c1])
              have c3 : (a3 == b3) = false := by simp; omega
              clear ex ey HK
              go_wp2
              go_quiet (fail)
              go_wp2
              go_quiet (fail)
              go_wp2
              go_ret
              exact ⟨by rw [hr.out]; rfl, Below.drewN' (Below.drewN' HB.out _) _⟩
            · by_cases c2 : b3 < a3
              · have hr : Hid (R = 1) := hid (by rw [HK.out]; simp [lexAt, ex, ey, c1, c2])
                have c3 : (a3 == b3) = false := by simp; omega
                clear ex ey HK
                go_wp2
                go_quiet (fail)
                go_wp2
                go_quiet (fail)
                go_wp2
                go_ret
                exact ⟨by rw [hr.out]; rfl, Below.drewN' (Below.drewN' HB.out _) _⟩
              · have hr : Hid (R = lexAt X Y 4 (4 - 4)) := hid (by rw [HK.out]; simp [lexAt, ex, ey, c1, c2])
                have c3 : (a3 == b3) = true := by simp; omega
                clear ex ey HK c1 c2
                go_wp2
                go_quiet (fail)
                go_wp2
                exact ⟨⟨4, by omega, by go_num, hr.out, HW.out.drewN _, Below.drewN' HB.out _⟩, by simp [intOf]⟩
        · obtain rfl : k = 4 := by omega
          exact absurd (by rw [HK.out]; rfl) HN.out

end Go.Proofs.Ytkielflmpodapaa
