import Derived.Test.YtkielflmpodapaaC3
namespace Go.Proofs.Ytkielflmpodapaa
open Go.RowKit

set_option maxHeartbeats 4000000 in
theorem compareR (o0 o1 o2 o3 a0 a1 a2 a3 b0 b1 b2 b3 : Int) (w : World) :
    Calls Try.prog 10 #[.agg #[.int .i64 o0, .int .i64 o1, .int .i64 o2, .int .i64 o3], .agg #[.int .u64 a0, .int .u64 a1, .int .u64 a2, .int .u64 a3], .agg #[.int .u64 b0, .int .u64 b1, .int .u64 b2, .int .u64 b3]] w fun e w' =>
      e = .returned (.int .i64 (cmpO o0 o1 o2 o3 a0 a1 a2 a3 b0 b1 b2 b3)) ∧ Below w.heap.size w w' := by
  have HS := fun W => soundR o0 o1 o2 o3 W
  obtain ⟨X, hX⟩ : ∃ X : Nat → Int, X = fun k => pick a0 a1 a2 a3 (ordN o0 o1 o2 o3 k) := ⟨_, rfl⟩
  obtain ⟨Y, hY⟩ : ∃ Y : Nat → Int, Y = fun k => pick b0 b1 b2 b3 (ordN o0 o1 o2 o3 k) := ⟨_, rfl⟩
  have hR : cmpO o0 o1 o2 o3 a0 a1 a2 a3 b0 b1 b2 b3 = lexAt X Y 0 4 := by rw [hX, hY]; rfl
  rw [hR]
  obtain ⟨R, hRR⟩ : ∃ R, R = lexAt X Y 0 4 := ⟨_, rfl⟩
  rw [← hRR]
  have HR := hid hRR
  have HX := hid hX
  have HY := hid hY
  clear hR hRR hX hY
  have H0 : Hid (Below w.heap.size w ((((w.alloc (.cells #[.int .i64 o0, .int .i64 o1, .int .i64 o2, .int .i64 o3] 23)).alloc (.cells #[.int .u64 a0, .int .u64 a1, .int .u64 a2, .int .u64 a3] 26)).alloc (.cells #[.int .u64 b0, .int .u64 b1, .int .u64 b2, .int .u64 b3] 26)).alloc (.cells #[.int .i64 o0, .int .i64 o1, .int .i64 o2, .int .i64 o3] 23))) :=
    hid (((((Below.refl _ _).alloc (Nat.le_refl _) _).alloc (by simp) _).alloc (by first | (simp; done) | (simp; omega)) _).alloc (by first | (simp; done) | (simp; omega)) _)
  have H1 : Hid (Rows3 ((((w.alloc (.cells #[.int .i64 o0, .int .i64 o1, .int .i64 o2, .int .i64 o3] 23)).alloc (.cells #[.int .u64 a0, .int .u64 a1, .int .u64 a2, .int .u64 a3] 26)).alloc (.cells #[.int .u64 b0, .int .u64 b1, .int .u64 b2, .int .u64 b3] 26)).alloc (.cells #[.int .i64 o0, .int .i64 o1, .int .i64 o2, .int .i64 o3] 23))
      w.heap.size (w.heap.size + 1) (w.heap.size + 1 + 1) o0 o1 o2 o3 a0 a1 a2 a3 b0 b1 b2 b3) :=
    hid ⟨fun i => by rw [World.cell?_alloc_past _ _ _ (by first | (simp; done) | (simp; omega)), World.cell?_alloc_past _ _ _ (by first | (simp; done) | (simp; omega)), World.cell?_alloc_past _ _ _ (by simp), World.cell?_alloc_at _ _ _ _ rfl],
      fun i => by rw [World.cell?_alloc_past _ _ _ (by first | (simp; done) | (simp; omega)), World.cell?_alloc_past _ _ _ (by simp), World.cell?_alloc_at _ _ _ _ (by simp)],
      fun i => by rw [World.cell?_alloc_past _ _ _ (by simp), World.cell?_alloc_at _ _ _ _ (by simp)]⟩
  by_cases hs : SoundO o0 o1 o2 o3
  · have hd : decide (SoundO o0 o1 o2 o3) = true := decide_eq_true hs
    have HG := hid (sound_range hs)
    rw [hd] at HS
    have x0 : Hid (X 0 = pick a0 a1 a2 a3 o0 ∧ Y 0 = pick b0 b1 b2 b3 o0) := hid (by rw [HX.out, HY.out]; simp only [ordN, if_pos hs, nth, and_self])
    have x1 : Hid (X 1 = pick a0 a1 a2 a3 o1 ∧ Y 1 = pick b0 b1 b2 b3 o1) := hid (by rw [HX.out, HY.out]; simp only [ordN, if_pos hs, nth, and_self])
    have x2 : Hid (X 2 = pick a0 a1 a2 a3 o2 ∧ Y 2 = pick b0 b1 b2 b3 o2) := hid (by rw [HX.out, HY.out]; simp only [ordN, if_pos hs, nth, and_self])
    have x3 : Hid (X 3 = pick a0 a1 a2 a3 o3 ∧ Y 3 = pick b0 b1 b2 b3 o3) := hid (by rw [HX.out, HY.out]; simp only [ordN, if_pos hs, nth, and_self])
    clear HX HY hs hd
    go_enter Try.func10, Try.ntmps10
    go_wp2_with (go_at_call 9; with_reducible refine Calls.mono (HS _) ?_; rintro _ _ ⟨rfl, rfl⟩)
    clear HS
    go_loopw [8] (fun i W => ∃ k : Nat, k ≤ 4 ∧ i = .int .i64 k ∧ R = lexAt X Y k (4 - k) ∧
        Rows3 W w.heap.size (w.heap.size + 1) (w.heap.size + 1 + 1) o0 o1 o2 o3 a0 a1 a2 a3 b0 b1 b2 b3 ∧ Below w.heap.size w W)
      (fun i _ => 4 - (intOf i).toNat)
    case atStart => exact ⟨0, Nat.zero_le _, rfl, HR.out, H1.out, H0.out⟩
    case round =>
      clear H0 H1
      obtain ⟨k, hk, rfl, hk2, hrows, hbel⟩ := hrel
      have HB := hid hbel
      have HK := hid hk2
      have HW := hid hrows
      have co := hrows.o
      have ca := hrows.a
      have cb := hrows.b
      clear hk2 hbel hrows
      by_cases hlt : k < 4
      · have hk4 : k = 0 ∨ k = 1 ∨ k = 2 ∨ k = 3 := by omega
        rcases hk4 with rfl | rfl | rfl | rfl
        · have hv : o0 = 0 ∨ o0 = 1 ∨ o0 = 2 ∨ o0 = 3 := by have := HG.out.1; omega
          obtain ⟨ex, ey⟩ := x0.out
          clear x0 x1 x2 x3 HG
          rcases hv with rfl | rfl | rfl | rfl
          · simp only [pick, ↓reduceIte] at ex ey
            by_cases c1 : a0 < b0
            · have hr : Hid (R = -1) := hid (by rw [HK.out]; simp [lexAt, ex, ey, c1])
              clear ex ey HK
              go_wp2
              go_quiet (fail)
              go_wp2
              go_ret
              exact ⟨by rw [hr.out]; rfl, Below.drewN' HB.out _⟩
            · by_cases c2 : b0 < a0
              · have hr : Hid (R = 1) := hid (by rw [HK.out]; simp [lexAt, ex, ey, c1, c2])
                clear ex ey HK
                go_wp2
                go_quiet (fail)
                go_wp2
                go_quiet (fail)
                go_wp2
                go_ret
                exact ⟨by rw [hr.out]; rfl, Below.drewN' (Below.drewN' HB.out _) _⟩
              · have hr : Hid (R = lexAt X Y 1 (4 - 1)) := hid (by rw [HK.out]; simp [lexAt, ex, ey, c1, c2])
                clear ex ey HK
                go_wp2
                go_quiet (fail)
                go_wp2
                go_quiet (fail)
                go_wp2
                exact ⟨⟨1, by omega, by go_num, hr.out, HW.out.drewN _, Below.drewN' HB.out _⟩, by simp [intOf]⟩
          · simp only [pick, ↓reduceIte, Int.reduceEq] at ex ey
            by_cases c1 : a1 < b1
            · have hr : Hid (R = -1) := hid (by rw [HK.out]; simp [lexAt, ex, ey, c1])
              clear ex ey HK
              go_wp2
              go_quiet (fail)
              go_wp2
              go_ret
              exact ⟨by rw [hr.out]; rfl, Below.drewN' HB.out _⟩
            · by_cases c2 : b1 < a1
              · have hr : Hid (R = 1) := hid (by rw [HK.out]; simp [lexAt, ex, ey, c1, c2])
                clear ex ey HK
                go_wp2
                go_quiet (fail)
                go_wp2
                go_quiet (fail)
                go_wp2
                go_ret
                exact ⟨by rw [hr.out]; rfl, Below.drewN' (Below.drewN' HB.out _) _⟩
              · have hr : Hid (R = lexAt X Y 1 (4 - 1)) := hid (by rw [HK.out]; simp [lexAt, ex, ey, c1, c2])
                clear ex ey HK
                go_wp2
                go_quiet (fail)
                go_wp2
                go_quiet (fail)
                go_wp2
                exact ⟨⟨1, by omega, by go_num, hr.out, HW.out.drewN _, Below.drewN' HB.out _⟩, by simp [intOf]⟩
          · simp only [pick, ↓reduceIte, Int.reduceEq] at ex ey
            by_cases c1 : a2 < b2
            · have hr : Hid (R = -1) := hid (by rw [HK.out]; simp [lexAt, ex, ey, c1])
              clear ex ey HK
              go_wp2
              go_quiet (fail)
              go_wp2
              go_ret
              exact ⟨by rw [hr.out]; rfl, Below.drewN' HB.out _⟩
            · by_cases c2 : b2 < a2
              · have hr : Hid (R = 1) := hid (by rw [HK.out]; simp [lexAt, ex, ey, c1, c2])
                clear ex ey HK
                go_wp2
                go_quiet (fail)
                go_wp2
                go_quiet (fail)
                go_wp2
                go_ret
                exact ⟨by rw [hr.out]; rfl, Below.drewN' (Below.drewN' HB.out _) _⟩
              · have hr : Hid (R = lexAt X Y 1 (4 - 1)) := hid (by rw [HK.out]; simp [lexAt, ex, ey, c1, c2])
                clear ex ey HK
                go_wp2
                go_quiet (fail)
                go_wp2
                go_quiet (fail)
                go_wp2
                exact ⟨⟨1, by omega, by go_num, hr.out, HW.out.drewN _, Below.drewN' HB.out _⟩, by simp [intOf]⟩
          · simp only [pick, ↓reduceIte, Int.reduceEq] at ex ey
            by_cases c1 : a3 < b3
            · have hr : Hid (R = -1) := hid (by rw [HK.out]; simp [lexAt, ex, ey, c1])
              clear ex ey HK
              go_wp2
              go_quiet (fail)
              go_wp2
              go_ret
              exact ⟨by rw [hr.out]; rfl, Below.drewN' HB.out _⟩
            · by_cases c2 : b3 < a3
              · have hr : Hid (R = 1) := hid (by rw [HK.out]; simp [lexAt, ex, ey, c1, c2])
                clear ex ey HK
                go_wp2
                go_quiet (fail)
                go_wp2
                go_quiet (fail)
                go_wp2
                go_ret
                exact ⟨by rw [hr.out]; rfl, Below.drewN' (Below.drewN' HB.out _) _⟩
              · have hr : Hid (R = lexAt X Y 1 (4 - 1)) := hid (by rw [HK.out]; simp [lexAt, ex, ey, c1, c2])
                clear ex ey HK
                go_wp2
                go_quiet (fail)
                go_wp2
                go_quiet (fail)
                go_wp2
                exact ⟨⟨1, by omega, by go_num, hr.out, HW.out.drewN _, Below.drewN' HB.out _⟩, by simp [intOf]⟩
        · have hv : o1 = 0 ∨ o1 = 1 ∨ o1 = 2 ∨ o1 = 3 := by have := HG.out.2.1; omega
          obtain ⟨ex, ey⟩ := x1.out
          clear x0 x1 x2 x3 HG
          rcases hv with rfl | rfl | rfl | rfl
          · simp only [pick, ↓reduceIte] at ex ey
            by_cases c1 : a0 < b0
            · have hr : Hid (R = -1) := hid (by rw [HK.out]; simp [lexAt, ex, ey, c1])
              clear ex ey HK
              go_wp2
              go_quiet (fail)
              go_wp2
              go_ret
              exact ⟨by rw [hr.out]; rfl, Below.drewN' HB.out _⟩
            · by_cases c2 : b0 < a0
              · have hr : Hid (R = 1) := hid (by rw [HK.out]; simp [lexAt, ex, ey, c1, c2])
                clear ex ey HK
                go_wp2
                go_quiet (fail)
                go_wp2
                go_quiet (fail)
                go_wp2
                go_ret
                exact ⟨by rw [hr.out]; rfl, Below.drewN' (Below.drewN' HB.out _) _⟩
              · have hr : Hid (R = lexAt X Y 2 (4 - 2)) := hid (by rw [HK.out]; simp [lexAt, ex, ey, c1, c2])
                clear ex ey HK
                go_wp2
                go_quiet (fail)
                go_wp2
                go_quiet (fail)
                go_wp2
                exact ⟨⟨2, by omega, by go_num, hr.out, HW.out.drewN _, Below.drewN' HB.out _⟩, by simp [intOf]⟩
          · simp only [pick, ↓reduceIte, Int.reduceEq] at ex ey
            by_cases c1 : a1 < b1
            · have hr : Hid (R = -1) := hid (by rw [HK.out]; simp [lexAt, ex, ey, c1])
              clear ex ey HK
              go_wp2
              go_quiet (fail)
              go_wp2
              go_ret
              exact ⟨by rw [hr.out]; rfl, Below.drewN' HB.out _⟩
            · by_cases c2 : b1 < a1
              · have hr : Hid (R = 1) := hid (by rw [HK.out]; simp [lexAt, ex, ey, c1, c2])
                clear ex ey HK
                go_wp2
                go_quiet (fail)
                go_wp2
                go_quiet (fail)
                go_wp2
                go_ret
                exact ⟨by rw [hr.out]; rfl, Below.drewN' (Below.drewN' HB.out _) _⟩
              · have hr : Hid (R = lexAt X Y 2 (4 - 2)) := hid (by rw [HK.out]; simp [lexAt, ex, ey, c1, c2])
                clear ex ey HK
                go_wp2
                go_quiet (fail)
                go_wp2
                go_quiet (fail)
                go_wp2
                exact ⟨⟨2, by omega, by go_num, hr.out, HW.out.drewN _, Below.drewN' HB.out _⟩, by simp [intOf]⟩
          · simp only [pick, ↓reduceIte, Int.reduceEq] at ex ey
            by_cases c1 : a2 < b2
            · have hr : Hid (R = -1) := hid (by rw [HK.out]; simp [lexAt, ex, ey, c1])
              clear ex ey HK
              go_wp2
              go_quiet (fail)
              go_wp2
              go_ret
              exact ⟨by rw [hr.out]; rfl, Below.drewN' HB.out _⟩
            · by_cases c2 : b2 < a2
              · have hr : Hid (R = 1) := hid (by rw [HK.out]; simp [lexAt, ex, ey, c1, c2])
                clear ex ey HK
                go_wp2
                go_quiet (fail)
                go_wp2
                go_quiet (fail)
                go_wp2
                go_ret
                exact ⟨by rw [hr.out]; rfl, Below.drewN' (Below.drewN' HB.out _) _⟩
              · have hr : Hid (R = lexAt X Y 2 (4 - 2)) := hid (by rw [HK.out]; simp [lexAt, ex, ey, c1, c2])
                clear ex ey HK
                go_wp2
                go_quiet (fail)
                go_wp2
                go_quiet (fail)
                go_wp2
                exact ⟨⟨2, by omega, by go_num, hr.out, HW.out.drewN _, Below.drewN' HB.out _⟩, by simp [intOf]⟩
          · simp only [pick, ↓reduceIte, Int.reduceEq] at ex ey
            by_cases c1 : a3 < b3
            · have hr : Hid (R = -1) := hid (by rw [HK.out]; simp [lexAt, ex, ey, c1])
              clear ex ey HK
              go_wp2
              go_quiet (fail)
              go_wp2
              go_ret
              exact ⟨by rw [hr.out]; rfl, Below.drewN' HB.out _⟩
            · by_cases c2 : b3 < a3
              · have hr : Hid (R = 1) := hid (by rw [HK.out]; simp [lexAt, ex, ey, c1, c2])
                clear ex ey HK
                go_wp2
                go_quiet (fail)
                go_wp2
                go_quiet (fail)
                go_wp2
                go_ret
                exact ⟨by rw [hr.out]; rfl, Below.drewN' (Below.drewN' HB.out _) _⟩
              · have hr : Hid (R = lexAt X Y 2 (4 - 2)) := hid (by rw [HK.out]; simp [lexAt, ex, ey, c1, c2])
                clear ex ey HK
                go_wp2
                go_quiet (fail)
                go_wp2
                go_quiet (fail)
                go_wp2
                exact ⟨⟨2, by omega, by go_num, hr.out, HW.out.drewN _, Below.drewN' HB.out _⟩, by simp [intOf]⟩
        · have hv : o2 = 0 ∨ o2 = 1 ∨ o2 = 2 ∨ o2 = 3 := by have := HG.out.2.2.1; omega
          obtain ⟨ex, ey⟩ := x2.out
          clear x0 x1 x2 x3 HG
          rcases hv with rfl | rfl | rfl | rfl
          · simp only [pick, ↓reduceIte] at ex ey
            by_cases c1 : a0 < b0
            · have hr : Hid (R = -1) := hid (by rw [HK.out]; simp [lexAt, ex, ey, c1])
              clear ex ey HK
              go_wp2
              go_quiet (fail)
              go_wp2
              go_ret
              exact ⟨by rw [hr.out]; rfl, Below.drewN' HB.out _⟩
            · by_cases c2 : b0 < a0
              · have hr : Hid (R = 1) := hid (by rw [HK.out]; simp [lexAt, ex, ey, c1, c2])
                clear ex ey HK
                go_wp2
                go_quiet (fail)
                go_wp2
                go_quiet (fail)
                go_wp2
                go_ret
                exact ⟨by rw [hr.out]; rfl, Below.drewN' (Below.drewN' HB.out _) _⟩
              · have hr : Hid (R = lexAt X Y 3 (4 - 3)) := hid (by rw [HK.out]; simp [lexAt, ex, ey, c1, c2])
                clear ex ey HK
                go_wp2
                go_quiet (fail)
                go_wp2
                go_quiet (fail)
                go_wp2
                exact ⟨⟨3, by omega, by go_num, hr.out, HW.out.drewN _, Below.drewN' HB.out _⟩, by simp [intOf]⟩
          · simp only [pick, ↓reduceIte, Int.reduceEq] at ex ey
            by_cases c1 : a1 < b1
            · have hr : Hid (R = -1) := hid (by rw [HK.out]; simp [lexAt, ex, ey, c1])
              clear ex ey HK
              go_wp2
              go_quiet (fail)
              go_wp2
              go_ret
              exact ⟨by rw [hr.out]; rfl, Below.drewN' HB.out _⟩
            · by_cases c2 : b1 < a1
              · have hr : Hid (R = 1) := hid (by rw [HK.out]; simp [lexAt, ex, ey, c1, c2])
                clear ex ey HK
                go_wp2
                go_quiet (fail)
                go_wp2
                go_quiet (fail)
                go_wp2
                go_ret
                exact ⟨by rw [hr.out]; rfl, Below.drewN' (Below.drewN' HB.out _) _⟩
              · have hr : Hid (R = lexAt X Y 3 (4 - 3)) := hid (by rw [HK.out]; simp [lexAt, ex, ey, c1, c2])
                clear ex ey HK
                go_wp2
                go_quiet (fail)
                go_wp2
                go_quiet (fail)
                go_wp2
                exact ⟨⟨3, by omega, by go_num, hr.out, HW.out.drewN _, Below.drewN' HB.out _⟩, by simp [intOf]⟩
          · simp only [pick, ↓reduceIte, Int.reduceEq] at ex ey
            by_cases c1 : a2 < b2
            · have hr : Hid (R = -1) := hid (by rw [HK.out]; simp [lexAt, ex, ey, c1])
              clear ex ey HK
              go_wp2
              go_quiet (fail)
              go_wp2
              go_ret
              exact ⟨by rw [hr.out]; rfl, Below.drewN' HB.out _⟩
            · by_cases c2 : b2 < a2
              · have hr : Hid (R = 1) := hid (by rw [HK.out]; simp [lexAt, ex, ey, c1, c2])
                clear ex ey HK
                go_wp2
                go_quiet (fail)
                go_wp2
                go_quiet (fail)
                go_wp2
                go_ret
                exact ⟨by rw [hr.out]; rfl, Below.drewN' (Below.drewN' HB.out _) _⟩
              · have hr : Hid (R = lexAt X Y 3 (4 - 3)) := hid (by rw [HK.out]; simp [lexAt, ex, ey, c1, c2])
                clear ex ey HK
                go_wp2
                go_quiet (fail)
                go_wp2
                go_quiet (fail)
                go_wp2
                exact ⟨⟨3, by omega, by go_num, hr.out, HW.out.drewN _, Below.drewN' HB.out _⟩, by simp [intOf]⟩
          · simp only [pick, ↓reduceIte, Int.reduceEq] at ex ey
            by_cases c1 : a3 < b3
            · have hr : Hid (R = -1) := hid (by rw [HK.out]; simp [lexAt, ex, ey, c1])
              clear ex ey HK
              go_wp2
              go_quiet (fail)
              go_wp2
              go_ret
              exact ⟨by rw [hr.out]; rfl, Below.drewN' HB.out _⟩
            · by_cases c2 : b3 < a3
              · have hr : Hid (R = 1) := hid (by rw [HK.out]; simp [lexAt, ex, ey, c1, c2])
                clear ex ey HK
                go_wp2
                go_quiet (fail)
                go_wp2
                go_quiet (fail)
                go_wp2
                go_ret
                exact ⟨by rw [hr.out]; rfl, Below.drewN' (Below.drewN' HB.out _) _⟩
              · have hr : Hid (R = lexAt X Y 3 (4 - 3)) := hid (by rw [HK.out]; simp [lexAt, ex, ey, c1, c2])
                clear ex ey HK
                go_wp2
                go_quiet (fail)
                go_wp2
                go_quiet (fail)
                go_wp2
                exact ⟨⟨3, by omega, by go_num, hr.out, HW.out.drewN _, Below.drewN' HB.out _⟩, by simp [intOf]⟩
        · have hv : o3 = 0 ∨ o3 = 1 ∨ o3 = 2 ∨ o3 = 3 := by have := HG.out.2.2.2; omega
          obtain ⟨ex, ey⟩ := x3.out
          clear x0 x1 x2 x3 HG
          rcases hv with rfl | rfl | rfl | rfl
          · simp only [pick, ↓reduceIte] at ex ey
            by_cases c1 : a0 < b0
            · have hr : Hid (R = -1) := hid (by rw [HK.out]; simp [lexAt, ex, ey, c1])
              clear ex ey HK
              go_wp2
              go_quiet (fail)
              go_wp2
              go_ret
              exact ⟨by rw [hr.out]; rfl, Below.drewN' HB.out _⟩
            · by_cases c2 : b0 < a0
              · have hr : Hid (R = 1) := hid (by rw [HK.out]; simp [lexAt, ex, ey, c1, c2])
                clear ex ey HK
                go_wp2
                go_quiet (fail)
                go_wp2
                go_quiet (fail)
                go_wp2
                go_ret
                exact ⟨by rw [hr.out]; rfl, Below.drewN' (Below.drewN' HB.out _) _⟩
              · have hr : Hid (R = lexAt X Y 4 (4 - 4)) := hid (by rw [HK.out]; simp [lexAt, ex, ey, c1, c2])
                clear ex ey HK
                go_wp2
                go_quiet (fail)
                go_wp2
                go_quiet (fail)
                go_wp2
                exact ⟨⟨4, by omega, by go_num, hr.out, HW.out.drewN _, Below.drewN' HB.out _⟩, by simp [intOf]⟩
          · simp only [pick, ↓reduceIte, Int.reduceEq] at ex ey
            by_cases c1 : a1 < b1
            · have hr : Hid (R = -1) := hid (by rw [HK.out]; simp [lexAt, ex, ey, c1])
              clear ex ey HK
              go_wp2
              go_quiet (fail)
              go_wp2
              go_ret
              exact ⟨by rw [hr.out]; rfl, Below.drewN' HB.out _⟩
            · by_cases c2 : b1 < a1
              · have hr : Hid (R = 1) := hid (by rw [HK.out]; simp [lexAt, ex, ey, c1, c2])
                clear ex ey HK
                go_wp2
                go_quiet (fail)
                go_wp2
                go_quiet (fail)
                go_wp2
                go_ret
                exact ⟨by rw [hr.out]; rfl, Below.drewN' (Below.drewN' HB.out _) _⟩
              · have hr : Hid (R = lexAt X Y 4 (4 - 4)) := hid (by rw [HK.out]; simp [lexAt, ex, ey, c1, c2])
                clear ex ey HK
                go_wp2
                go_quiet (fail)
                go_wp2
                go_quiet (fail)
                go_wp2
                exact ⟨⟨4, by omega, by go_num, hr.out, HW.out.drewN _, Below.drewN' HB.out _⟩, by simp [intOf]⟩
          · simp only [pick, ↓reduceIte, Int.reduceEq] at ex ey
            by_cases c1 : a2 < b2
            · have hr : Hid (R = -1) := hid (by rw [HK.out]; simp [lexAt, ex, ey, c1])
              clear ex ey HK
              go_wp2
              go_quiet (fail)
              go_wp2
              go_ret
              exact ⟨by rw [hr.out]; rfl, Below.drewN' HB.out _⟩
            · by_cases c2 : b2 < a2
              · have hr : Hid (R = 1) := hid (by rw [HK.out]; simp [lexAt, ex, ey, c1, c2])
                clear ex ey HK
                go_wp2
                go_quiet (fail)
                go_wp2
                go_quiet (fail)
                go_wp2
                go_ret
                exact ⟨by rw [hr.out]; rfl, Below.drewN' (Below.drewN' HB.out _) _⟩
              · have hr : Hid (R = lexAt X Y 4 (4 - 4)) := hid (by rw [HK.out]; simp [lexAt, ex, ey, c1, c2])
                clear ex ey HK
                go_wp2
                go_quiet (fail)
                go_wp2
                go_quiet (fail)
                go_wp2
                exact ⟨⟨4, by omega, by go_num, hr.out, HW.out.drewN _, Below.drewN' HB.out _⟩, by simp [intOf]⟩
          · simp only [pick, ↓reduceIte, Int.reduceEq] at ex ey
            by_cases c1 : a3 < b3
            · have hr : Hid (R = -1) := hid (by rw [HK.out]; simp [lexAt, ex, ey, c1])
              clear ex ey HK
              go_wp2
              go_quiet (fail)
              go_wp2
              go_ret
              exact ⟨by rw [hr.out]; rfl, Below.drewN' HB.out _⟩
            · by_cases c2 : b3 < a3
              · have hr : Hid (R = 1) := hid (by rw [HK.out]; simp [lexAt, ex, ey, c1, c2])
                clear ex ey HK
                go_wp2
                go_quiet (fail)
                go_wp2
                go_quiet (fail)
                go_wp2
                go_ret
                exact ⟨by rw [hr.out]; rfl, Below.drewN' (Below.drewN' HB.out _) _⟩
              · have hr : Hid (R = lexAt X Y 4 (4 - 4)) := hid (by rw [HK.out]; simp [lexAt, ex, ey, c1, c2])
                clear ex ey HK
                go_wp2
                go_quiet (fail)
                go_wp2
                go_quiet (fail)
                go_wp2
                exact ⟨⟨4, by omega, by go_num, hr.out, HW.out.drewN _, Below.drewN' HB.out _⟩, by simp [intOf]⟩
      · obtain rfl : k = 4 := by omega
        have hr : Hid (R = 0) := hid (by rw [HK.out]; rfl)
        go_wp2
        go_ret
        exact ⟨by rw [hr.out]; rfl, HB.out⟩
  · have hd : decide (SoundO o0 o1 o2 o3) = false := decide_eq_false hs
    rw [hd] at HS
    have x0 : Hid (X 0 = a0 ∧ Y 0 = b0) := hid (by rw [HX.out, HY.out]; simp [ordN, hs, pick])
    have x1 : Hid (X 1 = a1 ∧ Y 1 = b1) := hid (by rw [HX.out, HY.out]; simp [ordN, hs, pick])
    have x2 : Hid (X 2 = a2 ∧ Y 2 = b2) := hid (by rw [HX.out, HY.out]; simp [ordN, hs, pick])
    have x3 : Hid (X 3 = a3 ∧ Y 3 = b3) := hid (by rw [HX.out, HY.out]; simp [ordN, hs, pick])
    clear HX HY hs hd
    go_enter Try.func10, Try.ntmps10
    go_wp2_with (go_at_call 9; with_reducible refine Calls.mono (HS _) ?_; rintro _ _ ⟨rfl, rfl⟩)
    clear HS
    go_loopw [8] (fun i W => ∃ k : Nat, k ≤ 4 ∧ i = .int .i64 k ∧ R = lexAt X Y k (4 - k) ∧
        Rows3 W w.heap.size (w.heap.size + 1) (w.heap.size + 1 + 1) o0 o1 o2 o3 a0 a1 a2 a3 b0 b1 b2 b3 ∧ Below w.heap.size w W)
      (fun i _ => 4 - (intOf i).toNat)
    case atStart => exact ⟨0, Nat.zero_le _, rfl, HR.out, H1.out, H0.out⟩
    case round =>
      clear H0 H1
      obtain ⟨k, hk, rfl, hk2, hrows, hbel⟩ := hrel
      have HB := hid hbel
      have HK := hid hk2
      have HW := hid hrows
      have co := hrows.o
      have ca := hrows.a
      have cb := hrows.b
      clear hk2 hbel hrows
      by_cases hlt : k < 4
      · have hk4 : k = 0 ∨ k = 1 ∨ k = 2 ∨ k = 3 := by omega
        rcases hk4 with rfl | rfl | rfl | rfl
        · obtain ⟨ex, ey⟩ := x0.out
          clear x0 x1 x2 x3
          by_cases c1 : a0 < b0
          · have hr : Hid (R = -1) := hid (by rw [HK.out]; simp [lexAt, ex, ey, c1])
            clear ex ey HK
            go_wp2
            go_quiet (fail)
            go_wp2
            go_ret
            exact ⟨by rw [hr.out]; rfl, Below.drewN' HB.out _⟩
          · by_cases c2 : b0 < a0
            · have hr : Hid (R = 1) := hid (by rw [HK.out]; simp [lexAt, ex, ey, c1, c2])
              clear ex ey HK
              go_wp2
              go_quiet (fail)
              go_wp2
              go_quiet (fail)
              go_wp2
              go_ret
              exact ⟨by rw [hr.out]; rfl, Below.drewN' (Below.drewN' HB.out _) _⟩
            · have hr : Hid (R = lexAt X Y 1 (4 - 1)) := hid (by rw [HK.out]; simp [lexAt, ex, ey, c1, c2])
              clear ex ey HK
              go_wp2
              go_quiet (fail)
              go_wp2
              go_quiet (fail)
              go_wp2
              exact ⟨⟨1, by omega, by go_num, hr.out, HW.out.drewN _, Below.drewN' HB.out _⟩, by simp [intOf]⟩
        · obtain ⟨ex, ey⟩ := x1.out
          clear x0 x1 x2 x3
          by_cases c1 : a1 < b1
          · have hr : Hid (R = -1) := hid (by rw [HK.out]; simp [lexAt, ex, ey, c1])
            clear ex ey HK
            go_wp2
            go_quiet (fail)
            go_wp2
            go_ret
            exact ⟨by rw [hr.out]; rfl, Below.drewN' HB.out _⟩
          · by_cases c2 : b1 < a1
            · have hr : Hid (R = 1) := hid (by rw [HK.out]; simp [lexAt, ex, ey, c1, c2])
              clear ex ey HK
              go_wp2
              go_quiet (fail)
              go_wp2
              go_quiet (fail)
              go_wp2
              go_ret
              exact ⟨by rw [hr.out]; rfl, Below.drewN' (Below.drewN' HB.out _) _⟩
            · have hr : Hid (R = lexAt X Y 2 (4 - 2)) := hid (by rw [HK.out]; simp [lexAt, ex, ey, c1, c2])
              clear ex ey HK
              go_wp2
              go_quiet (fail)
              go_wp2
              go_quiet (fail)
              go_wp2
              exact ⟨⟨2, by omega, by go_num, hr.out, HW.out.drewN _, Below.drewN' HB.out _⟩, by simp [intOf]⟩
        · obtain ⟨ex, ey⟩ := x2.out
          clear x0 x1 x2 x3
          by_cases c1 : a2 < b2
          · have hr : Hid (R = -1) := hid (by rw [HK.out]; simp [lexAt, ex, ey, c1])
            clear ex ey HK
            go_wp2
            go_quiet (fail)
            go_wp2
            go_ret
            exact ⟨by rw [hr.out]; rfl, Below.drewN' HB.out _⟩
          · by_cases c2 : b2 < a2
            · have hr : Hid (R = 1) := hid (by rw [HK.out]; simp [lexAt, ex, ey, c1, c2])
              clear ex ey HK
              go_wp2
              go_quiet (fail)
              go_wp2
              go_quiet (fail)
              go_wp2
              go_ret
              exact ⟨by rw [hr.out]; rfl, Below.drewN' (Below.drewN' HB.out _) _⟩
            · have hr : Hid (R = lexAt X Y 3 (4 - 3)) := hid (by rw [HK.out]; simp [lexAt, ex, ey, c1, c2])
              clear ex ey HK
              go_wp2
              go_quiet (fail)
              go_wp2
              go_quiet (fail)
              go_wp2
              exact ⟨⟨3, by omega, by go_num, hr.out, HW.out.drewN _, Below.drewN' HB.out _⟩, by simp [intOf]⟩
        · obtain ⟨ex, ey⟩ := x3.out
          clear x0 x1 x2 x3
          by_cases c1 : a3 < b3
          · have hr : Hid (R = -1) := hid (by rw [HK.out]; simp [lexAt, ex, ey, c1])
            clear ex ey HK
            go_wp2
            go_quiet (fail)
            go_wp2
            go_ret
            exact ⟨by rw [hr.out]; rfl, Below.drewN' HB.out _⟩
          · by_cases c2 : b3 < a3
            · have hr : Hid (R = 1) := hid (by rw [HK.out]; simp [lexAt, ex, ey, c1, c2])
              clear ex ey HK
              go_wp2
              go_quiet (fail)
              go_wp2
              go_quiet (fail)
              go_wp2
              go_ret
              exact ⟨by rw [hr.out]; rfl, Below.drewN' (Below.drewN' HB.out _) _⟩
            · have hr : Hid (R = lexAt X Y 4 (4 - 4)) := hid (by rw [HK.out]; simp [lexAt, ex, ey, c1, c2])
              clear ex ey HK
              go_wp2
              go_quiet (fail)
              go_wp2
              go_quiet (fail)
              go_wp2
              exact ⟨⟨4, by omega, by go_num, hr.out, HW.out.drewN _, Below.drewN' HB.out _⟩, by simp [intOf]⟩
      · obtain rfl : k = 4 := by omega
        have hr : Hid (R = 0) := hid (by rw [HK.out]; rfl)
        go_wp2
        go_ret
        exact ⟨by rw [hr.out]; rfl, HB.out⟩

end Go.Proofs.Ytkielflmpodapaa
