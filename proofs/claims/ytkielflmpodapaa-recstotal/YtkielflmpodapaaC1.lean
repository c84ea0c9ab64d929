/-
  Sound, of both packages.
-/
import Derived.Test.YtkielflmpodapaaA3
import Derived.LoopN
import Derived.Laws.NewDeep
namespace Go.Proofs.Ytkielflmpodapaa
open Go.RowKit

theorem hid {q : Prop} (h : q) : Hid q := h
theorem Hid.out {q : Prop} (h : Hid q) : q := h

theorem eq23 (a b c d e f g h : Int) (w : World) : (Op.equalIn 10000 23 (.agg #[.int .i64 a, .int .i64 b, .int .i64 c, .int .i64 d]) (.agg #[.int .i64 e, .int .i64 f, .int .i64 g, .int .i64 h])).run Try.prog w
    = .ok (decide (a = e ∧ b = f ∧ c = g ∧ d = h)) w := by
  have u3 := Try.underlying3
  have a3 := Try.isAgg3
  have z3 := Try.sizeOf3
  rw [show (10000 : Nat) = 9999 + 1 from rfl, Op.equalIn]
  simp only [Sem.run_bind, run_underlying Try.underlying23, Result.andThen_ok]
  simp only [Std.Legacy.Range.forIn_eq_forIn_range', Std.Legacy.Range.size, Nat.sub_zero, Nat.add_sub_cancel, Nat.div_one, List.range'_succ, List.range'_zero, List.forIn_cons, List.forIn_nil]
  go_simp
  by_cases h1 : a = e <;> by_cases h2 : b = f <;> by_cases h3 : c = g <;> by_cases h4 : d = h <;> simp [h1, h2, h3, h4]

theorem eq26 (a b c d e f g h : Int) (w : World) : (Op.equalIn 10000 26 (.agg #[.int .u64 a, .int .u64 b, .int .u64 c, .int .u64 d]) (.agg #[.int .u64 e, .int .u64 f, .int .u64 g, .int .u64 h])).run Try.prog w
    = .ok (decide (a = e ∧ b = f ∧ c = g ∧ d = h)) w := by
  have u3 := Try.underlying24
  have a3 := Try.isAgg24
  have z3 := Try.sizeOf24
  rw [show (10000 : Nat) = 9999 + 1 from rfl, Op.equalIn]
  simp only [Sem.run_bind, run_underlying Try.underlying26, Result.andThen_ok]
  simp only [Std.Legacy.Range.forIn_eq_forIn_range', Std.Legacy.Range.size, Nat.sub_zero, Nat.add_sub_cancel, Nat.div_one, List.range'_succ, List.range'_zero, List.forIn_cons, List.forIn_nil]
  go_simp
  by_cases h1 : a = e <;> by_cases h2 : b = f <;> by_cases h3 : c = g <;> by_cases h4 : d = h <;> simp [h1, h2, h3, h4]

def hit (o k : Int) : Int := if o = k then 1 else 0

theorem hit_01 (o k : Int) : hit o k = 0 ∨ hit o k = 1 := by unfold hit; split <;> simp

theorem hit_sum (o : Int) : hit o 0 + hit o 1 + hit o 2 + hit o 3 ≤ 1 ∧ ((o < 0 ∨ 4 ≤ o) → hit o 0 = 0 ∧ hit o 1 = 0 ∧ hit o 2 = 0 ∧ hit o 3 = 0) := by
  unfold hit
  constructor
  · repeat' split
    all_goals omega
  · intro h
    repeat' split
    all_goals omega

def cnt (o0 o1 o2 o3 k : Int) : Int := hit o0 k + hit o1 k + hit o2 k + hit o3 k

/-- Each of 0, 1, 2, 3 just once. -/
abbrev SoundO (o0 o1 o2 o3 : Int) : Prop := cnt o0 o1 o2 o3 0 = 1 ∧ cnt o0 o1 o2 o3 1 = 1 ∧ cnt o0 o1 o2 o3 2 = 1 ∧ cnt o0 o1 o2 o3 3 = 1

def part (o0 o1 o2 o3 : Int) (k : Nat) (j : Int) : Int :=
  (if 0 < k then hit o0 j else 0) + (if 1 < k then hit o1 j else 0) + (if 2 < k then hit o2 j else 0) + (if 3 < k then hit o3 j else 0)

theorem part_in (o0 o1 o2 o3 : Int) (k : Nat) (j : Int) : 0 ≤ part o0 o1 o2 o3 k j ∧ part o0 o1 o2 o3 k j ≤ 4 := by
  unfold part
  have a0 := hit_01 o0 j
  have a1 := hit_01 o1 j
  have a2 := hit_01 o2 j
  have a3 := hit_01 o3 j
  constructor <;> (repeat' split) <;> omega

def nth (o0 o1 o2 o3 : Int) (k : Nat) : Int := match k with | 0 => o0 | 1 => o1 | 2 => o2 | _ => o3

theorem part_succ (o0 o1 o2 o3 : Int) (k : Nat) (hk : k < 4) (j : Int) : part o0 o1 o2 o3 (k + 1) j = part o0 o1 o2 o3 k j + hit (nth o0 o1 o2 o3 k) j := by
  have : k = 0 ∨ k = 1 ∨ k = 2 ∨ k = 3 := by omega
  rcases this with rfl | rfl | rfl | rfl <;> simp [part, nth] <;> omega

theorem part_four (o0 o1 o2 o3 j : Int) : part o0 o1 o2 o3 4 j = cnt o0 o1 o2 o3 j := by simp [part, cnt]

def orderV (o0 o1 o2 o3 : Int) : Value := .agg #[.int .i64 o0, .int .i64 o1, .int .i64 o2, .int .i64 o3]
def timesW (w : World) (o0 o1 o2 o3 t0 t1 t2 t3 : Int) : World :=
  (w.alloc (.cells #[.int .i64 o0, .int .i64 o1, .int .i64 o2, .int .i64 o3] 23)).alloc (.cells #[.int .i64 t0, .int .i64 t1, .int .i64 t2, .int .i64 t3] 23)

theorem not_sound {o0 o1 o2 o3 o : Int} (ho : o = o0 ∨ o = o1 ∨ o = o2 ∨ o = o3) (h : o < 0 ∨ 4 ≤ o) : ¬ SoundO o0 o1 o2 o3 := by
  unfold SoundO cnt
  have a0 := hit_sum o0
  have a1 := hit_sum o1
  have a2 := hit_sum o2
  have a3 := hit_sum o3
  rcases ho with rfl | rfl | rfl | rfl
  · have := a0.2 h; omega
  · have := a1.2 h; omega
  · have := a2.2 h; omega
  · have := a3.2 h; omega

theorem index_order (o0 o1 o2 o3 : Int) (k : Nat) (hk : k < 4) (w : World) :
    (Instr.index 23 (.agg #[.int .i64 o0, .int .i64 o1, .int .i64 o2, .int .i64 o3]) (.int .i64 (k : Int))).run Try.prog w = .ok (.int .i64 (nth o0 o1 o2 o3 k)) w := by
  have i0 : (Instr.index 23 (.agg #[.int .i64 o0, .int .i64 o1, .int .i64 o2, .int .i64 o3]) (.int .i64 0)).run Try.prog w = .ok (.int .i64 o0) w := by kernel_rfl
  have i1 : (Instr.index 23 (.agg #[.int .i64 o0, .int .i64 o1, .int .i64 o2, .int .i64 o3]) (.int .i64 1)).run Try.prog w = .ok (.int .i64 o1) w := by kernel_rfl
  have i2 : (Instr.index 23 (.agg #[.int .i64 o0, .int .i64 o1, .int .i64 o2, .int .i64 o3]) (.int .i64 2)).run Try.prog w = .ok (.int .i64 o2) w := by kernel_rfl
  have i3 : (Instr.index 23 (.agg #[.int .i64 o0, .int .i64 o1, .int .i64 o2, .int .i64 o3]) (.int .i64 3)).run Try.prog w = .ok (.int .i64 o3) w := by kernel_rfl
  have : k = 0 ∨ k = 1 ∨ k = 2 ∨ k = 3 := by omega
  rcases this with rfl | rfl | rfl | rfl
  · exact i0
  · exact i1
  · exact i2
  · exact i3

set_option maxHeartbeats 1000000 in
theorem soundP (o0 o1 o2 o3 : Int) (w : World) :
    Calls Try.prog 7 #[.agg #[.int .i64 o0, .int .i64 o1, .int .i64 o2, .int .i64 o3]] w fun e w' =>
      e = .returned (.bool (decide (SoundO o0 o1 o2 o3))) ∧ ∃ t0 t1 t2 t3 : Int, w' = (w.alloc (.cells #[.int .i64 o0, .int .i64 o1, .int .i64 o2, .int .i64 o3] 23)).alloc (.cells #[.int .i64 t0, .int .i64 t1, .int .i64 t2, .int .i64 t3] 23) := by
  obtain ⟨bb, hb⟩ : ∃ b, b = decide (SoundO o0 o1 o2 o3) := ⟨_, rfl⟩
  rw [← hb]
  have HB := hid hb
  clear hb
  go_enter Try.func7, Try.ntmps7
  go_wp2
  go_loopw [7] (fun i W => ∃ k : Nat, k ≤ 4 ∧ i = .int .i64 k ∧
      W = (w.alloc (.cells #[.int .i64 o0, .int .i64 o1, .int .i64 o2, .int .i64 o3] 23)).alloc (.cells #[.int .i64 (part o0 o1 o2 o3 k 0), .int .i64 (part o0 o1 o2 o3 k 1), .int .i64 (part o0 o1 o2 o3 k 2), .int .i64 (part o0 o1 o2 o3 k 3)] 23))
    (fun i _ => 4 - (intOf i).toNat)
  case atStart => exact ⟨0, Nat.zero_le _, rfl, by simp [part]⟩
  case round =>
    obtain ⟨k, hk, rfl, rfl⟩ := hrel
    have b0 := part_in o0 o1 o2 o3 k 0
    have b1 := part_in o0 o1 o2 o3 k 1
    have b2 := part_in o0 o1 o2 o3 k 2
    have b3 := part_in o0 o1 o2 o3 k 3
    by_cases hlt : k < 4
    · have hi := index_order o0 o1 o2 o3 k hlt
      have s0 := hid (part_succ o0 o1 o2 o3 k hlt 0)
      have s1 := hid (part_succ o0 o1 o2 o3 k hlt 1)
      have s2 := hid (part_succ o0 o1 o2 o3 k hlt 2)
      have s3 := hid (part_succ o0 o1 o2 o3 k hlt 3)
      have hn : Hid (nth o0 o1 o2 o3 k = o0 ∨ nth o0 o1 o2 o3 k = o1 ∨ nth o0 o1 o2 o3 k = o2 ∨ nth o0 o1 o2 o3 k = o3) := hid (by
        have : k = 0 ∨ k = 1 ∨ k = 2 ∨ k = 3 := by omega
        rcases this with rfl | rfl | rfl | rfl <;> simp [nth])
      obtain ⟨x, hx⟩ : ∃ x, x = nth o0 o1 o2 o3 k := ⟨_, rfl⟩
      rw [← hx] at hi s0 s1 s2 s3 hn
      have hkI : (k : Int) < 4 := by omega
      have hwk : wrap64 ((k : Int) + 1) = (k : Int) + 1 := IntWalk.wrap64_in _ ⟨by omega, by omega⟩
      obtain ⟨q0, e0⟩ : ∃ q, q = part o0 o1 o2 o3 k 0 := ⟨_, rfl⟩
      obtain ⟨q1, e1⟩ : ∃ q, q = part o0 o1 o2 o3 k 1 := ⟨_, rfl⟩
      obtain ⟨q2, e2⟩ : ∃ q, q = part o0 o1 o2 o3 k 2 := ⟨_, rfl⟩
      obtain ⟨q3, e3⟩ : ∃ q, q = part o0 o1 o2 o3 k 3 := ⟨_, rfl⟩
      rw [← e0] at b0 s0; rw [← e1] at b1 s1; rw [← e2] at b2 s2; rw [← e3] at b3 s3
      rw [← e0, ← e1, ← e2, ← e3]
      clear e0 e1 e2 e3 hx
      by_cases hr : x < 0 ∨ 4 ≤ x
      · have hns : Hid (bb = false) := hid (by rw [HB.out]; exact decide_eq_false (not_sound hn.out hr))
        clear hn
        rcases hr with hr | hr
        · go_wp2
          go_ret
          exact ⟨by rw [hns.out]; rfl, _, _, _, _, rfl⟩
        · have hr' : 0 ≤ x := by omega
          go_wp2
          go_ret
          exact ⟨by rw [hns.out]; rfl, _, _, _, _, rfl⟩
      · have hxc : x = 0 ∨ x = 1 ∨ x = 2 ∨ x = 3 := by omega
        clear hr hn
        rcases hxc with rfl | rfl | rfl | rfl
        · go_wp2
          go_roundw
          case rel => first | exact ⟨k + 1, by omega, by go_num, by rw [s0.out, s1.out, s2.out, s3.out]; simp [hit]⟩ | ((repeat apply Exists.intro); exact ⟨⟨k + 1, by omega, by go_num, by rw [s0.out, s1.out, s2.out, s3.out]; simp [hit]⟩, rfl⟩)
          case measure => simp [intOf]; omega
        · go_wp2
          go_roundw
          case rel => first | exact ⟨k + 1, by omega, by go_num, by rw [s0.out, s1.out, s2.out, s3.out]; simp [hit]⟩ | ((repeat apply Exists.intro); exact ⟨⟨k + 1, by omega, by go_num, by rw [s0.out, s1.out, s2.out, s3.out]; simp [hit]⟩, rfl⟩)
          case measure => simp [intOf]; omega
        · go_wp2
          go_roundw
          case rel => first | exact ⟨k + 1, by omega, by go_num, by rw [s0.out, s1.out, s2.out, s3.out]; simp [hit]⟩ | ((repeat apply Exists.intro); exact ⟨⟨k + 1, by omega, by go_num, by rw [s0.out, s1.out, s2.out, s3.out]; simp [hit]⟩, rfl⟩)
          case measure => simp [intOf]; omega
        · go_wp2
          go_roundw
          case rel => first | exact ⟨k + 1, by omega, by go_num, by rw [s0.out, s1.out, s2.out, s3.out]; simp [hit]⟩ | ((repeat apply Exists.intro); exact ⟨⟨k + 1, by omega, by go_num, by rw [s0.out, s1.out, s2.out, s3.out]; simp [hit]⟩, rfl⟩)
          case measure => simp [intOf]; omega
    · obtain rfl : k = 4 := by omega
      have hc := eq23 (part o0 o1 o2 o3 4 0) (part o0 o1 o2 o3 4 1) (part o0 o1 o2 o3 4 2) (part o0 o1 o2 o3 4 3) 1 1 1 1
      have hd : decide (part o0 o1 o2 o3 4 0 = 1 ∧ part o0 o1 o2 o3 4 1 = 1 ∧ part o0 o1 o2 o3 4 2 = 1 ∧ part o0 o1 o2 o3 4 3 = 1) = decide (SoundO o0 o1 o2 o3) := by simp only [part_four]
      rw [hd, ← HB.out] at hc
      clear hd
      go_wp2
      go_ret
      exact ⟨rfl, _, _, _, _, rfl⟩

end Go.Proofs.Ytkielflmpodapaa
