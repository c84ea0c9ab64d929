/-
  The numbers of pointers: Leaf, isLeaf, isNode, Inner, Split, Level of both packages, within.
-/
import Derived.Test.YtkielflmpodapaaRows
import Derived.WalkKit
import Derived.WalkSpells
import Derived.WalkLawsBesides
import Derived.Laws.BitsLemmas
namespace Go.Proofs.Ytkielflmpodapaa
open Go.RowKit

theorem wraps_u64 (n : Int) (h₀ : 0 ≤ n) (h₁ : n < 2 ^ 64) : IntKind.u64.wrap n = n := by rw [IntKind.wrap_u64]; omega

theorem or_node (l i : Int) (hl0 : 0 ≤ l) (hl1 : l < 65536) (hi0 : 0 ≤ i) (hi1 : i ≤ 1099511627775) :
    bits .or .u64 (l * 1099511627776) i = l * 1099511627776 + i :=
  bits_join .u64 64 (by decide) wraps_u64 40 _ _ (by omega) (by omega) (by omega) hi0 (by omega) (by omega)

theorem and_id (p : Int) (h0 : 0 ≤ p) (h1 : p < 18446744073709551616) : bits .and .u64 p 1099511627775 = p % 1099511627776 :=
  bits_mask .u64 64 (by decide) wraps_u64 40 (by decide) p h0 (by omega)

def leafN (v : Bool) : Int := if v then 9223372036854775809 else 9223372036854775808

def innerV (l i : Int) : Value :=
  if l < 0 ∨ 65536 ≤ l ∨ i < 0 then .tuple #[.int .u64 0, .int .i64 1]
  else if 1099511627775 < i then .tuple #[.int .u64 0, .int .i64 8]
  else .tuple #[.int .u64 (l * 1099511627776 + i), .int .i64 0]

def levelN (p : Int) : Int :=
  if p = 9223372036854775808 ∨ p = 9223372036854775809 then 65536 else if p < 72057594037927936 then p / 1099511627776 else -1

def splitV (p : Int) : Value :=
  if p = 9223372036854775808 then .tuple #[.int .i64 0, .int .i64 0, .bool true, .bool false, .bool true]
  else if p = 9223372036854775809 then .tuple #[.int .i64 0, .int .i64 0, .bool true, .bool true, .bool true]
  else if p < 72057594037927936 then .tuple #[.int .i64 (p / 1099511627776), .int .i64 (p % 1099511627776), .bool false, .bool false, .bool true]
  else .tuple #[.int .i64 0, .int .i64 0, .bool false, .bool false, .bool false]

set_option maxHeartbeats 400000 in
theorem leafP (v : Bool) (w : World) :
    Calls Try.prog 14 #[.bool v] w fun e w' => e = .returned (.int .u64 (leafN v)) ∧ w' = w := by
  cases v <;> (go_enter Try.func14, Try.ntmps14; go_wp2; go_ret; exact ⟨rfl, rfl⟩)

set_option maxHeartbeats 400000 in
theorem leafR (v : Bool) (w : World) :
    Calls Try.prog 17 #[.bool v] w fun e w' => e = .returned (.int .u64 (leafN v)) ∧ w' = w := by
  cases v <;> (go_enter Try.func17, Try.ntmps17; go_wp2; go_ret; exact ⟨rfl, rfl⟩)

set_option maxHeartbeats 400000 in
theorem isNode_any (p : Int) (h0 : 0 ≤ p) (h1 : p < 18446744073709551616) (w : World) :
    Calls Try.prog 21 #[.int .u64 p] w fun e w' => e = .returned (.bool (decide (p < 72057594037927936))) ∧ w' = w := by
  have hd : decide (p / 1099511627776 < 65536) = decide (p < 72057594037927936) := by
    apply decide_eq_decide.mpr; omega
  go_enter Try.func21, Try.ntmps21
  go_wp2
  go_ret
  exact ⟨rfl, rfl⟩

set_option maxHeartbeats 400000 in
theorem isLeaf_any (p : Int) (h0 : 0 ≤ p) (h1 : p < 18446744073709551616) (w : World) :
    Calls Try.prog 20 #[.int .u64 p] w fun e w' => e = .returned (.bool (decide (p = 9223372036854775808 ∨ p = 9223372036854775809))) ∧ w' = w := by
  by_cases h : p = 9223372036854775808
  · subst h
    go_enter Try.func20, Try.ntmps20
    go_wp2
    go_ret
    exact ⟨rfl, rfl⟩
  · by_cases h2 : p = 9223372036854775809
    · subst h2
      go_enter Try.func20, Try.ntmps20
      go_wp2
      go_ret
      exact ⟨rfl, rfl⟩
    · have e1 : (p == 9223372036854775808) = false := by simp [h]
      have e2 : (p == 9223372036854775809) = false := by simp [h2]
      have e : decide (p = 9223372036854775808 ∨ p = 9223372036854775809) = false := by simp [h, h2]
      rw [e]; clear e
      go_enter Try.func20, Try.ntmps20
      go_wp2
      go_ret
      exact ⟨rfl, rfl⟩

set_option maxHeartbeats 800000 in
theorem innerP (l i : Int) (w : World) (hl : l < 9223372036854775808 ∧ -9223372036854775808 ≤ l) (hi : i < 9223372036854775808 ∧ -9223372036854775808 ≤ i) :
    Calls Try.prog 12 #[.int .i64 l, .int .i64 i] w fun e w' => e = .returned (innerV l i) ∧ w' = w := by
  by_cases h1 : l < 0 ∨ 65536 ≤ l ∨ i < 0
  · have e : innerV l i = .tuple #[.int .u64 0, .int .i64 1] := by simp [innerV, h1]
    rw [e]; clear e
    by_cases a1 : l < 0
    · go_enter Try.func12, Try.ntmps12
      go_wp2
      go_ret2
      exact ⟨rfl, rfl⟩
    · by_cases a2 : 65536 ≤ l
      · go_enter Try.func12, Try.ntmps12
        go_wp2
        go_ret2
        exact ⟨rfl, rfl⟩
      · have a3 : i < 0 := by omega
        go_enter Try.func12, Try.ntmps12
        go_wp2
        go_ret2
        exact ⟨rfl, rfl⟩
  · by_cases h2 : 1099511627775 < i
    · have e : innerV l i = .tuple #[.int .u64 0, .int .i64 8] := by simp [innerV, h1, h2]
      rw [e]; clear e
      have a1 : 0 ≤ l := by omega
      have a2 : l < 65536 := by omega
      have a3 : 0 ≤ i := by omega
      go_enter Try.func12, Try.ntmps12
      go_wp2
      go_ret2
      exact ⟨rfl, rfl⟩
    · have e : innerV l i = .tuple #[.int .u64 (l * 1099511627776 + i), .int .i64 0] := by simp [innerV, h1, h2]
      rw [e]; clear e
      have a1 : 0 ≤ l := by omega
      have a2 : l < 65536 := by omega
      have a3 : 0 ≤ i := by omega
      have a4 : i ≤ 1099511627775 := by omega
      rw [← or_node l i a1 a2 a3 a4]
      go_enter Try.func12, Try.ntmps12
      go_wp2
      go_ret2
      exact ⟨rfl, rfl⟩

set_option maxHeartbeats 800000 in
theorem innerR (l i : Int) (w : World) (hl : l < 9223372036854775808 ∧ -9223372036854775808 ≤ l) (hi : i < 9223372036854775808 ∧ -9223372036854775808 ≤ i) :
    Calls Try.prog 16 #[.int .i64 l, .int .i64 i] w fun e w' => e = .returned (innerV l i) ∧ w' = w := by
  by_cases h1 : l < 0 ∨ 65536 ≤ l ∨ i < 0
  · have e : innerV l i = .tuple #[.int .u64 0, .int .i64 1] := by simp [innerV, h1]
    rw [e]; clear e
    by_cases a1 : l < 0
    · go_enter Try.func16, Try.ntmps16
      go_wp2
      go_ret2
      exact ⟨rfl, rfl⟩
    · by_cases a2 : 65536 ≤ l
      · go_enter Try.func16, Try.ntmps16
        go_wp2
        go_ret2
        exact ⟨rfl, rfl⟩
      · have a3 : i < 0 := by omega
        go_enter Try.func16, Try.ntmps16
        go_wp2
        go_ret2
        exact ⟨rfl, rfl⟩
  · by_cases h2 : 1099511627775 < i
    · have e : innerV l i = .tuple #[.int .u64 0, .int .i64 8] := by simp [innerV, h1, h2]
      rw [e]; clear e
      have a1 : 0 ≤ l := by omega
      have a2 : l < 65536 := by omega
      have a3 : 0 ≤ i := by omega
      go_enter Try.func16, Try.ntmps16
      go_wp2
      go_ret2
      exact ⟨rfl, rfl⟩
    · have e : innerV l i = .tuple #[.int .u64 (l * 1099511627776 + i), .int .i64 0] := by simp [innerV, h1, h2]
      rw [e]; clear e
      have a1 : 0 ≤ l := by omega
      have a2 : l < 65536 := by omega
      have a3 : 0 ≤ i := by omega
      have a4 : i ≤ 1099511627775 := by omega
      go_enter Try.func16, Try.ntmps16
      go_wp2
      go_ret2
      exact ⟨rfl, rfl⟩

set_option maxHeartbeats 800000 in
theorem levelP (p : Int) (h0 : 0 ≤ p) (h1 : p < 18446744073709551616) (w : World) :
    Calls Try.prog 15 #[.int .u64 p] w fun e w' => e = .returned (.int .i64 (levelN p)) ∧ w' = w := by
  by_cases a : p = 9223372036854775808 ∨ p = 9223372036854775809
  · have e : levelN p = 65536 := by simp [levelN, a]
    have ha : decide (p = 9223372036854775808 ∨ p = 9223372036854775809) = true := by simp [a]
    have H := fun W => ha ▸ isLeaf_any p h0 h1 W
    rw [e]; clear e ha a
    go_enter Try.func15, Try.ntmps15
    go_wp2_with (first | (go_at_call 20; refine (H _).mono ?_; rintro _ _ ⟨rfl, rfl⟩))
    go_ret
    exact ⟨rfl, rfl⟩
  · have ha : decide (p = 9223372036854775808 ∨ p = 9223372036854775809) = false := by simp [a]
    have H := fun W => ha ▸ isLeaf_any p h0 h1 W
    by_cases b : p < 72057594037927936
    · have e : levelN p = p / 1099511627776 := by simp [levelN, a, b]
      have hb : decide (p < 72057594037927936) = true := by simp [b]
      have H2 := fun W => hb ▸ isNode_any p h0 h1 W
      rw [e]; clear e ha hb
      go_enter Try.func15, Try.ntmps15
      go_wp2_with (first | (go_at_call 21; refine (H2 _).mono ?_; rintro _ _ ⟨rfl, rfl⟩) | (go_at_call 20; refine (H _).mono ?_; rintro _ _ ⟨rfl, rfl⟩))
      go_ret
      exact ⟨rfl, rfl⟩
    · have e : levelN p = -1 := by simp [levelN, a, b]
      have hb : decide (p < 72057594037927936) = false := by simp [b]
      have H2 := fun W => hb ▸ isNode_any p h0 h1 W
      rw [e]; clear e ha hb
      go_enter Try.func15, Try.ntmps15
      go_wp2_with (first | (go_at_call 21; refine (H2 _).mono ?_; rintro _ _ ⟨rfl, rfl⟩) | (go_at_call 20; refine (H _).mono ?_; rintro _ _ ⟨rfl, rfl⟩))
      go_ret
      exact ⟨rfl, rfl⟩

set_option maxHeartbeats 800000 in
theorem splitP (p : Int) (h0 : 0 ≤ p) (h1 : p < 18446744073709551616) (w : World) :
    Calls Try.prog 13 #[.int .u64 p] w fun e w' => e = .returned (splitV p) ∧ w' = w := by
  by_cases a1 : p = 9223372036854775808
  · subst a1
    have H := fun W => isLeaf_any 9223372036854775808 h0 h1 W
    go_enter Try.func13, Try.ntmps13
    go_wp2_with (first | (go_at_call 20; refine (H _).mono ?_; rintro _ _ ⟨rfl, rfl⟩))
    refine bodyPost_ret (v := .tuple #[.int .i64 0, .int .i64 0, .bool true, .bool false, .bool true]) (by simp [results, Try.results13, go_sem]) rfl ⟨rfl, rfl⟩
  · by_cases a2 : p = 9223372036854775809
    · subst a2
      have H := fun W => isLeaf_any 9223372036854775809 h0 h1 W
      go_enter Try.func13, Try.ntmps13
      go_wp2_with (first | (go_at_call 20; refine (H _).mono ?_; rintro _ _ ⟨rfl, rfl⟩))
      refine bodyPost_ret (v := .tuple #[.int .i64 0, .int .i64 0, .bool true, .bool true, .bool true]) (by simp [results, Try.results13, go_sem]) rfl ⟨rfl, rfl⟩
    · have ha : decide (p = 9223372036854775808 ∨ p = 9223372036854775809) = false := by simp [a1, a2]
      have H := fun W => ha ▸ isLeaf_any p h0 h1 W
      by_cases b : p < 72057594037927936
      · have e : splitV p = .tuple #[.int .i64 (p / 1099511627776), .int .i64 (p % 1099511627776), .bool false, .bool false, .bool true] := by simp [splitV, a1, a2, b]
        have hb : decide (p < 72057594037927936) = true := by simp [b]
        have H2 := fun W => hb ▸ isNode_any p h0 h1 W
        have eA := and_id p h0 h1
        rw [e]; clear e ha hb
        go_enter Try.func13, Try.ntmps13
        go_wp2_with (first | (go_at_call 21; refine (H2 _).mono ?_; rintro _ _ ⟨rfl, rfl⟩) | (go_at_call 20; refine (H _).mono ?_; rintro _ _ ⟨rfl, rfl⟩))
        refine bodyPost_ret (v := .tuple #[.int .i64 (p / 1099511627776), .int .i64 (p % 1099511627776), .bool false, .bool false, .bool true]) (by simp [results, Try.results13, go_sem]) rfl ⟨rfl, rfl⟩
      · have e : splitV p = .tuple #[.int .i64 0, .int .i64 0, .bool false, .bool false, .bool false] := by simp [splitV, a1, a2, b]
        have hb : decide (p < 72057594037927936) = false := by simp [b]
        have H2 := fun W => hb ▸ isNode_any p h0 h1 W
        rw [e]; clear e ha hb
        go_enter Try.func13, Try.ntmps13
        go_wp2_with (first | (go_at_call 21; refine (H2 _).mono ?_; rintro _ _ ⟨rfl, rfl⟩) | (go_at_call 20; refine (H _).mono ?_; rintro _ _ ⟨rfl, rfl⟩))
        refine bodyPost_ret (v := .tuple #[.int .i64 0, .int .i64 0, .bool false, .bool false, .bool false]) (by simp [results, Try.results13, go_sem]) rfl ⟨rfl, rfl⟩

set_option maxHeartbeats 800000 in
theorem splitR (p : Int) (h0 : 0 ≤ p) (h1 : p < 18446744073709551616) (w : World) :
    Calls Try.prog 19 #[.int .u64 p] w fun e w' => e = .returned (splitV p) ∧ w' = w := by
  by_cases a1 : p = 9223372036854775808
  · subst a1
    go_enter Try.func19, Try.ntmps19
    go_wp2
    refine bodyPost_ret (v := .tuple #[.int .i64 0, .int .i64 0, .bool true, .bool false, .bool true]) (by simp [results, Try.results19, go_sem]) rfl ⟨rfl, rfl⟩
  · by_cases a2 : p = 9223372036854775809
    · subst a2
      go_enter Try.func19, Try.ntmps19
      go_wp2
      refine bodyPost_ret (v := .tuple #[.int .i64 0, .int .i64 0, .bool true, .bool true, .bool true]) (by simp [results, Try.results19, go_sem]) rfl ⟨rfl, rfl⟩
    · by_cases b : p < 72057594037927936
      · have e : splitV p = .tuple #[.int .i64 (p / 1099511627776), .int .i64 (p % 1099511627776), .bool false, .bool false, .bool true] := by simp [splitV, a1, a2, b]
        rw [e]; clear e
        have hq : p / 1099511627776 < 65536 := by omega
        go_enter Try.func19, Try.ntmps19
        go_wp2
        refine bodyPost_ret (v := .tuple #[.int .i64 (p / 1099511627776), .int .i64 (p % 1099511627776), .bool false, .bool false, .bool true]) (by simp [results, Try.results19, go_sem]) rfl ⟨rfl, rfl⟩
      · have e : splitV p = .tuple #[.int .i64 0, .int .i64 0, .bool false, .bool false, .bool false] := by simp [splitV, a1, a2, b]
        rw [e]; clear e
        have hq : 65536 ≤ p / 1099511627776 := by omega
        go_enter Try.func19, Try.ntmps19
        go_wp2
        refine bodyPost_ret (v := .tuple #[.int .i64 0, .int .i64 0, .bool false, .bool false, .bool false]) (by simp [results, Try.results19, go_sem]) rfl ⟨rfl, rfl⟩

set_option maxHeartbeats 800000 in
theorem levelR (p : Int) (h0 : 0 ≤ p) (h1 : p < 18446744073709551616) (w : World) :
    Calls Try.prog 18 #[.int .u64 p] w fun e w' => e = .returned (.int .i64 (levelN p)) ∧ w' = w := by
  have H := fun W => splitR p h0 h1 W
  by_cases a1 : p = 9223372036854775808
  · subst a1
    go_enter Try.func18, Try.ntmps18
    go_wp2_with (first | (go_at_call 19; refine (H _).mono ?_; rintro _ _ ⟨rfl, rfl⟩; simp only [splitV, ↓reduceIte]))
    go_ret
    exact ⟨rfl, rfl⟩
  · by_cases a2 : p = 9223372036854775809
    · subst a2
      go_enter Try.func18, Try.ntmps18
      go_wp2_with (first | (go_at_call 19; refine (H _).mono ?_; rintro _ _ ⟨rfl, rfl⟩; simp [splitV]))
      go_ret
      exact ⟨rfl, rfl⟩
    · by_cases b : p < 72057594037927936
      · have e : splitV p = .tuple #[.int .i64 (p / 1099511627776), .int .i64 (p % 1099511627776), .bool false, .bool false, .bool true] := by simp [splitV, a1, a2, b]
        have e2 : levelN p = p / 1099511627776 := by simp [levelN, a1, a2, b]
        rw [e] at H; rw [e2]; clear e e2
        go_enter Try.func18, Try.ntmps18
        go_wp2_with (first | (go_at_call 19; refine (H _).mono ?_; rintro _ _ ⟨rfl, rfl⟩))
        go_ret
        exact ⟨rfl, rfl⟩
      · have e : splitV p = .tuple #[.int .i64 0, .int .i64 0, .bool false, .bool false, .bool false] := by simp [splitV, a1, a2, b]
        have e2 : levelN p = -1 := by simp [levelN, a1, a2, b]
        rw [e] at H; rw [e2]; clear e e2
        go_enter Try.func18, Try.ntmps18
        go_wp2_with (first | (go_at_call 19; refine (H _).mono ?_; rintro _ _ ⟨rfl, rfl⟩))
        go_ret
        exact ⟨rfl, rfl⟩

set_option maxHeartbeats 400000 in
theorem within_any (v n : Int) (hv : v < 9223372036854775808 ∧ -9223372036854775808 ≤ v) (hn : 0 < n) (hn2 : n < 9223372036854775808) (w : World) :
    Calls Try.prog 11 #[.int .i64 v, .int .i64 n] w fun e w' => (∃ r : Int, e = .returned (.int .i64 r) ∧ 0 ≤ r ∧ r < n) ∧ w' = w := by
  by_cases h : v < 0
  · have e : -((v + 1).tmod n) = (-(v + 1)) % n := by rw [← Int.neg_tmod, Int.tmod_eq_emod_of_nonneg (by omega)]
    go_enter Try.func11, Try.ntmps11
    go_wp2
    go_ret
    exact ⟨⟨_, rfl, Int.emod_nonneg _ (by omega), Int.emod_lt_of_pos _ hn⟩, rfl⟩
  · go_enter Try.func11, Try.ntmps11
    go_wp2
    go_ret
    exact ⟨⟨_, rfl, Int.emod_nonneg _ (by omega), Int.emod_lt_of_pos _ hn⟩, rfl⟩

end Go.Proofs.Ytkielflmpodapaa
