import Derived.Test.YtkielflmpodapaaA3
namespace Go.Proofs.Ytkielflmpodapaa
open Go.RowKit

theorem split_node (l i : Int) (hl0 : 0 ≤ l) (hl1 : l < 65536) (hi0 : 0 ≤ i) (hi1 : i < 1099511627776) :
    splitV (l * 1099511627776 + i) = .tuple #[.int .i64 l, .int .i64 i, .bool false, .bool false, .bool true] := by
  have a1 : ¬ l * 1099511627776 + i = 9223372036854775808 := by omega
  have a2 : ¬ l * 1099511627776 + i = 9223372036854775809 := by omega
  have a3 : l * 1099511627776 + i < 72057594037927936 := by omega
  have a4 : (l * 1099511627776 + i) / 1099511627776 = l := by omega
  have a5 : (l * 1099511627776 + i) % 1099511627776 = i := by omega
  simp only [splitV, if_neg a1, if_neg a2, if_pos a3, a4, a5]

theorem level_node (l i : Int) (hl0 : 0 ≤ l) (hl1 : l < 65536) (hi0 : 0 ≤ i) (hi1 : i < 1099511627776) : levelN (l * 1099511627776 + i) = l := by
  have a1 : ¬ (l * 1099511627776 + i = 9223372036854775808 ∨ l * 1099511627776 + i = 9223372036854775809) := by omega
  have a3 : l * 1099511627776 + i < 72057594037927936 := by omega
  have a4 : (l * 1099511627776 + i) / 1099511627776 = l := by omega
  simp only [levelN, if_neg a1, if_pos a3, a4]

theorem inner_node (l i : Int) (hl0 : 0 ≤ l) (hl1 : l < 65536) (hi0 : 0 ≤ i) (hi1 : i < 1099511627776) :
    innerV l i = .tuple #[.int .u64 (l * 1099511627776 + i), .int .i64 0] := by
  have a1 : ¬ (l < 0 ∨ 65536 ≤ l ∨ i < 0) := by omega
  have a2 : ¬ 1099511627775 < i := by omega
  simp only [innerV, if_neg a1, if_neg a2]

set_option maxHeartbeats 400000 in
theorem within_det (v n : Int) (hv : v < 9223372036854775808 ∧ -9223372036854775808 ≤ v) (hn : 0 < n) (hn2 : n < 9223372036854775808) :
    ∃ r : Int, 0 ≤ r ∧ r < n ∧ ∀ w : World, Calls Try.prog 11 #[.int .i64 v, .int .i64 n] w fun e w' => e = .returned (.int .i64 r) ∧ w' = w := by
  by_cases h : v < 0
  · refine ⟨(-(v + 1)) % n, Int.emod_nonneg _ (by omega), Int.emod_lt_of_pos _ hn, fun w => ?_⟩
    have e : -((v + 1).tmod n) = (-(v + 1)) % n := by rw [← Int.neg_tmod, Int.tmod_eq_emod_of_nonneg (by omega)]
    go_enter Try.func11, Try.ntmps11
    go_wp2
    go_ret
    exact ⟨rfl, rfl⟩
  · refine ⟨v % n, Int.emod_nonneg _ (by omega), Int.emod_lt_of_pos _ hn, fun w => ?_⟩
    go_enter Try.func11, Try.ntmps11
    go_wp2
    go_ret
    exact ⟨rfl, rfl⟩

/-- The calls of RecsRank, of known numbers. -/
structure Ranks (x0 x1 y0 y1 l i m j P Q : Int) : Prop where
  w1 : ∀ W, Calls Try.prog 11 #[.int .i64 x0, .int .i64 65536] W fun e w' => e = .returned (.int .i64 l) ∧ w' = W
  w2 : ∀ W, Calls Try.prog 11 #[.int .i64 y0, .int .i64 65536] W fun e w' => e = .returned (.int .i64 m) ∧ w' = W
  w3 : ∀ W, Calls Try.prog 11 #[.int .i64 x1, .int .i64 1099511627776] W fun e w' => e = .returned (.int .i64 i) ∧ w' = W
  w4 : ∀ W, Calls Try.prog 11 #[.int .i64 y1, .int .i64 1099511627776] W fun e w' => e = .returned (.int .i64 j) ∧ w' = W
  i1 : ∀ W, Calls Try.prog 12 #[.int .i64 l, .int .i64 i] W fun e w' => e = .returned (.tuple #[.int .u64 P, .int .i64 0]) ∧ w' = W
  i2 : ∀ W, Calls Try.prog 12 #[.int .i64 m, .int .i64 j] W fun e w' => e = .returned (.tuple #[.int .u64 Q, .int .i64 0]) ∧ w' = W
  sp : ∀ W, Calls Try.prog 13 #[.int .u64 P] W fun e w' => e = .returned (.tuple #[.int .i64 l, .int .i64 i, .bool false, .bool false, .bool true]) ∧ w' = W
  lv : ∀ W, Calls Try.prog 15 #[.int .u64 P] W fun e w' => e = .returned (.int .i64 l) ∧ w' = W

theorem lv0 (W : World) : Calls Try.prog 15 #[.int .u64 9223372036854775808] W fun e w' => e = .returned (.int .i64 65536) ∧ w' = W := levelP 9223372036854775808 (by decide) (by decide) W
theorem lv1 (W : World) : Calls Try.prog 15 #[.int .u64 9223372036854775809] W fun e w' => e = .returned (.int .i64 65536) ∧ w' = W := levelP 9223372036854775809 (by decide) (by decide) W
theorem lf0 (W : World) : Calls Try.prog 14 #[.bool false] W fun e w' => e = .returned (.int .u64 9223372036854775808) ∧ w' = W := leafP false W
theorem lf1 (W : World) : Calls Try.prog 14 #[.bool true] W fun e w' => e = .returned (.int .u64 9223372036854775809) ∧ w' = W := leafP true W

set_option maxHeartbeats 1000000 in
theorem rank_walk (x0 x1 x2 : Int) (x3 : Bool) (y0 y1 y2 : Int) (y3 : Bool) (l i m j P Q : Int) (K : Ranks x0 x1 y0 y1 l i m j P Q)
    (hl : l < 65536) (hP : P < 9223372036854775808) (hQ : Q < 9223372036854775808)
    (hc : (P < Q ∧ l < m) ∨ (Q < P ∧ m < l) ∨ (P < Q ∧ l = m ∧ i < j) ∨ (Q < P ∧ l = m ∧ j < i) ∨ (P = Q ∧ l = m ∧ i = j)) (w : World) :
    Calls Try.prog 5 #[.agg #[.int .i64 x0, .int .i64 x1, .int .u64 x2, .bool x3], .agg #[.int .i64 y0, .int .i64 y1, .int .u64 y2, .bool y3]] w fun e w' =>
      e = .returned (.bool true) ∧ Below w.heap.size w w' := by
  have hB : Below w.heap.size w ((w.alloc (.cells #[.int .i64 x0, .int .i64 x1, .int .u64 x2, .bool x3] 34)).alloc (.cells #[.int .i64 y0, .int .i64 y1, .int .u64 y2, .bool y3] 34)) :=
    ((Below.refl _ _).alloc (Nat.le_refl _) _).alloc (by simp) _
  obtain ⟨w1, w2, w3, w4, i1, i2, sp, lv⟩ := K
  rcases hc with ⟨c1, c2⟩ | ⟨c1, c2⟩ | ⟨c1, rfl, c3⟩ | ⟨c1, rfl, c3⟩ | ⟨rfl, rfl, rfl⟩
  · have d1 : (l == m) = false := by simp; omega
    have d2 : (P == Q) = false := by simp; omega
    go_enter Try.func5, Try.ntmps5
    go_wp2_with (first
      | (go_at_call 15; with_reducible refine Calls.mono (lv1 _) ?_; rintro _ _ ⟨rfl, rfl⟩)
      | (go_at_call 15; with_reducible refine Calls.mono (lv0 _) ?_; rintro _ _ ⟨rfl, rfl⟩)
      | (go_at_call 15; with_reducible refine Calls.mono (lv _) ?_; rintro _ _ ⟨rfl, rfl⟩)
      | (go_at_call 14; with_reducible refine Calls.mono (lf1 _) ?_; rintro _ _ ⟨rfl, rfl⟩)
      | (go_at_call 14; with_reducible refine Calls.mono (lf0 _) ?_; rintro _ _ ⟨rfl, rfl⟩)
      | (go_at_call 13; with_reducible refine Calls.mono (sp _) ?_; rintro _ _ ⟨rfl, rfl⟩)
      | (go_at_call 12; with_reducible refine Calls.mono (i2 _) ?_; rintro _ _ ⟨rfl, rfl⟩)
      | (go_at_call 12; with_reducible refine Calls.mono (i1 _) ?_; rintro _ _ ⟨rfl, rfl⟩)
      | (go_at_call 11; with_reducible refine Calls.mono (w4 _) ?_; rintro _ _ ⟨rfl, rfl⟩)
      | (go_at_call 11; with_reducible refine Calls.mono (w3 _) ?_; rintro _ _ ⟨rfl, rfl⟩)
      | (go_at_call 11; with_reducible refine Calls.mono (w2 _) ?_; rintro _ _ ⟨rfl, rfl⟩)
      | (go_at_call 11; with_reducible refine Calls.mono (w1 _) ?_; rintro _ _ ⟨rfl, rfl⟩))
    go_ret
    exact ⟨rfl, hB⟩
  · have d1 : (l == m) = false := by simp; omega
    have d2 : (P == Q) = false := by simp; omega
    go_enter Try.func5, Try.ntmps5
    go_wp2_with (first
      | (go_at_call 15; with_reducible refine Calls.mono (lv1 _) ?_; rintro _ _ ⟨rfl, rfl⟩)
      | (go_at_call 15; with_reducible refine Calls.mono (lv0 _) ?_; rintro _ _ ⟨rfl, rfl⟩)
      | (go_at_call 15; with_reducible refine Calls.mono (lv _) ?_; rintro _ _ ⟨rfl, rfl⟩)
      | (go_at_call 14; with_reducible refine Calls.mono (lf1 _) ?_; rintro _ _ ⟨rfl, rfl⟩)
      | (go_at_call 14; with_reducible refine Calls.mono (lf0 _) ?_; rintro _ _ ⟨rfl, rfl⟩)
      | (go_at_call 13; with_reducible refine Calls.mono (sp _) ?_; rintro _ _ ⟨rfl, rfl⟩)
      | (go_at_call 12; with_reducible refine Calls.mono (i2 _) ?_; rintro _ _ ⟨rfl, rfl⟩)
      | (go_at_call 12; with_reducible refine Calls.mono (i1 _) ?_; rintro _ _ ⟨rfl, rfl⟩)
      | (go_at_call 11; with_reducible refine Calls.mono (w4 _) ?_; rintro _ _ ⟨rfl, rfl⟩)
      | (go_at_call 11; with_reducible refine Calls.mono (w3 _) ?_; rintro _ _ ⟨rfl, rfl⟩)
      | (go_at_call 11; with_reducible refine Calls.mono (w2 _) ?_; rintro _ _ ⟨rfl, rfl⟩)
      | (go_at_call 11; with_reducible refine Calls.mono (w1 _) ?_; rintro _ _ ⟨rfl, rfl⟩))
    go_ret
    exact ⟨rfl, hB⟩
  · have d2 : (P == Q) = false := by simp; omega
    have d3 : (i == j) = false := by simp; omega
    go_enter Try.func5, Try.ntmps5
    go_wp2_with (first
      | (go_at_call 15; with_reducible refine Calls.mono (lv1 _) ?_; rintro _ _ ⟨rfl, rfl⟩)
      | (go_at_call 15; with_reducible refine Calls.mono (lv0 _) ?_; rintro _ _ ⟨rfl, rfl⟩)
      | (go_at_call 15; with_reducible refine Calls.mono (lv _) ?_; rintro _ _ ⟨rfl, rfl⟩)
      | (go_at_call 14; with_reducible refine Calls.mono (lf1 _) ?_; rintro _ _ ⟨rfl, rfl⟩)
      | (go_at_call 14; with_reducible refine Calls.mono (lf0 _) ?_; rintro _ _ ⟨rfl, rfl⟩)
      | (go_at_call 13; with_reducible refine Calls.mono (sp _) ?_; rintro _ _ ⟨rfl, rfl⟩)
      | (go_at_call 12; with_reducible refine Calls.mono (i2 _) ?_; rintro _ _ ⟨rfl, rfl⟩)
      | (go_at_call 12; with_reducible refine Calls.mono (i1 _) ?_; rintro _ _ ⟨rfl, rfl⟩)
      | (go_at_call 11; with_reducible refine Calls.mono (w4 _) ?_; rintro _ _ ⟨rfl, rfl⟩)
      | (go_at_call 11; with_reducible refine Calls.mono (w3 _) ?_; rintro _ _ ⟨rfl, rfl⟩)
      | (go_at_call 11; with_reducible refine Calls.mono (w2 _) ?_; rintro _ _ ⟨rfl, rfl⟩)
      | (go_at_call 11; with_reducible refine Calls.mono (w1 _) ?_; rintro _ _ ⟨rfl, rfl⟩))
    go_ret
    exact ⟨rfl, hB⟩
  · have d2 : (P == Q) = false := by simp; omega
    have d3 : (i == j) = false := by simp; omega
    go_enter Try.func5, Try.ntmps5
    go_wp2_with (first
      | (go_at_call 15; with_reducible refine Calls.mono (lv1 _) ?_; rintro _ _ ⟨rfl, rfl⟩)
      | (go_at_call 15; with_reducible refine Calls.mono (lv0 _) ?_; rintro _ _ ⟨rfl, rfl⟩)
      | (go_at_call 15; with_reducible refine Calls.mono (lv _) ?_; rintro _ _ ⟨rfl, rfl⟩)
      | (go_at_call 14; with_reducible refine Calls.mono (lf1 _) ?_; rintro _ _ ⟨rfl, rfl⟩)
      | (go_at_call 14; with_reducible refine Calls.mono (lf0 _) ?_; rintro _ _ ⟨rfl, rfl⟩)
      | (go_at_call 13; with_reducible refine Calls.mono (sp _) ?_; rintro _ _ ⟨rfl, rfl⟩)
      | (go_at_call 12; with_reducible refine Calls.mono (i2 _) ?_; rintro _ _ ⟨rfl, rfl⟩)
      | (go_at_call 12; with_reducible refine Calls.mono (i1 _) ?_; rintro _ _ ⟨rfl, rfl⟩)
      | (go_at_call 11; with_reducible refine Calls.mono (w4 _) ?_; rintro _ _ ⟨rfl, rfl⟩)
      | (go_at_call 11; with_reducible refine Calls.mono (w3 _) ?_; rintro _ _ ⟨rfl, rfl⟩)
      | (go_at_call 11; with_reducible refine Calls.mono (w2 _) ?_; rintro _ _ ⟨rfl, rfl⟩)
      | (go_at_call 11; with_reducible refine Calls.mono (w1 _) ?_; rintro _ _ ⟨rfl, rfl⟩))
    go_ret
    exact ⟨rfl, hB⟩
  · go_enter Try.func5, Try.ntmps5
    go_wp2_with (first
      | (go_at_call 15; with_reducible refine Calls.mono (lv1 _) ?_; rintro _ _ ⟨rfl, rfl⟩)
      | (go_at_call 15; with_reducible refine Calls.mono (lv0 _) ?_; rintro _ _ ⟨rfl, rfl⟩)
      | (go_at_call 15; with_reducible refine Calls.mono (lv _) ?_; rintro _ _ ⟨rfl, rfl⟩)
      | (go_at_call 14; with_reducible refine Calls.mono (lf1 _) ?_; rintro _ _ ⟨rfl, rfl⟩)
      | (go_at_call 14; with_reducible refine Calls.mono (lf0 _) ?_; rintro _ _ ⟨rfl, rfl⟩)
      | (go_at_call 13; with_reducible refine Calls.mono (sp _) ?_; rintro _ _ ⟨rfl, rfl⟩)
      | (go_at_call 12; with_reducible refine Calls.mono (i2 _) ?_; rintro _ _ ⟨rfl, rfl⟩)
      | (go_at_call 12; with_reducible refine Calls.mono (i1 _) ?_; rintro _ _ ⟨rfl, rfl⟩)
      | (go_at_call 11; with_reducible refine Calls.mono (w4 _) ?_; rintro _ _ ⟨rfl, rfl⟩)
      | (go_at_call 11; with_reducible refine Calls.mono (w3 _) ?_; rintro _ _ ⟨rfl, rfl⟩)
      | (go_at_call 11; with_reducible refine Calls.mono (w2 _) ?_; rintro _ _ ⟨rfl, rfl⟩)
      | (go_at_call 11; with_reducible refine Calls.mono (w1 _) ?_; rintro _ _ ⟨rfl, rfl⟩))
    go_ret
    exact ⟨rfl, hB⟩

theorem rank_any (x0 x1 x2 : Int) (x3 : Bool) (y0 y1 y2 : Int) (y3 : Bool)
    (hx0 : x0 < 9223372036854775808 ∧ -9223372036854775808 ≤ x0) (hx1 : x1 < 9223372036854775808 ∧ -9223372036854775808 ≤ x1)
    (hy0 : y0 < 9223372036854775808 ∧ -9223372036854775808 ≤ y0) (hy1 : y1 < 9223372036854775808 ∧ -9223372036854775808 ≤ y1) (w : World) :
    Calls Try.prog 5 #[.agg #[.int .i64 x0, .int .i64 x1, .int .u64 x2, .bool x3], .agg #[.int .i64 y0, .int .i64 y1, .int .u64 y2, .bool y3]] w fun e w' =>
      e = .returned (.bool true) ∧ Below w.heap.size w w' := by
  obtain ⟨l, l0, l1, W1⟩ := within_det x0 65536 hx0 (by decide) (by decide)
  obtain ⟨m, m0, m1, W2⟩ := within_det y0 65536 hy0 (by decide) (by decide)
  obtain ⟨i, i0, i1, W3⟩ := within_det x1 1099511627776 hx1 (by decide) (by decide)
  obtain ⟨j, j0, j1, W4⟩ := within_det y1 1099511627776 hy1 (by decide) (by decide)
  refine rank_walk x0 x1 x2 x3 y0 y1 y2 y3 l i m j (l * 1099511627776 + i) (m * 1099511627776 + j)
    ⟨W1, W2, W3, W4, fun W => inner_node l i l0 l1 i0 i1 ▸ innerP l i W (by omega) (by omega), fun W => inner_node m j m0 m1 j0 j1 ▸ innerP m j W (by omega) (by omega),
      fun W => split_node l i l0 l1 i0 i1 ▸ splitP (l * 1099511627776 + i) (by omega) (by omega) W, fun W => ?_⟩ l1 (by omega) (by omega) (by omega) w
  have := levelP (l * 1099511627776 + i) (by omega) (by omega) W
  rwa [level_node l i l0 l1 i0 i1] at this

open Go.ChangeShapes Go.WideShapes Go.ChangeAt Go.Joins

set_option maxRecDepth 100000 in
theorem rank_lifted (os : Os) (started : os.Started) (H : Type) (enc : TypeId × Value → H) :
    ReturnsInHanded {} Try.checked os 5 .any (Rows.recsRankSpec.pre6 enc Try.prog Try.f5 Rows.recsRankRow.domain false) (Rows.recsRankSpec.post enc Try.prog Try.f5 false true false false) := by
  refine returnsInHanded_of_change (C := Try.checked) own started (by kernel_rfl) Try.func5
    (ChangeSpec.witness6 (enc := enc) (C := Try.checked) false ⟨#[], #[.agg #[.int .i64 0, .int .i64 0, .int .u64 0, .bool false], .agg #[.int .i64 0, .int .i64 0, .int .u64 0, .bool false]], []⟩ 8 (by kernel_rfl) (by kernel_rfl) (by kernel_rfl) (by kernel_rfl)) ?_
  intro W base args ds gs before hval0 hW hcnd _
  have hval : ∀ (j : Nat) t v, Try.f5.params[j]? = some t → args[j]? = some v → Value.okWide Try.prog W .any base t v := hval0
  have hW' := hW
  obtain ⟨p, q, hA0, hV, rfl, hfz, hnd⟩ := hW
  have hA : DataW.TrodAll enc Try.prog W 0 (fun _ => true) true Try.f5.params.toList args.toList ds p := hA0
  rw [Try.params5] at hA hval
  obtain ⟨v0, vs0, d0, ds0, p0, q0, hargs0, rfl, rfl, h0, r0⟩ := trodAll_cons hA
  obtain ⟨v1, vs1, d1, ds1, p1, q1, rfl, rfl, rfl, h1, r1⟩ := trodAll_cons r0
  obtain ⟨rfl, rfl, rfl⟩ := trodAll_nil r1
  obtain rfl : args = #[v0, v1] := by cases args; simp_all
  obtain ⟨rfl, rfl⟩ := trodVars_none hV
  clear hA0 hval0
  simp only [List.append_nil] at hW'
  have hlt0 : ∀ x ∈ p0, x.block < W.heap.size := fun x hx => by simpa using hW'.lt x (by simp [hx])
  have hlt1 : ∀ x ∈ p1, x.block < W.heap.size := fun x hx => by simpa using hW'.lt x (by simp [hx])
  obtain ⟨a0, a1, a2, a3, rfl, ha0, ha1, _⟩ := open_spot (hval 0 34 v0 rfl rfl) h0
  obtain ⟨b0, b1, b2, b3, rfl, hb0, hb1, _⟩ := open_spot (hval 1 34 v1 rfl rfl) h1
  refine (rank_any a0 a1 a2 a3 b0 b1 b2 b3 ha0 ha1 hb0 hb1 W).mono fun e W' ⟨he, hnx⟩ => ?_
  subst he
  refine ⟨_, rfl, _, _, _, [], _, [], hW', ?_, trodAll_mk2 (Below.trod laidOut (by kernel_rfl) (of_decide_eq_true (by kernel_rfl)) h0 hnx hlt0) (Below.trod laidOut (by kernel_rfl) (of_decide_eq_true (by kernel_rfl)) h1 hnx hlt1), rfl, hnx.frame _, fun h => by cases h⟩
  exact trodAll_mk1 (shut_bool Try.underlying4 _)

theorem recsRank_holds : Rows.RecsRankSaid :=
  OpenClaim.holds_of_wide 5 Try.f5 rfl rfl rfl rfl rfl rfl rfl ⟨rfl, rfl, rfl, rfl, rfl⟩ rfl rfl rfl rfl rfl (by kernel_rfl) Try.func5 (by kernel_rfl)
    (of_decide_eq_true (by kernel_rfl)) (by unfold Func.isWrapper; first | (rw [if_pos (by decide +kernel)]; kernel_rfl) | (rw [if_neg (by decide +kernel)]; exact ⟨rfl, rfl⟩))
    (fun os started H enc _ => rank_lifted os started H enc)
#print axioms recsRank_holds
end Go.Proofs.Ytkielflmpodapaa
