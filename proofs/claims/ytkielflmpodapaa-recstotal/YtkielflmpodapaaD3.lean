import Derived.Test.YtkielflmpodapaaD2
import Derived.Test.YtkielflmpodapaaC7
namespace Go.Proofs.Ytkielflmpodapaa
open Go.ChangeShapes Go.WideShapes Go.ChangeAt Go.RowKit Go.Joins

theorem total_any (o0 o1 o2 o3 a0 a1 a2 a3 b0 b1 b2 b3 c0 c1 c2 c3 : Int) (w : World) :
    Calls Try.prog 3 #[.agg #[.int .i64 o0, .int .i64 o1, .int .i64 o2, .int .i64 o3], .agg #[.int .u64 a0, .int .u64 a1, .int .u64 a2, .int .u64 a3, .int .u64 b0, .int .u64 b1, .int .u64 b2, .int .u64 b3, .int .u64 c0, .int .u64 c1, .int .u64 c2, .int .u64 c3]] w fun e w' =>
      e = .returned (.bool true) ∧ Below w.heap.size w w' := by
  have hx := cmpO_cases (o0 := o0) (o1 := o1) (o2 := o2) (o3 := o3) (a0 := a0) (a1 := a1) (a2 := a2) (a3 := a3) (b0 := b0) (b1 := b1) (b2 := b2) (b3 := b3)
  have hy := cmpO_anti (o0 := o0) (o1 := o1) (o2 := o2) (o3 := o3) (a0 := a0) (a1 := a1) (a2 := a2) (a3 := a3) (b0 := b0) (b1 := b1) (b2 := b2) (b3 := b3)
  have hi := cmpO_iff (o0 := o0) (o1 := o1) (o2 := o2) (o3 := o3) (a0 := a0) (a1 := a1) (a2 := a2) (a3 := a3) (b0 := b0) (b1 := b1) (b2 := b2) (b3 := b3)
  have ht := cmpO_trans (o0 := o0) (o1 := o1) (o2 := o2) (o3 := o3) (a0 := a0) (a1 := a1) (a2 := a2) (a3 := a3) (b0 := b0) (b1 := b1) (b2 := b2) (b3 := b3) (c0 := c0) (c1 := c1) (c2 := c2) (c3 := c3)
  have k0 := fun W => soundPb 0 1 2 3 W
  rw [decide_eq_true (show SoundO 0 1 2 3 by decide)] at k0
  have k1 := fun W => compareP 0 1 2 3 0 9 9 9 1 0 0 0 W
  rw [show cmpO 0 1 2 3 0 9 9 9 1 0 0 0 = -1 by decide] at k1
  have k2 := fun W => compareP o0 o1 o2 o3 a0 a1 a2 a3 b0 b1 b2 b3 W
  have k3 := fun W => compareP o0 o1 o2 o3 b0 b1 b2 b3 a0 a1 a2 a3 W
  have k4 := fun W => compareP o0 o1 o2 o3 b0 b1 b2 b3 c0 c1 c2 c3 W
  have k5 := fun W => compareP o0 o1 o2 o3 a0 a1 a2 a3 c0 c1 c2 c3 W
  have k6 := fun W => soundPb o0 o1 o2 o3 W
  have kq := fun W => eq26 a0 a1 a2 a3 b0 b1 b2 b3 W
  have kn : ¬ SoundO o0 o1 o2 o3 → ∀ W, _ := fun hs => cmpO_unsound (a0 := a0) (a1 := a1) (a2 := a2) (a3 := a3) (b0 := b0) (b1 := b1) (b2 := b2) (b3 := b3) hs ▸ fun W => compareP 0 1 2 3 a0 a1 a2 a3 b0 b1 b2 b3 W
  have ks : SoundO o0 o1 o2 o3 → ∀ W, _ := fun hs => cmpO_placed (a0 := a0) (a1 := a1) (a2 := a2) (a3 := a3) (b0 := b0) (b1 := b1) (b2 := b2) (b3 := b3) hs ▸ fun W => compareP 0 1 2 3 (pick a0 a1 a2 a3 o0) (pick a0 a1 a2 a3 o1) (pick a0 a1 a2 a3 o2) (pick a0 a1 a2 a3 o3) (pick b0 b1 b2 b3 o0) (pick b0 b1 b2 b3 o1) (pick b0 b1 b2 b3 o2) (pick b0 b1 b2 b3 o3) W
  obtain ⟨x, ex⟩ : ∃ x, x = cmpO o0 o1 o2 o3 a0 a1 a2 a3 b0 b1 b2 b3 := ⟨_, rfl⟩
  obtain ⟨y, ey⟩ : ∃ y, y = cmpO o0 o1 o2 o3 b0 b1 b2 b3 a0 a1 a2 a3 := ⟨_, rfl⟩
  obtain ⟨z, ez⟩ : ∃ z, z = cmpO o0 o1 o2 o3 b0 b1 b2 b3 c0 c1 c2 c3 := ⟨_, rfl⟩
  obtain ⟨u, eu⟩ : ∃ u, u = cmpO o0 o1 o2 o3 a0 a1 a2 a3 c0 c1 c2 c3 := ⟨_, rfl⟩
  rw [← ex] at hx hy hi ht k2 kn ks
  rw [← ey] at hy k3
  rw [← ez] at ht k4
  rw [← eu] at ht k5
  have kq' : ∀ W, (Op.equalIn 10000 26 (.agg #[.int .u64 a0, .int .u64 a1, .int .u64 a2, .int .u64 a3]) (.agg #[.int .u64 b0, .int .u64 b1, .int .u64 b2, .int .u64 b3])).run Try.prog W = .ok (x == 0) W := fun W => by
    rw [kq W]
    by_cases h : x = 0
    · rw [decide_eq_true (hi.1 h), h]; rfl
    · rw [decide_eq_false (fun e => h (hi.2 e)), show (x == 0) = false by simp [h]]
  have K : Tot o0 o1 o2 o3 a0 a1 a2 a3 b0 b1 b2 b3 c0 c1 c2 c3 x y z u := ⟨k0, k1, k2, k3, k4, k5, kq'⟩
  by_cases hs : SoundO o0 o1 o2 o3
  · rw [decide_eq_true hs] at k6
    by_cases h1 : x ≤ 0
    · by_cases h2 : z ≤ 0
      · exact total_zz_s o0 o1 o2 o3 a0 a1 a2 a3 b0 b1 b2 b3 c0 c1 c2 c3 x y z u w K (by omega) (by omega) (by omega) (by omega) (by omega) h1 h2 (ht h1 h2) k6 (hid hs) (ks hs)
      · exact total_zp_s o0 o1 o2 o3 a0 a1 a2 a3 b0 b1 b2 b3 c0 c1 c2 c3 x y z u w K (by omega) (by omega) (by omega) (by omega) (by omega) h1 (by omega) k6 (hid hs) (ks hs)
    · exact total_p_s o0 o1 o2 o3 a0 a1 a2 a3 b0 b1 b2 b3 c0 c1 c2 c3 x y z u w K (by omega) (by omega) (by omega) (by omega) (by omega) (by omega) k6 (hid hs) (ks hs)
  · rw [decide_eq_false hs] at k6
    by_cases h1 : x ≤ 0
    · by_cases h2 : z ≤ 0
      · exact total_zz_n o0 o1 o2 o3 a0 a1 a2 a3 b0 b1 b2 b3 c0 c1 c2 c3 x y z u w K (by omega) (by omega) (by omega) (by omega) (by omega) h1 h2 (ht h1 h2) k6 (kn hs)
      · exact total_zp_n o0 o1 o2 o3 a0 a1 a2 a3 b0 b1 b2 b3 c0 c1 c2 c3 x y z u w K (by omega) (by omega) (by omega) (by omega) (by omega) h1 (by omega) k6 (kn hs)
    · exact total_p_n o0 o1 o2 o3 a0 a1 a2 a3 b0 b1 b2 b3 c0 c1 c2 c3 x y z u w K (by omega) (by omega) (by omega) (by omega) (by omega) (by omega) k6 (kn hs)

theorem cells27 : Try.prog.cellsOf 27 = 12 := by kernel_rfl

theorem list12 {α : Type} (l : List α) (h : (⟨l⟩ : Array α).size = 12) : ∃ a b c d e f g i j k m n, l = [a, b, c, d, e, f, g, i, j, k, m, n] := by
  match l, h with
  | [a, b, c, d, e, f, g, i, j, k, m, n], _ => exact ⟨a, b, c, d, e, f, g, i, j, k, m, n, rfl⟩

section
variable {H : Type} {enc : TypeId × Value → H} {W : World} {r : Reach} {b0 base : Nat} {spare : Nat → Bool} {held : Bool} {v : Value} {d : DataW H} {p : List MemPlace}

theorem open_four {n : Nat} {c0 c1 c2 c3 : Value} {y : DataW H × List MemPlace} (hf : DataW.trod enc Try.prog W base spare held n 26 [c0, c1, c2, c3] = some y) :
    ∃ (x0 x1 x2 x3 : Int), c0 = .int .u64 x0 ∧ c1 = .int .u64 x1 ∧ c2 = .int .u64 x2 ∧ c3 = .int .u64 x3 := by
  obtain ⟨y0, y1, y2, y3, m, hx, hy0, hy1, hy2, hy3⟩ := trod_array4 Try.underlying26 cells24 hf
  obtain ⟨x0, e0, _, w0⟩ := DataW.trod_int Try.underlying24 hy0
  obtain ⟨x1, e1, _, w1⟩ := DataW.trod_int Try.underlying24 hy1
  obtain ⟨x2, e2, _, w2⟩ := DataW.trod_int Try.underlying24 hy2
  obtain ⟨x3, e3, _, w3⟩ := DataW.trod_int Try.underlying24 hy3
  simp at e0 e1 e2 e3
  exact ⟨x0, x1, x2, x3, e0, e1, e2, e3⟩

/-- Three records, opened. -/
theorem open_three (hv : Value.okWide Try.prog W r b0 27 v) (h : DataW.Trod enc Try.prog W base spare held 27 v d p) :
    ∃ (a0 a1 a2 a3 b0 b1 b2 b3 c0 c1 c2 c3 : Int), v = .agg #[.int .u64 a0, .int .u64 a1, .int .u64 a2, .int .u64 a3, .int .u64 b0, .int .u64 b1, .int .u64 b2, .int .u64 b3, .int .u64 c0, .int .u64 c1, .int .u64 c2, .int .u64 c3] := by
  obtain ⟨cs, rfl, hsz, _⟩ : ∃ cs, v = .agg cs ∧ cs.size = Try.prog.cellsOf 27 ∧ Row.okWide Try.prog W r b0 27 cs := by
    simpa [Value.okWide, Try.underlying27] using hv
  rw [cells27] at hsz
  obtain ⟨l⟩ := cs
  obtain ⟨u0, u1, u2, u3, u4, u5, u6, u7, u8, u9, u10, u11, rfl⟩ := list12 l hsz
  obtain ⟨fuel, hf⟩ := h
  obtain ⟨xs, m, hfu, hx, hlen, hn, hall⟩ := DataW.trod_array Try.underlying27 hf
  have g0 := hall 0 (by omega)
  have g1 := hall 1 (by omega)
  have g2 := hall 2 (by omega)
  simp only [cells26, List.drop, Nat.reduceMul] at g0 g1 g2
  rw [List.getElem?_eq_getElem (by omega)] at g0 g1 g2
  obtain ⟨a0, a1, a2, a3, rfl, rfl, rfl, rfl⟩ := open_four g0
  obtain ⟨e0, e1, e2, e3, rfl, rfl, rfl, rfl⟩ := open_four g1
  obtain ⟨c0, c1, c2, c3, rfl, rfl, rfl, rfl⟩ := open_four g2
  exact ⟨_, _, _, _, _, _, _, _, _, _, _, _, rfl⟩
end

set_option maxRecDepth 100000 in
theorem total_lifted (os : Os) (started : os.Started) (H : Type) (enc : TypeId × Value → H) :
    ReturnsInHanded {} Try.checked os 3 .any (Rows.recsTotalSpec.pre6 enc Try.prog Try.f3 Rows.recsTotalRow.domain false) (Rows.recsTotalSpec.post enc Try.prog Try.f3 false true false false) := by
  refine returnsInHanded_of_change (C := Try.checked) own started (by kernel_rfl) Try.func3
    (ChangeSpec.witness6 (enc := enc) (C := Try.checked) false ⟨#[], #[.agg #[.int .i64 0, .int .i64 0, .int .i64 0, .int .i64 0], .agg #[.int .u64 0, .int .u64 0, .int .u64 0, .int .u64 0, .int .u64 0, .int .u64 0, .int .u64 0, .int .u64 0, .int .u64 0, .int .u64 0, .int .u64 0, .int .u64 0]], []⟩ 8 (by kernel_rfl) (by kernel_rfl) (by kernel_rfl) (by kernel_rfl)) ?_
  intro W base args ds gs before hval0 hW hcnd _
  have hval : ∀ (j : Nat) t v, Try.f3.params[j]? = some t → args[j]? = some v → Value.okWide Try.prog W .any base t v := hval0
  have hW' := hW
  obtain ⟨p, q, hA0, hV, rfl, hfz, hnd⟩ := hW
  have hA : DataW.TrodAll enc Try.prog W 0 (fun _ => true) true Try.f3.params.toList args.toList ds p := hA0
  rw [Try.params3] at hA hval
  obtain ⟨v0, vs0, d0, ds0, p0, q0, hargs0, rfl, rfl, h0, r0⟩ := trodAll_cons hA
  obtain ⟨v1, vs1, d1, ds1, p1, q1, rfl, rfl, rfl, h1, r1⟩ := trodAll_cons r0
  obtain ⟨rfl, rfl, rfl⟩ := trodAll_nil r1
  obtain rfl : args = #[v0, v1] := by cases args; simp_all
  obtain ⟨rfl, rfl⟩ := trodVars_none hV
  clear hA0 hval0
  simp only [List.append_nil] at hW'
  have hlt0 : ∀ x ∈ p0, x.block < W.heap.size := fun x hx => by simpa using hW'.lt x (by simp [hx])
  have hlt1 : ∀ x ∈ p1, x.block < W.heap.size := fun x hx => by simpa using hW'.lt x (by simp [hx])
  obtain ⟨o0, o1, o2, o3, rfl⟩ := open_order (hval 0 23 v0 rfl rfl) h0
  obtain ⟨a0, a1, a2, a3, b0, b1, b2, b3, c0, c1, c2, c3, rfl⟩ := open_three (hval 1 27 v1 rfl rfl) h1
  refine (total_any o0 o1 o2 o3 a0 a1 a2 a3 b0 b1 b2 b3 c0 c1 c2 c3 W).mono fun e W' ⟨he, hnx⟩ => ?_
  subst he
  refine ⟨_, rfl, _, _, _, [], _, [], hW', ?_, trodAll_mk2 (Below.trod laidOut (by kernel_rfl) (of_decide_eq_true (by kernel_rfl)) h0 hnx hlt0) (Below.trod laidOut (by kernel_rfl) (of_decide_eq_true (by kernel_rfl)) h1 hnx hlt1), rfl, hnx.frame _, fun h => by cases h⟩
  exact trodAll_mk1 (shut_bool Try.underlying4 _)

theorem recsTotal_holds : Rows.RecsTotalSaid :=
  OpenClaim.holds_of_wide 3 Try.f3 rfl rfl rfl rfl rfl rfl rfl ⟨rfl, rfl, rfl, rfl, rfl⟩ rfl rfl rfl rfl rfl (by kernel_rfl) Try.func3 (by kernel_rfl)
    (of_decide_eq_true (by kernel_rfl)) (by unfold Func.isWrapper; first | (rw [if_pos (by decide +kernel)]; kernel_rfl) | (rw [if_neg (by decide +kernel)]; exact ⟨rfl, rfl⟩))
    (fun os started H enc _ => total_lifted os started H enc)
#print axioms recsTotal_holds
end Go.Proofs.Ytkielflmpodapaa
