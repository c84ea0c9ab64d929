/-
  RecsBack: the row.
-/
import Derived.Test.YtfodpeiecmbojaaE2
import Derived.Test.YtfodpeiecmbojaaD2
import Derived.Laws.IdiomArrays
namespace Go.Proofs.Ytfodpeiecmbojaa
open Go.ChangeShapes Go.WideShapes Go.ChangeAt Go.RowKit Go.Deep

theorem cells26 : Try.prog.cellsOf 26 = 1 := by kernel_rfl
theorem cells28 : Try.prog.cellsOf 28 = 4 := by kernel_rfl
theorem cells29 : Try.prog.cellsOf 29 = 1 := by kernel_rfl
theorem cells34 : Try.prog.cellsOf 34 = 4 := by kernel_rfl

theorem u64_wf {n : Int} (h : (Lit.int .u64 n).wf = true) : 0 ≤ n ∧ n ≤ 18446744073709551615 := by
  have e1 : IntKind.u64.min = 0 := rfl
  have e2 : IntKind.u64.max = 18446744073709551615 := rfl
  simpa [Lit.wf, e1, e2] using h

section
variable {H : Type} {enc : TypeId × Value → H} {W : World} {spare : Nat → Bool} {held : Bool}

/-- a record that came in. -/
theorem open_rec {m : Nat} {a : Addr} {cs : List Value} {x : DataW H × List MemPlace} (h1 : W.cells? 0 a 4 = some cs) (h2 : DataW.trod enc Try.prog W 0 spare held m 28 cs = some x) :
    ∀ j, j < 4 → ∃ y : Nat, y < 18446744073709551616 ∧ W.cell? (a.add j) = some (.int .u64 (y : Int)) := by
  have hm : (List.range 4).mapM (fun i => W.cell? (a.add i)) = some cs := by
    simpa [World.cells?] using h1
  have g : ∀ i, i < 4 → W.cell? (a.add i) = cs[i]? := fun i hi => mapM_some_get hm i i (by simp [hi])
  have hl : cs.length = 4 := by
    have := mapM_some_length hm
    simpa using this
  match cs, hl with
  | [c0, c1, c2, c3], _ =>
  obtain ⟨y0, y1, y2, y3, m', hx, hy0, hy1, hy2, hy3⟩ := trod_array4 Try.underlying28 cells26 h2
  obtain ⟨x0, e0, _, w0⟩ := DataW.trod_int Try.underlying26 hy0
  obtain ⟨x1, e1, _, w1⟩ := DataW.trod_int Try.underlying26 hy1
  obtain ⟨x2, e2, _, w2⟩ := DataW.trod_int Try.underlying26 hy2
  obtain ⟨x3, e3, _, w3⟩ := DataW.trod_int Try.underlying26 hy3
  simp at e0 e1 e2 e3
  subst e0 e1 e2 e3
  have w0 := u64_wf w0
  have w1 := u64_wf w1
  have w2 := u64_wf w2
  have w3 := u64_wf w3
  intro j hj
  have : j = 0 ∨ j = 1 ∨ j = 2 ∨ j = 3 := by omega
  rcases this with rfl | rfl | rfl | rfl
  · exact ⟨x0.toNat, by omega, by rw [g 0 (by omega), Int.toNat_of_nonneg w0.1]; rfl⟩
  · exact ⟨x1.toNat, by omega, by rw [g 1 (by omega), Int.toNat_of_nonneg w1.1]; rfl⟩
  · exact ⟨x2.toNat, by omega, by rw [g 2 (by omega), Int.toNat_of_nonneg w2.1]; rfl⟩
  · exact ⟨x3.toNat, by omega, by rw [g 3 (by omega), Int.toNat_of_nonneg w3.1]; rfl⟩

/-- records that came in. -/
theorem open_recs {fuel : Nat} {v : Value} {x : DataW H × List MemPlace} (h : DataW.trod enc Try.prog W 0 spare held fuel 29 [v] = some x) :
    ∃ sa n c ws, v = .slice sa n c ∧ Rs W sa n ws ∧ n ≤ c ∧ (∀ y ∈ ws, y < 18446744073709551616) ∧ n ≤ 9223372036854775807 := by
  rcases open_slice Try.underlying29 h with ⟨hcs, hx⟩ | ⟨a, len, cap, m, n, D, Pl, hcs, _, hl, hm, hmm, hx, hall⟩
  · simp at hcs
    subst hcs
    exact ⟨none, 0, 0, [], rfl, ⟨rfl, fun h => by omega⟩, Nat.le_refl _, by simp, by omega⟩
  · simp at hcs
    subst hcs
    rw [cells28] at hall
    have hlm : len ≤ m := by rw [hmm]; split <;> omega
    have each : ∀ t, t < 4 * len → ∃ y : Nat, y < 18446744073709551616 ∧ W.cell? ((a.add (t / 4 * 4)).add (t % 4)) = some (.int .u64 (y : Int)) := fun t ht => by
      obtain ⟨cs', h1, h2⟩ := hall (t / 4) (by omega)
      exact open_rec h1 h2 (t % 4) (by omega)
    obtain ⟨f, hf⟩ := choose_lt each
    have hlen : ((List.range (4 * len)).map f).length = 4 * len := by simp
    have hmax : maxLen = 9223372036854775807 := by decide
    refine ⟨some a, len, cap, (List.range (4 * len)).map f, rfl, ⟨hlen, fun h0 => ?_⟩, hl, fun y hy => ?_, by omega⟩
    · have c0 := (hf 0 (by omega)).2
      have hs1 := World.cell?_spot c0
      obtain ⟨b, off, spot⟩ := a
      have hsn : spot = none := by simpa [Addr.add] using hs1
      subst hsn
      have hlt : b < W.heap.size := by simpa [Addr.add] using World.block_lt_of_cell? W _ c0
      refine ⟨b, off, rfl, hlt, fun i hi => ?_⟩
      have hi' : i < 4 * len := by simpa using hi
      have ci := (hf i hi').2
      rw [add_plain, add_plain, show off + i / 4 * 4 + i % 4 = off + i by omega] at ci
      rw [ci]
      simp
    · obtain ⟨i, hi, rfl⟩ := List.mem_map.1 hy
      exact (hf i (by simpa using hi)).1

/-- a piece that came in. -/
theorem open_piece {v : Value} {d : DataW H} {ps : List MemPlace} {base : Nat} (hval : Value.okWide Try.prog W .any base 34 v) (h : DataW.Trod enc Try.prog W 0 spare held 34 v d ps) :
    ∃ kind place wide sa n c ws, v = pieceV kind place wide sa n c ∧ I64 kind ∧ I64 place ∧ I64 wide ∧ Rs W sa n ws ∧ n ≤ c ∧ (∀ y ∈ ws, y < 18446744073709551616) ∧ n ≤ 9223372036854775807 := by
  obtain ⟨cs, rfl, hsz, _⟩ : ∃ cs, v = .agg cs ∧ cs.size = Try.prog.cellsOf 34 ∧ Row.okWide Try.prog W .any base 34 cs := by
    simpa [Value.okWide, Try.underlying34] using hval
  rw [cells34] at hsz
  obtain ⟨l⟩ := cs
  obtain ⟨fuel, hf⟩ := h
  match l, hsz with
  | [v0, v1, v2, v3], _ =>
  obtain ⟨xs, m, e1, e2, hl, hxs, hall⟩ := DataW.trod_struct Try.underlying34 hf
  have f0 := hall 0 _ rfl
  have f1 := hall 1 _ rfl
  have f2 := hall 2 _ rfl
  have f3 := hall 3 _ rfl
  simp [cells3, cells29, Value.cells] at f0 f1 f2 f3
  have hx4 : xs.length = 4 := by simpa using hxs
  rw [List.getElem?_eq_getElem (by omega)] at f0 f1 f2 f3
  obtain ⟨n0, g0, _, w0⟩ := DataW.trod_int Try.underlying3 f0
  obtain ⟨n1, g1, _, w1⟩ := DataW.trod_int Try.underlying3 f1
  obtain ⟨n3, g3, _, w3⟩ := DataW.trod_int Try.underlying3 f3
  obtain ⟨sa, n, c, ws, g2, hr, hc, hlt, hn⟩ := open_recs f2
  simp at g0 g1 g3
  subst g0 g1 g2 g3
  exact ⟨n0, n1, n3, sa, n, c, ws, rfl, i64_wf w0, i64_wf w1, i64_wf w3, hr, hc, hlt, hn⟩
end

set_option maxRecDepth 100000 in
theorem back_lifted (os : Os) (started : os.Started) (H : Type) (enc : TypeId × Value → H) :
    ReturnsInHanded {} Try.checked os 4 .any (Rows.recsBackSpec.pre6 enc Try.prog Try.f4 Rows.recsBackRow.domain false) (Rows.recsBackSpec.post enc Try.prog Try.f4 false true false false) := by
  refine returnsInHanded_of_change (C := Try.checked) own started (by kernel_rfl) Try.func4
    (ChangeSpec.witness6 (enc := enc) (C := Try.checked) false ⟨#[], #[.agg #[.int .i64 0, .int .i64 0, .slice none 0 0, .int .i64 0], .int .i64 0, .int .i64 0], []⟩ 8 (by kernel_rfl) (by kernel_rfl) (by kernel_rfl) (by kernel_rfl)) ?_
  intro W base args ds gs before hval0 hW hcnd _
  have hval : ∀ (j : Nat) t v, Try.f4.params[j]? = some t → args[j]? = some v → Value.okWide Try.prog W .any base t v := hval0
  have hW' := hW
  obtain ⟨p, q, hA0, hV, rfl, hfz, hnd⟩ := hW
  have hA : DataW.TrodAll enc Try.prog W 0 (fun _ => true) true Try.f4.params.toList args.toList ds p := hA0
  rw [Try.params4] at hA hval
  obtain ⟨v0, v1, v2, d0, d1, d2, p0, p1, p2, rfl, rfl, rfl, h0, h1, h2⟩ := trodAll_three hA
  obtain ⟨rfl, rfl⟩ := trodVars_none hV
  obtain ⟨other, rfl, rfl, rfl, wa⟩ := open_int Try.underlying3 (hval 1 3 v1 rfl rfl) h1
  obtain ⟨elsewhere, rfl, rfl, rfl, wb⟩ := open_int Try.underlying3 (hval 2 3 v2 rfl rfl) h2
  clear hA0 hval0
  simp only [List.append_nil] at hW'
  have hlt : ∀ x ∈ p0, x.block < W.heap.size := fun x hx => by simpa using hW'.lt x (by simpa using hx)
  obtain ⟨kind, place, wide, sa, n, c, ws, rfl, i1, i2, i3, hr, hc, hs, _⟩ := open_piece (hval 0 34 v0 rfl rfl) h0
  have hargs : ∀ (W' : World), Below W.heap.size W W' → DataW.Trod enc Try.prog W' 0 (fun b => decide (b < W.heap.size)) true 34 (pieceV kind place wide sa n c) d0 p0 :=
    fun W' hn => Below.trod laidOut (by kernel_rfl) (of_decide_eq_true (by kernel_rfl)) h0 hn hlt
  refine (back_law kind place wide other elsewhere sa n c ws W i1 i2 i3 (i64_wf wa) (i64_wf wb) hr hc hs).mono fun e W' ⟨he, ht⟩ => ?_
  have hnx : Below W.heap.size W W' := ht.below (Nat.le_refl _) (by simp)
  subst he
  refine ⟨_, rfl, _, _, _, [], _, [], hW', ?_, trodAll_mk3 (hargs _ hnx) (shut_int Try.underlying3 wa) (shut_int Try.underlying3 wb), rfl, hnx.frame _, fun h => by cases h⟩
  exact trodAll_mk1 (shut_bool Try.underlying4 _)

theorem recsBack_holds : Rows.RecsBackSaid :=
  OpenClaim.holds_of_wide 4 Try.f4 rfl rfl rfl rfl rfl rfl rfl ⟨rfl, rfl, rfl, rfl, rfl⟩ rfl rfl rfl rfl rfl (by kernel_rfl) Try.func4 (by kernel_rfl)
    (of_decide_eq_true (by kernel_rfl)) (by unfold Func.isWrapper; first | (rw [if_pos (by decide +kernel)]; kernel_rfl) | (rw [if_neg (by decide +kernel)]; exact ⟨rfl, rfl⟩))
    (fun os started H enc _ => back_lifted os started H enc)
#print axioms recsBack_holds
end Go.Proofs.Ytfodpeiecmbojaa
