/-
  PursePlays: the row.
-/
import Derived.Test.YtbanhpohnhjciaaJ2
import Derived.Test.YtbanhpohnhjciaaB2
import Derived.OpenShut
import Derived.SizedLaws
namespace Go.Proofs.Ytbanhpohnhjciaa
open Go.ChangeShapes Go.WideShapes Go.ChangeAt Go.RowKit Go.Deep

theorem bytes29 : Try.prog.bytesOf 29 = 24 := by kernel_rfl

section
variable {H : Type} {enc : TypeId × Value → H} {W : World} {spare : Nat → Bool} {held : Bool}

theorem open_op2 {n : Nat} {a : Addr} {cs : List Value} {x : DataW H × List MemPlace} (h1 : W.cells? 0 a 3 = some cs) (h2 : DataW.trod enc Try.prog W 0 spare held n 29 cs = some x) :
    ∃ o : OpA, W.cell? a = some (.int .i64 o.on) ∧ W.cell? ⟨a.block, a.off + 1, none⟩ = some (.int .i64 o.kind) ∧ W.cell? ⟨a.block, a.off + 2, none⟩ = some (.int .i64 o.n) ∧ (-9223372036854775808 ≤ o.n ∧ o.n ≤ 9223372036854775807) ∧ -9223372036854775808 ≤ o.on ∧ o.on ≤ 9223372036854775807 := by
  obtain ⟨xs, m, rfl, rfl, hl, hxs, hf⟩ := DataW.trod_struct Try.underlying29 h2
  have hm : (List.range 3).mapM (fun i => W.cell? (a.add i)) = some cs := by
    simpa [World.cells?] using h1
  have g : ∀ i, i < 3 → W.cell? (a.add i) = cs[i]? := fun i hi => by
    have := mapM_some_get hm i i (by simp [hi])
    exact this
  rw [cells29] at hl
  match cs, hl with
  | [v0, v1, v2], _ =>
  have g0 := g 0 (by omega)
  have g1 := g 1 (by omega)
  have g2 := g 2 (by omega)
  simp at g0 g1 g2
  have hsp := World.cell?_spot g0
  have f0 := hf 0 _ rfl
  have f1 := hf 1 _ rfl
  have f2 := hf 2 _ rfl
  simp [cells3] at f0 f1 f2
  have hx3 : xs.length = 3 := by simpa using hxs
  rw [List.getElem?_eq_getElem (by omega)] at f0 f1 f2
  obtain ⟨n0, e0, _, w0⟩ := DataW.trod_int Try.underlying3 f0
  obtain ⟨n1, e1, _, _⟩ := DataW.trod_int Try.underlying3 f1
  obtain ⟨n2, e2, _, w2⟩ := DataW.trod_int Try.underlying3 f2
  simp at e0 e1 e2
  subst e0
  subst e1
  subst e2
  obtain ⟨b, off, spot⟩ := a
  obtain rfl : spot = none := hsp
  rw [add_plain] at g1 g2
  exact ⟨⟨n0, n1, n2⟩, by simpa [Addr.add] using g0, g1, g2, i64_wf w2, i64_wf w0⟩

/-- a script that came in. -/
theorem open_ops2 {v : Value} {d : DataW H} {ps : List MemPlace} {base : Nat} (hval : Value.okWide Try.prog W .any base 22 v) (h : DataW.Trod enc Try.prog W 0 spare held 22 v d ps) :
    ∃ (sa : Option Addr) (ca : Nat) (l : List OpA), v = .slice sa l.length ca ∧ OpsAt W sa l ∧ (∀ k (hk : k < l.length), -9223372036854775808 ≤ l[k].on ∧ l[k].on ≤ 9223372036854775807) ∧ (l = [] ∨ ∃ e r, d = .slice e r ∧ e.length = l.length) := by
  obtain ⟨a0, len, cap, rfl⟩ := okWide_slice Try.underlying22 hval
  obtain ⟨fuel, hf⟩ := h
  rcases open_slice Try.underlying22 hf with ⟨hcs, hx⟩ | ⟨a, len', cap', m, n, D, Pl, hcs, _, hl, hm, hmm, hx, hall⟩
  · simp [Value.cells] at hcs
    obtain ⟨rfl, rfl, rfl⟩ := hcs
    exact ⟨none, 0, [], rfl, ⟨fun k hk => by simp at hk, fun k hk => by simp at hk⟩, fun k hk => by simp at hk, .inl rfl⟩
  · simp [Value.cells] at hcs
    obtain ⟨rfl, rfl, rfl⟩ := hcs
    rw [cells29] at hx hall
    have hlm : len ≤ m := by rw [hmm]; split <;> omega
    have each : ∀ i, i < len → ∃ o : OpA, W.cell? (a.add (i * 3)) = some (.int .i64 o.on) ∧ W.cell? ⟨(a.add (i * 3)).block, (a.add (i * 3)).off + 1, none⟩ = some (.int .i64 o.kind) ∧ W.cell? ⟨(a.add (i * 3)).block, (a.add (i * 3)).off + 2, none⟩ = some (.int .i64 o.n) ∧ (-9223372036854775808 ≤ o.n ∧ o.n ≤ 9223372036854775807) ∧ -9223372036854775808 ≤ o.on ∧ o.on ≤ 9223372036854775807 := fun i hi => by
      obtain ⟨cs', h1, h2⟩ := hall i (by omega)
      exact open_op2 h1 h2
    haveI : Inhabited OpA := ⟨⟨0, 0, 0⟩⟩
    obtain ⟨g, hg⟩ := choose_lt each
    have hlen : ((List.range len).map g).length = len := by simp
    obtain ⟨rfl, -⟩ := Prod.mk.inj hx
    refine ⟨some a, cap, (List.range len).map g, by rw [hlen], ⟨fun k hk => ?_, fun k hk => ?_⟩, fun k hk => ?_, .inr ⟨_, _, rfl, by simp⟩⟩
    · rw [hlen] at hk
      obtain ⟨c0, c1, c2, _⟩ := hg k hk
      refine ⟨a, rfl, ?_, by simpa using c0, by simpa using c1, by simpa using c2⟩
      have := World.block_lt_of_cell? W _ c0
      rwa [add_block] at this
    · rw [hlen] at hk
      simpa using (hg k hk).2.2.2.1
    · rw [hlen] at hk
      simpa using (hg k hk).2.2.2.2
end

set_option maxRecDepth 100000 in
theorem plays_lifted (os : Os) (started : os.Started) (H : Type) (enc : TypeId × Value → H) :
    ReturnsInHanded {} Try.checked os 6 .any (Rows.pursePlaysSpec.pre6 enc Try.prog Try.f6 Rows.pursePlaysRow.domain false) (Rows.pursePlaysSpec.post enc Try.prog Try.f6 false true false false) := by
  refine returnsInHanded_of_change_sized (C := Try.checked) own started (by kernel_rfl) Try.func6
    (ChangeSpec.witness6 (enc := enc) (C := Try.checked) false ⟨#[], #[.slice none 0 0], []⟩ 8 (by kernel_rfl) (by kernel_rfl) (by kernel_rfl) (by kernel_rfl)) ?_
  intro W base args ds gs before hval0 hW hcnd hsz0 _
  have hsz : (DataW.weightsEach Try.prog (Try.f6.params.toList ++ Rows.pursePlaysSpec.plain.varTypes Try.prog) (ds ++ gs)).all (· ≤ reachBytes) = true := hsz0
  clear hsz0
  have hval : ∀ (j : Nat) t v, Try.f6.params[j]? = some t → args[j]? = some v → Value.okWide Try.prog W .any base t v := hval0
  have hW' := hW
  obtain ⟨p, q, hA0, hV, rfl, hfz, hnd⟩ := hW
  have hA : DataW.TrodAll enc Try.prog W 0 (fun _ => true) true Try.f6.params.toList args.toList ds p := hA0
  rw [Try.params6] at hA hval hsz
  obtain ⟨v0, d0, rfl, rfl, h0⟩ := trodAll_one hA
  obtain ⟨rfl, rfl⟩ := trodVars_none hV
  clear hA0 hval0
  simp only [List.append_nil] at hW'
  have hlt0 : ∀ x ∈ p, x.block < W.heap.size := fun x hx => by simpa using hW'.lt x (by simp [hx])
  obtain ⟨sa, ca, l, rfl, hop, hon, hd⟩ := open_ops2 (hval 0 22 v0 rfl rfl) h0
  have hna : l.length < 17592186044416 := by
    rcases hd with rfl | ⟨e, r, rfl, he⟩
    · exact Nat.zero_lt_succ _
    · have := sized_slice hsz (j := 0) (t := 22) (e := 29) rfl rfl Try.underlying22
      rw [bytes29, he] at this
      have hr : reachBytes = 140737488351232 := by decide
      omega
  refine (plays_any hop hon hna).mono fun e W' ⟨he, hnx⟩ => ?_
  subst he
  refine ⟨_, rfl, _, _, _, [], _, [], hW', ?_, trodAll_mk1 (Below.trod laidOut (by kernel_rfl) (of_decide_eq_true (by kernel_rfl)) h0 hnx hlt0), rfl, hnx.frame _, fun h => by cases h⟩
  exact trodAll_mk1 (shut_bool Try.underlying4 _)

theorem pursePlays_holds : Rows.PursePlaysSaid :=
  OpenClaim.holds_of_wide 6 Try.f6 rfl rfl rfl rfl rfl rfl rfl ⟨rfl, rfl, rfl, rfl, rfl⟩ rfl rfl rfl rfl rfl (by kernel_rfl) Try.func6 (by kernel_rfl)
    (of_decide_eq_true (by kernel_rfl)) (by unfold Func.isWrapper; first | (rw [if_pos (by decide +kernel)]; kernel_rfl) | (rw [if_neg (by decide +kernel)]; exact ⟨rfl, rfl⟩))
    (fun os started H enc _ => plays_lifted os started H enc)
#print axioms pursePlays_holds
end Go.Proofs.Ytbanhpohnhjciaa
