import Derived.Test.YtbanhpohnhjciaaE4
import Derived.Test.YtbanhpohnhjciaaB2
import Derived.OpenShut
import Derived.SizedLaws
namespace Go.Proofs.Ytbanhpohnhjciaa
open Go.ChangeShapes Go.WideShapes Go.ChangeAt Go.RowKit Go.Deep

theorem bytes3 : Try.prog.bytesOf 3 = 8 := by kernel_rfl

section
variable {H : Type} {enc : TypeId × Value → H} {W : World} {spare : Nat → Bool} {held : Bool}

set_option maxRecDepth 100000 in
/-- numbers that came in. -/
theorem open_list {v : Value} {d : DataW H} {ps : List MemPlace} {base : Nat} (hval : Value.okWide Try.prog W .any base 34 v) (h : DataW.Trod enc Try.prog W 0 spare held 34 v d ps) :
    ∃ (sa : Option Addr) (ca : Nat) (l : List Int), v = .slice sa l.length ca ∧ IntsAt W sa l ∧ ((d = .nil ∧ l = []) ∨ ∃ e r, d = .slice e r ∧ e.length = l.length) ∧ l.length ≤ 9223372036854775807 := by
  obtain ⟨a0, len, cap, rfl⟩ := okWide_slice Try.underlying34 hval
  obtain ⟨fuel, hf⟩ := h
  rcases open_ints Try.underlying34 Try.underlying3 cells3 hf with ⟨hcs, hx⟩ | ⟨a, len', cap', zs, hcs, _, hl, hm, hz, hx, hcell, hwz⟩
  · simp [Value.cells] at hcs
    obtain ⟨rfl, rfl, rfl⟩ := hcs
    obtain ⟨rfl, -⟩ := Prod.mk.inj hx
    exact ⟨none, 0, [], rfl, ⟨fun k hk => by simp at hk, fun k hk => by simp at hk⟩, .inl ⟨rfl, rfl⟩, Nat.zero_le _⟩
  · simp [Value.cells] at hcs
    obtain ⟨rfl, rfl, rfl⟩ := hcs
    obtain ⟨rfl, -⟩ := Prod.mk.inj hx
    have hlz : len ≤ zs.length := by rw [hz]; split <;> omega
    have hlen : (zs.take len).length = len := by simp [hlz]
    refine ⟨some a, cap, zs.take len, by rw [hlen], ⟨fun k hk => ⟨a, rfl, ?_, ?_⟩, fun k hk => ?_⟩, .inr ⟨_, _, rfl, by simp [lits]⟩, ?_⟩
    · rw [hlen] at hk
      have := World.block_lt_of_cell? W _ (hcell k (by omega))
      rwa [add_block] at this
    · rw [hlen] at hk
      rw [hcell k (by omega), List.getElem_take]
      simp [List.getD, List.getElem?_eq_getElem (show k < zs.length by omega)]
    · rw [hlen] at hk
      rw [List.getElem_take]
      exact i64_wf (hwz _ (List.getElem_mem _))
    · rw [hlen]
      have : maxLen = 9223372036854775807 := by decide
      omega
end

set_option maxRecDepth 100000 in
theorem parts_lifted (os : Os) (started : os.Started) (H : Type) (enc : TypeId × Value → H) :
    ReturnsInHanded {} Try.checked os 5 .any (Rows.pursePartsSpec.pre6 enc Try.prog Try.f5 Rows.pursePartsRow.domain false) (Rows.pursePartsSpec.post enc Try.prog Try.f5 false true false false) := by
  refine returnsInHanded_of_change_sized (C := Try.checked) own started (by kernel_rfl) Try.func5
    (ChangeSpec.witness6 (enc := enc) (C := Try.checked) false ⟨#[], #[.int .i64 0, .slice none 0 0, .slice none 0 0], []⟩ 8 (by kernel_rfl) (by kernel_rfl) (by kernel_rfl) (by kernel_rfl)) ?_
  intro W base args ds gs before hval0 hW hcnd hsz0 _
  have hsz : (DataW.weightsEach Try.prog (Try.f5.params.toList ++ Rows.pursePartsSpec.plain.varTypes Try.prog) (ds ++ gs)).all (· ≤ reachBytes) = true := hsz0
  clear hsz0
  have hval : ∀ (j : Nat) t v, Try.f5.params[j]? = some t → args[j]? = some v → Value.okWide Try.prog W .any base t v := hval0
  have hW' := hW
  obtain ⟨p, q, hA0, hV, rfl, hfz, hnd⟩ := hW
  have hA : DataW.TrodAll enc Try.prog W 0 (fun _ => true) true Try.f5.params.toList args.toList ds p := hA0
  rw [Try.params5] at hA hval hsz
  obtain ⟨v0, vs0, d0, ds0, p0, q0, hargs0, rfl, rfl, h0, r0⟩ := trodAll_cons hA
  obtain ⟨v1, vs1, d1, ds1, p1, q1, rfl, rfl, rfl, h1, r1⟩ := trodAll_cons r0
  obtain ⟨v2, vs2, d2, ds2, p2, q2, rfl, rfl, rfl, h2, r2⟩ := trodAll_cons r1
  obtain ⟨rfl, rfl, rfl⟩ := trodAll_nil r2
  obtain rfl : args = #[v0, v1, v2] := by cases args; simp_all
  obtain ⟨rfl, rfl⟩ := trodVars_none hV
  obtain ⟨limit, rfl, rfl, rfl, wa⟩ := open_int Try.underlying3 (hval 0 3 v0 rfl rfl) h0
  clear hA0 hval0
  simp only [List.append_nil] at hW'
  have hlt1 : ∀ x ∈ p1, x.block < W.heap.size := fun x hx => by simpa using hW'.lt x (by simp [hx])
  have hlt2 : ∀ x ∈ p2, x.block < W.heap.size := fun x hx => by simpa using hW'.lt x (by simp [hx])
  obtain ⟨sa, ca, za, rfl, hia, hda, _⟩ := open_list (hval 1 34 v1 rfl rfl) h1
  obtain ⟨sb, cb, zb, rfl, hib, _, hnb⟩ := open_list (hval 2 34 v2 rfl rfl) h2
  have hna : za.length < 17592186044416 := by
    rcases hda with ⟨_, rfl⟩ | ⟨e, r, rfl, he⟩
    · exact Nat.zero_lt_succ _
    · have := sized_slice hsz (j := 1) (t := 34) (e := 3) rfl rfl Try.underlying34
      rw [bytes3, he] at this
      have hr : reachBytes = 140737488351232 := by decide
      omega
  refine (parts_any (i64_wf wa).1 (i64_wf wa).2 hia hib hna hnb).mono fun e W' ⟨he, hnx⟩ => ?_
  subst he
  refine ⟨_, rfl, _, _, _, [], _, [], hW', ?_, trodAll_cons_mk (shut_int Try.underlying3 wa) (trodAll_mk2 (Below.trod laidOut (by kernel_rfl) (of_decide_eq_true (by kernel_rfl)) h1 hnx hlt1) (Below.trod laidOut (by kernel_rfl) (of_decide_eq_true (by kernel_rfl)) h2 hnx hlt2)), rfl, hnx.frame _, fun h => by cases h⟩
  exact trodAll_mk1 (shut_bool Try.underlying4 _)

theorem purseParts_holds : Rows.PursePartsSaid :=
  OpenClaim.holds_of_wide 5 Try.f5 rfl rfl rfl rfl rfl rfl rfl ⟨rfl, rfl, rfl, rfl, rfl⟩ rfl rfl rfl rfl rfl (by kernel_rfl) Try.func5 (by kernel_rfl)
    (of_decide_eq_true (by kernel_rfl)) (by unfold Func.isWrapper; first | (rw [if_pos (by decide +kernel)]; kernel_rfl) | (rw [if_neg (by decide +kernel)]; exact ⟨rfl, rfl⟩))
    (fun os started H enc _ => parts_lifted os started H enc)
#print axioms purseParts_holds
end Go.Proofs.Ytbanhpohnhjciaa
