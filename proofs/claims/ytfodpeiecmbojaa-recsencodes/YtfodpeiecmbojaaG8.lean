/-
  RecsEncodes: the row.
-/
import Derived.Test.YtfodpeiecmbojaaG7
import Derived.Test.YtfodpeiecmbojaaE3
import Derived.SizedLaws
namespace Go.Proofs.Ytfodpeiecmbojaa
open Go.ChangeShapes Go.WideShapes Go.ChangeAt Go.RowKit Go.Deep

theorem bytes28 : Try.prog.bytesOf 28 = 32 := by kernel_rfl

section
variable {H : Type} {enc : TypeId × Value → H} {W : World} {spare : Nat → Bool} {held : Bool}

/-- a slice's reading tells its length. -/
theorem recs_len {fuel n c : Nat} {sa : Option Addr} {x : DataW H × List MemPlace} (h : DataW.trod enc Try.prog W 0 spare held fuel 29 [.slice sa n c] = some x) : n = 0 ∨ ∃ e r, x.1 = .slice e r ∧ e.length = n := by
  rcases open_slice Try.underlying29 h with ⟨hcs, hx⟩ | ⟨a, len, cap, m, n', D, Pl, hcs, _, hl, hm, hmm, hx, hall⟩
  · simp at hcs
    exact .inl hcs.2.1
  · simp at hcs
    obtain ⟨_, rfl, _⟩ := hcs
    exact .inr ⟨_, _, by rw [hx], by simp⟩

set_option maxRecDepth 100000 in
/-- a piece within the bound: how many records it has. -/
theorem piece_len {kind place wide : Int} {sa : Option Addr} {n c : Nat} {d : DataW H} {ps : List MemPlace} {ts : List TypeId} {ds : List (DataW H)} {j : Nat}
    (h : DataW.Trod enc Try.prog W 0 spare held 34 (pieceV kind place wide sa n c) d ps) (hsz : (DataW.weightsEach Try.prog ts ds).all (· ≤ reachBytes) = true) (ht : ts[j]? = some 34) (hd : ds[j]? = some d) : n * 32 ≤ reachBytes := by
  obtain ⟨fuel, hf⟩ := h
  obtain ⟨xs, m, e1, e2, hl, hxs, hall⟩ := DataW.trod_struct Try.underlying34 hf
  have f2 := hall 2 _ rfl
  simp [cells29, Value.cells] at f2
  have hx4 : xs.length = 4 := by simpa using hxs
  rw [List.getElem?_eq_getElem (by omega)] at f2
  rcases recs_len f2 with rfl | ⟨el, r, hx, hel⟩
  · simp
  · have hdd : d = .agg (xs.map (·.1)) := by
      have := congrArg Prod.fst e2
      simpa using this
    have h2 : (xs.map (·.1))[2]? = some (.slice el r) := by
      rw [List.getElem?_map, List.getElem?_eq_getElem (by omega), ← hx]
      rfl
    have hw : (el.length + r.length) * 32 ∈ d.weights Try.prog 34 := by
      rw [hdd]
      simp only [DataW.weights, Try.underlying34]
      refine DataW.weights_mem_each (j := 2) (t := 29) rfl h2 _ ?_
      simp [DataW.weights, Try.underlying29, bytes28]
    have := List.all_eq_true.1 hsz _ (DataW.weights_mem_each ht hd _ hw)
    have h3 : (el.length + r.length) * 32 ≤ reachBytes := by simpa using this
    omega
end

set_option maxRecDepth 100000 in
theorem encodes_lifted (os : Os) (started : os.Started) (H : Type) (enc : TypeId × Value → H) :
    ReturnsInHanded {} Try.checked os 6 .any (Rows.recsEncodesSpec.pre6 enc Try.prog Try.f6 Rows.recsEncodesRow.domain false) (Rows.recsEncodesSpec.post enc Try.prog Try.f6 false true false false) := by
  refine returnsInHanded_of_change_sized (C := Try.checked) own started (by kernel_rfl) Try.func6
    (ChangeSpec.witness6 (enc := enc) (C := Try.checked) false ⟨#[], #[.agg #[.int .i64 0, .int .i64 0, .slice none 0 0, .int .i64 0]], []⟩ 8 (by kernel_rfl) (by kernel_rfl) (by kernel_rfl) (by kernel_rfl)) ?_
  intro W base args ds gs before hval0 hW hcnd hsz0 _
  have hsz : (DataW.weightsEach Try.prog (Try.f6.params.toList ++ Rows.recsEncodesSpec.plain.varTypes Try.prog) (ds ++ gs)).all (· ≤ reachBytes) = true := hsz0
  clear hsz0
  have hval : ∀ (j : Nat) t v, Try.f6.params[j]? = some t → args[j]? = some v → Value.okWide Try.prog W .any base t v := hval0
  have hW' := hW
  obtain ⟨p, q, hA0, hV, rfl, hfz, hnd⟩ := hW
  have hA : DataW.TrodAll enc Try.prog W 0 (fun _ => true) true Try.f6.params.toList args.toList ds p := hA0
  rw [Try.params6] at hA hval hsz
  obtain ⟨v0, vs0, d0, ds0, p0, q0, hargs0, rfl, rfl, h0, r0⟩ := trodAll_cons hA
  obtain ⟨rfl, rfl, rfl⟩ := trodAll_nil r0
  obtain rfl : args = #[v0] := by cases args; simp_all
  obtain ⟨rfl, rfl⟩ := trodVars_none hV
  clear hA0 hval0
  simp only [List.append_nil] at hW'
  have hlt : ∀ x ∈ p0, x.block < W.heap.size := fun x hx => by simpa using hW'.lt x (by simpa using hx)
  obtain ⟨kind, place, wide, sa, n, c, ws, rfl, i1, i2, i3, hr, hc, hs, _⟩ := open_piece (hval 0 34 v0 rfl rfl) h0
  have hnl := piece_len (j := 0) h0 hsz rfl rfl
  have hrb : reachBytes = 140737488351232 := by decide
  have hargs : ∀ (W' : World), Below W.heap.size W W' → DataW.Trod enc Try.prog W' 0 (fun b => decide (b < W.heap.size)) true 34 (pieceV kind place wide sa n c) d0 p0 :=
    fun W' hn => Below.trod laidOut (by kernel_rfl) (of_decide_eq_true (by kernel_rfl)) h0 hn hlt
  refine (encodes_law kind place wide sa n c ws W i1 i2 hr hs (by omega)).mono fun e W' ⟨he, ht⟩ => ?_
  have hnx : Below W.heap.size W W' := ht.below (Nat.le_refl _) (by simp)
  subst he
  refine ⟨_, rfl, _, _, _, [], _, [], hW', ?_, trodAll_mk1 (hargs _ hnx), rfl, hnx.frame _, fun h => by cases h⟩
  exact trodAll_mk1 (shut_bool Try.underlying4 _)

theorem recsEncodes_holds : Rows.RecsEncodesSaid :=
  OpenClaim.holds_of_wide 6 Try.f6 rfl rfl rfl rfl rfl rfl rfl ⟨rfl, rfl, rfl, rfl, rfl⟩ rfl rfl rfl rfl rfl (by kernel_rfl) Try.func6 (by kernel_rfl)
    (of_decide_eq_true (by kernel_rfl)) (by unfold Func.isWrapper; first | (rw [if_pos (by decide +kernel)]; kernel_rfl) | (rw [if_neg (by decide +kernel)]; exact ⟨rfl, rfl⟩))
    (fun os started H enc _ => encodes_lifted os started H enc)
#print axioms recsEncodes_holds
end Go.Proofs.Ytfodpeiecmbojaa
