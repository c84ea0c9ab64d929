/-
  CircuitBlind: the row and its card.
-/
import Derived.Test.YtfmmmhcpdinhgaaDoorRW0
import Derived.Test.YtfmmmhcpdinhgaaDoorQ6
import Derived.Test.YtfmmmhcpdinhgaaDoorB4
namespace Go.Proofs.YtfmmmhcpdinhgaaDoor
open Go.ChangeShapes Go.WideShapes Go.ChangeAt Go.RowKit Go.Deep PureNet
set_option maxRecDepth 100000

set_option maxRecDepth 100000 in
theorem blind_contract (H : Type) (enc : TypeId × Value → H) (W : World) (base : Nat) (args : Array Value) (ds gs : List (DataW H)) (before : List MemPlace)
    (hval : ∀ (j : Nat) t v, Tryd.f4.params[j]? = some t → args[j]? = some v → Value.okWide Tryd.prog W .any base t v)
    (hW : DataW.Whole enc Tryd.prog Tryd.f4.params.toList Rows.circuitBlindSpec.vars false W args.toList ds gs before)
    (hsz0 : (DataW.weightsEach Tryd.prog (Tryd.f4.params.toList ++ (OpenSpec.ofChange Rows.circuitBlindSpec).bare.plain.varTypes Tryd.prog) (ds ++ gs)).all (· ≤ reachBytes) = true) (hL : laidMetH Tryd.prog Rows.circuitBlindRow.laid W) :
    Calls Tryd.prog 4 args W fun e W' => ∃ v, e = .returned v ∧ Rows.circuitBlindSpec.post enc Tryd.prog Tryd.f4 false true false false W args v W' := by
  have hsz := hsz0
  clear hsz0
  have hW' := hW
  obtain ⟨p, q, hA0, hV, rfl, hfz, hnd⟩ := hW
  have hA : DataW.TrodAll enc Tryd.prog W 0 (fun _ => true) true Tryd.f4.params.toList args.toList ds p := hA0
  rw [Tryd.params4] at hA hval hsz
  obtain ⟨v0, vs0, d0, ds0, p0, q0, hargs0, rfl, rfl, h0, r0⟩ := trodAll_cons hA
  obtain ⟨v1, vs1, d1, ds1, p1, q1, hargs1, rfl, rfl, h1, r1⟩ := trodAll_cons r0
  obtain ⟨v2, vs2, d2, ds2, p2, q2, hargs2, rfl, rfl, h2, r2⟩ := trodAll_cons r1
  obtain ⟨rfl, rfl, rfl⟩ := trodAll_nil r2
  obtain rfl : args = #[v0, v1, v2] := by cases args; simp_all
  obtain ⟨rfl, rfl⟩ := trodVars_none hV
  clear hA0
  simp only [List.append_nil] at hW'
  have hlt0 : ∀ x ∈ p0, x.block < W.heap.size := fun x hx => by simpa using hW'.lt x (by simp [hx])
  have hlt1 : ∀ x ∈ p1, x.block < W.heap.size := fun x hx => by simpa using hW'.lt x (by simp [hx])
  have hlt2 : ∀ x ∈ p2, x.block < W.heap.size := fun x hx => by simpa using hW'.lt x (by simp [hx])
  obtain ⟨sa, ca, code, rfl, hn, hr, hsize⟩ := open_nums (hval 0 22 v0 rfl rfl) h0
  obtain ⟨sh, ch, how, rfl, hn2, hr2, hsize2⟩ := open_nums (hval 1 22 v1 rfl rfl) h1
  obtain ⟨sb, cb, steps, rfl, hl, hsize1⟩ := open_lists (hval 2 23 v2 rfl rfl) h2
  have hb0 := hsize (j := 0) hsz rfl rfl
  have hb3 := hsize2 (j := 1) hsz rfl rfl
  obtain ⟨hb1, hb2⟩ := hsize1 (j := 2) hsz rfl rfl
  refine (blind_law run_landed cone_landed code how sa sh ca ch steps sb cb W (kinds_of_laid hL) hn hr hb0 hn2 hr2 hb3 hl hb1 hb2).mono fun e W' ⟨he, hnx⟩ => ?_
  subst he
  refine ⟨_, rfl, _, _, _, [], _, [], hW', ?_, trodAll_mk3 (Below.trod laidOut (by kernel_rfl) (of_decide_eq_true (by kernel_rfl)) h0 hnx hlt0) (Below.trod laidOut (by kernel_rfl) (of_decide_eq_true (by kernel_rfl)) h1 hnx hlt1) (Below.trod laidOut (by kernel_rfl) (of_decide_eq_true (by kernel_rfl)) h2 hnx hlt2), rfl, hnx.frame _, fun h => by cases h⟩
  exact trodAll_mk1 (shut_bool Tryd.underlying4 _)

set_option maxRecDepth 100000 in
theorem blind_lifted (os : Os) (started : os.Started) (H : Type) (enc : TypeId × Value → H) (F : Stop.Interp) :
    ReturnsInHanded {} Tryd.checked os 4 .any ((OpenSpec.ofChange Rows.circuitBlindSpec).preRow enc Tryd.prog Tryd.f4 Rows.circuitBlindRow.domain false Rows.circuitBlindRow.laid) (((OpenSpec.ofChange Rows.circuitBlindSpec).at F).post enc Tryd.prog Tryd.f4 false true false false) := by
  obtain ⟨lw, hlw⟩ : ∃ lw : World, lw = (fun w0 : World => { w0 with heap := (w0.heap.modify 0 fun
      | .cells _ t frozen => .cells #[.string ⟨#[]⟩, .int .i64 0, .int .i64 0, .string ⟨#[105, 110, 112, 117, 116]⟩, .int .i64 0, .int .i64 0, .string ⟨#[103, 97, 116, 101]⟩, .int .i64 15, .int .i64 2, .string ⟨#[108, 97, 116, 99, 104]⟩, .int .i64 1, .int .i64 1, .string ⟨#[109, 117, 120]⟩, .int .i64 0, .int .i64 3] t frozen
      | o => o) }) (World.holding Tryd.prog os ⟨#[], #[], []⟩) := ⟨_, rfl⟩
  have hos : lw.os = os := by rw [hlw]; rfl
  have hv : (lw.forCall (fun _ _ => 0) ⟨#[], #[.slice none 0 0, .slice none 0 0, .slice none 0 0], []⟩).variablesRefB Tryd.checked.prog = true := by rw [hlw]; kernel_rfl
  have hr : ((lw.forCall (fun _ _ => 0) ⟨#[], #[.slice none 0 0, .slice none 0 0, .slice none 0 0], []⟩).heap.toList.drop Tryd.checked.prog.globals.size).take ((begin Tryd.checked.prog (fun _ _ => 0) default).world.heap.size - Tryd.checked.prog.globals.size) = (begin Tryd.checked.prog (fun _ _ => 0) default).world.heap.toList.drop Tryd.checked.prog.globals.size := by rw [hlw]; kernel_rfl
  have hok : Input.okWideB Tryd.checked.prog (lw.forCall (fun _ _ => 0) ⟨#[], #[.slice none 0 0, .slice none 0 0, .slice none 0 0], []⟩) 4 ⟨#[], #[.slice none 0 0, .slice none 0 0, .slice none 0 0], []⟩ = true := by rw [hlw]; kernel_rfl
  have hx : DataW.whole enc Tryd.prog (lw.forCall (fun _ _ => 0) ⟨#[], #[.slice none 0 0, .slice none 0 0, .slice none 0 0], []⟩).memory Tryd.f4.params.toList Rows.circuitBlindSpec.vars false (#[.slice none 0 0, .slice none 0 0, .slice none 0 0] : Array Value).toList 8 = some ([.nil, .nil, .nil], [], []) := by rw [hlw]; kernel_rfl
  have hlm : laidMet Tryd.prog Rows.circuitBlindRow.laid (lw.forCall (fun _ _ => 0) ⟨#[], #[.slice none 0 0, .slice none 0 0, .slice none 0 0], []⟩).memory := by rw [hlw]; exact laidMet_of_run' 8 (by kernel_rfl) (by kernel_rfl)
  clear hlw
  refine returnsInHanded_of_row (C := Tryd.checked) (s := OpenSpec.ofChange Rows.circuitBlindSpec) own started (by kernel_rfl) Tryd.func4
    (witness_row_atRef (enc := enc) (C := Tryd.checked) false lw #[.slice none 0 0, .slice none 0 0, .slice none 0 0] hos hv hr hok
      (OpenSpec.preRow_of_cond 8 hx (by kernel_rfl) (fun k hk => by cases hk) (by kernel_rfl) hlm)) ?_
  intro W base args ds gs before hval hW _ _ hsz hL _ _
  exact blind_contract H enc W base args ds gs before hval hW hsz hL

theorem circuitBlind_said : Rows.CircuitBlindSaid :=
  OpenClaim.holds_of_cond 4 Tryd.f4 rfl rfl rfl rfl rfl rfl rfl ⟨rfl, rfl, rfl, rfl, rfl⟩ rfl rfl rfl rfl rfl (by kernel_rfl) Tryd.func4 (by kernel_rfl)
    (of_decide_eq_true (by kernel_rfl)) (by unfold Func.isWrapper; first | (rw [if_pos (by decide +kernel)]; kernel_rfl) | (rw [if_neg (by decide +kernel)]; exact ⟨rfl, rfl⟩))
    (fun os started H enc _ F => by rw [OpenClaim.pre_eq_preRow]; exact blind_lifted os started H enc F)

/-- no parameter wants a stand-in. -/
theorem circuitBlind_plain (f : FuncId) (fn : Func) (hf : Tryd.pinned.checked.prog.funcNamed "strata/stratalaw14.CircuitBlind" = some f) (hfn : Tryd.pinned.checked.prog.funcs[f]? = some fn) :
    false = Tryd.pinned.checked.prog.looks [] ∧ ∀ (j : Nat) t, fn.params[j]? = some t → Tryd.pinned.checked.prog.wantsStandIn t = false := by
  obtain rfl : f = 4 := Option.some.inj ((show Tryd.prog.funcNamed "strata/stratalaw14.CircuitBlind" = some 4 by kernel_rfl).symm.trans hf) |>.symm
  obtain rfl : fn = Tryd.f4 := (Option.some.inj (Tryd.func4.symm.trans hfn)).symm
  refine ⟨by kernel_rfl, fun j t ht => ?_⟩
  rw [Tryd.params4] at ht
  have hm : t = 22 ∨ t = 23 := by
    have := Array.mem_of_getElem? ht
    simpa using this
  rcases hm with rfl | rfl
  · exact (show Tryd.prog.wantsStandIn 22 = false by kernel_rfl)
  · exact (show Tryd.prog.wantsStandIn 23 = false by kernel_rfl)

theorem circuitBlind_holds : Rows.CircuitBlindCardSaid :=
  Claim7.holds_tied_plain_at .later [] _ _ _ _ circuitBlind_said (fun _ h => by cases h) (by kernel_rfl) (fun _ h => by cases h) circuitBlind_row_tie rfl ⟨rfl, rfl⟩ (by kernel_rfl) rfl circuitBlind_plain (by kernel_rfl)
#print axioms circuitBlind_holds
end Go.Proofs.YtfmmmhcpdinhgaaDoor
