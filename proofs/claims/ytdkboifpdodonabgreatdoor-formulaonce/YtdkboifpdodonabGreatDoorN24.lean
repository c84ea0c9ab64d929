import Derived.Test.YtdkboifpdodonabGreatDoorN23
set_option linter.unusedSimpArgs false
/-
  FormulaOnce: the row and its card.
-/

namespace Go.Proofs.YtdkboifpdodonabGreatDoor
open Go.ChangeShapes Go.WideShapes Go.ChangeAt Go.RowKit Go.Deep PureCnf PureForm

set_option maxRecDepth 100000 in
theorem formulaOnce_contract (H : Type) (enc : TypeId × Value → H) (W : World) (base : Nat) (args : Array Value) (ds gs : List (DataW H)) (before : List MemPlace)
    (hval : ∀ (j : Nat) t v, Tryz.f8.params[j]? = some t → args[j]? = some v → Value.okWide Tryz.prog W .any base t v)
    (hW : DataW.Whole enc Tryz.prog Tryz.f8.params.toList Rows.formulaOnceSpec.vars false W args.toList ds gs before)
    (hsz0 : (DataW.weightsEach Tryz.prog (Tryz.f8.params.toList ++ (OpenSpec.ofChange Rows.formulaOnceSpec).bare.plain.varTypes Tryz.prog) (ds ++ gs)).all (· ≤ reachBytes) = true) (hL : laidMetH Tryz.prog Rows.formulaOnceRow.laid W) :
    Calls Tryz.prog 8 args W fun e W' => ∃ v, e = .returned v ∧ Rows.formulaOnceSpec.post enc Tryz.prog Tryz.f8 false true false false W args v W' := by
  have hsz := hsz0
  clear hsz0
  have hW' := hW
  obtain ⟨p, q, hA0, hV, rfl, hfz, hnd⟩ := hW
  have hA : DataW.TrodAll enc Tryz.prog W 0 (fun _ => true) true Tryz.f8.params.toList args.toList ds p := hA0
  rw [Tryz.params8] at hA hval hsz
  obtain ⟨v0, vs0, d0, ds0, p0, q0, hargs0, rfl, rfl, h0, r0⟩ := trodAll_cons hA
  obtain ⟨rfl, rfl, rfl⟩ := trodAll_nil r0
  obtain rfl : args = #[v0] := by cases args; simp_all
  obtain ⟨rfl, rfl⟩ := trodVars_none hV
  clear hA0
  simp only [List.append_nil] at hW'
  have hlt0 : ∀ x ∈ p0, x.block < W.heap.size := fun x hx => by simpa using hW'.lt x (by simp [hx])
  obtain ⟨s0, rfl, rfl, rfl, hs0⟩ := Go.ChangeMaps.open_string Tryz.underlying9 (hval 0 9 v0 rfl rfl) h0
  have hz0 : s0.size ≤ 140737488351232 := by
    have hr : reachBytes = 140737488351232 := by decide
    have h2 := List.all_eq_true.1 hsz _ (DataW.weights_mem_each (j := 0) rfl rfl s0.size (by simp [DataW.weights]))
    have h3 : s0.size ≤ reachBytes := by simpa using h2
    omega
  obtain ⟨g, o, c, hsg⟩ := signs6 hL
  refine (Doc.once_law parseK formed15 printK s0 W (met6 hL) hsg (by omega)).mono fun e W' ⟨he, hnx⟩ => ?_
  subst he
  refine ⟨_, rfl, _, _, _, [], _, [], hW', ?_, trodAll_mk1 (Below.trod laidOut (by kernel_rfl) (of_decide_eq_true (by kernel_rfl)) h0 hnx hlt0), rfl, hnx.frame _, fun h => by cases h⟩
  exact trodAll_mk1 (shut_bool Tryz.underlying4 _)

set_option maxRecDepth 100000 in
theorem formulaOnce_lifted (os : Os) (started : os.Started) (H : Type) (enc : TypeId × Value → H) (F : Stop.Interp) :
    ReturnsInHanded {} Tryz.checked os 8 .any ((OpenSpec.ofChange Rows.formulaOnceSpec).preRow enc Tryz.prog Tryz.f8 Rows.formulaOnceRow.domain false Rows.formulaOnceRow.laid) (((OpenSpec.ofChange Rows.formulaOnceSpec).at F).post enc Tryz.prog Tryz.f8 false true false false) := by
  obtain ⟨lw, hlw⟩ : ∃ lw : World, lw = (fun w0 : World => { w0 with heap := ((((((w0.heap.modify 0 fun
      | .cells _ t frozen => .cells #[.slice (some ⟨(World.holding Tryz.prog default ⟨#[], #[], []⟩).heap.size + 0, 0, none⟩) 21 21] t frozen
      | o => o).modify 5 fun
      | .cells _ t frozen => .cells #[.int .u8 0, .int .u8 1, .int .u8 28, .int .u8 2, .int .u8 29, .int .u8 14, .int .u8 24, .int .u8 3, .int .u8 30, .int .u8 22, .int .u8 20, .int .u8 15, .int .u8 25, .int .u8 17, .int .u8 4, .int .u8 8, .int .u8 31, .int .u8 27, .int .u8 13, .int .u8 23, .int .u8 21, .int .u8 19, .int .u8 16, .int .u8 7, .int .u8 26, .int .u8 12, .int .u8 18, .int .u8 6, .int .u8 11, .int .u8 5, .int .u8 10, .int .u8 9] t frozen
      | o => o).modify 6 fun
      | .cells _ t frozen => .cells #[.int .u8 0, .int .u8 1, .int .u8 56, .int .u8 2, .int .u8 57, .int .u8 49, .int .u8 28, .int .u8 3, .int .u8 61, .int .u8 58, .int .u8 42, .int .u8 50, .int .u8 38, .int .u8 29, .int .u8 17, .int .u8 4, .int .u8 62, .int .u8 47, .int .u8 59, .int .u8 36, .int .u8 45, .int .u8 43, .int .u8 51, .int .u8 22, .int .u8 53, .int .u8 39, .int .u8 33, .int .u8 30, .int .u8 24, .int .u8 18, .int .u8 12, .int .u8 5, .int .u8 63, .int .u8 55, .int .u8 48, .int .u8 27, .int .u8 60, .int .u8 41, .int .u8 37, .int .u8 16, .int .u8 46, .int .u8 35, .int .u8 44, .int .u8 21, .int .u8 52, .int .u8 32, .int .u8 23, .int .u8 11, .int .u8 54, .int .u8 26, .int .u8 40, .int .u8 15, .int .u8 34, .int .u8 20, .int .u8 31, .int .u8 10, .int .u8 25, .int .u8 14, .int .u8 19, .int .u8 9, .int .u8 13, .int .u8 8, .int .u8 7, .int .u8 6] t frozen
      | o => o).modify 4 fun
      | .cells _ t frozen => .cells #[.int .u64 1, .int .u64 10, .int .u64 100, .int .u64 1000, .int .u64 10000, .int .u64 100000, .int .u64 1000000, .int .u64 10000000, .int .u64 100000000, .int .u64 1000000000, .int .u64 10000000000, .int .u64 100000000000, .int .u64 1000000000000, .int .u64 10000000000000, .int .u64 100000000000000, .int .u64 1000000000000000, .int .u64 10000000000000000, .int .u64 100000000000000000, .int .u64 1000000000000000000, .int .u64 10000000000000000000] t frozen
      | o => o).modify 1 fun
      | .cells _ t frozen => .cells ((List.range 256).map fun c => Value.int .u8 (Lib.firstT c)).toArray t frozen
      | o => o).modify 2 fun
      | .cells _ t frozen => .cells ((List.range 16).flatMap fun i => [Value.int .u8 (Lib.accLo i), Value.int .u8 (Lib.accHi i)]).toArray t frozen
      | o => o) }) (World.holding Tryz.prog os ⟨#[.cells #[.string ⟨#[60, 45, 62]⟩, .int .i64 7, .int .i64 10, .string ⟨#[45, 62]⟩, .int .i64 7, .int .i64 9, .string ⟨#[33]⟩, .int .i64 4, .int .i64 0, .string ⟨#[126]⟩, .int .i64 4, .int .i64 0, .string ⟨#[38]⟩, .int .i64 7, .int .i64 6, .string ⟨#[124]⟩, .int .i64 7, .int .i64 7, .string ⟨#[94]⟩, .int .i64 7, .int .i64 8, .string ⟨#[40]⟩, .int .i64 8, .int .i64 0, .string ⟨#[41]⟩, .int .i64 9, .int .i64 0, .string ⟨#[44]⟩, .int .i64 10, .int .i64 0, .string ⟨#[58]⟩, .int .i64 11, .int .i64 0, .string ⟨#[194, 172]⟩, .int .i64 4, .int .i64 0, .string ⟨#[226, 136, 167]⟩, .int .i64 7, .int .i64 6, .string ⟨#[226, 136, 168]⟩, .int .i64 7, .int .i64 7, .string ⟨#[226, 138, 149]⟩, .int .i64 7, .int .i64 8, .string ⟨#[226, 134, 146]⟩, .int .i64 7, .int .i64 9, .string ⟨#[226, 134, 148]⟩, .int .i64 7, .int .i64 10, .string ⟨#[226, 136, 131]⟩, .int .i64 5, .int .i64 4, .string ⟨#[226, 136, 128]⟩, .int .i64 5, .int .i64 5, .string ⟨#[226, 138, 164]⟩, .int .i64 2, .int .i64 1, .string ⟨#[226, 138, 165]⟩, .int .i64 2, .int .i64 0] 130], #[], []⟩) := ⟨_, rfl⟩
  have hos : lw.os = os := by rw [hlw]; rfl
  have hv : (lw.forCall (fun _ _ => 0) ⟨#[], #[.string ⟨#[]⟩], []⟩).variablesRefB Tryz.checked.prog = true := by rw [hlw]; kernel_rfl
  have hr : ((lw.forCall (fun _ _ => 0) ⟨#[], #[.string ⟨#[]⟩], []⟩).heap.toList.drop Tryz.checked.prog.globals.size).take ((begin Tryz.checked.prog (fun _ _ => 0) default).world.heap.size - Tryz.checked.prog.globals.size) = (begin Tryz.checked.prog (fun _ _ => 0) default).world.heap.toList.drop Tryz.checked.prog.globals.size := by rw [hlw]; kernel_rfl
  have hok : Input.okWideB Tryz.checked.prog (lw.forCall (fun _ _ => 0) ⟨#[], #[.string ⟨#[]⟩], []⟩) 8 ⟨#[], #[.string ⟨#[]⟩], []⟩ = true := by rw [hlw]; kernel_rfl
  have hx : DataW.whole enc Tryz.prog (lw.forCall (fun _ _ => 0) ⟨#[], #[.string ⟨#[]⟩], []⟩).memory Tryz.f8.params.toList Rows.formulaOnceSpec.vars false #[Value.string ⟨#[]⟩].toList 8 = some ([.lit (.string [])], [], []) := by rw [hlw]; kernel_rfl
  have hlm : laidMet Tryz.prog Rows.formulaOnceRow.laid (lw.forCall (fun _ _ => 0) ⟨#[], #[.string ⟨#[]⟩], []⟩).memory := by rw [hlw]; exact laidMet_of_run' 8 (by kernel_rfl) (by kernel_rfl)
  clear hlw
  refine returnsInHanded_of_row (C := Tryz.checked) (s := OpenSpec.ofChange Rows.formulaOnceSpec) own started (by kernel_rfl) Tryz.func8
    (witness_row_atRef (enc := enc) (C := Tryz.checked) false lw #[.string ⟨#[]⟩] hos hv hr hok
      (OpenSpec.preRow_of_cond 8 hx (by kernel_rfl) (fun k hk => by cases hk) (by kernel_rfl) hlm)) ?_
  intro W base args ds gs before hval hW _ _ hsz hL _ _
  exact formulaOnce_contract H enc W base args ds gs before hval hW hsz hL

theorem formulaOnce_said : Rows.FormulaOnceSaid :=
  OpenClaim.holds_of_cond 8 Tryz.f8 rfl rfl rfl rfl rfl rfl rfl ⟨rfl, rfl, rfl, rfl, rfl⟩ rfl rfl rfl rfl rfl (by kernel_rfl) Tryz.func8 (by kernel_rfl)
    (of_decide_eq_true (by kernel_rfl)) (by unfold Func.isWrapper; first | (rw [if_pos (by decide +kernel)]; kernel_rfl) | (rw [if_neg (by decide +kernel)]; exact ⟨rfl, rfl⟩))
    (fun os started H enc _ F => by rw [OpenClaim.pre_eq_preRow]; exact formulaOnce_lifted os started H enc F)

/-- no parameter wants a stand-in. -/
theorem formulaOnce_plain (f : FuncId) (fn : Func) (hf : Tryz.pinned.checked.prog.funcNamed "strata/stratalaw13.FormulaOnce" = some f) (hfn : Tryz.pinned.checked.prog.funcs[f]? = some fn) :
    true = Tryz.pinned.checked.prog.looks [] ∧ ∀ (j : Nat) t, fn.params[j]? = some t → Tryz.pinned.checked.prog.wantsStandIn t = false := by
  obtain rfl : f = 8 := Option.some.inj ((show Tryz.prog.funcNamed "strata/stratalaw13.FormulaOnce" = some 8 by kernel_rfl).symm.trans hf) |>.symm
  obtain rfl : fn = Tryz.f8 := (Option.some.inj (Tryz.func8.symm.trans hfn)).symm
  refine ⟨by kernel_rfl, fun j t ht => ?_⟩
  rw [Tryz.params8] at ht
  have hm : t = 9 := by
    have := Array.mem_of_getElem? ht
    simpa using this
  subst hm
  exact (show Tryz.prog.wantsStandIn 9 = false by kernel_rfl)

theorem formulaOnce_holds : Rows.FormulaOnceCardSaid :=
  Claim7.holds_tied_plain_at .later [] _ _ _ _ formulaOnce_said (fun _ h => by cases h) (by kernel_rfl) (fun _ h => by cases h) formulaOnce_row_tie rfl ⟨rfl, rfl⟩ (by kernel_rfl) rfl formulaOnce_plain (by kernel_rfl)
#print axioms formulaOnce_holds
end Go.Proofs.YtdkboifpdodonabGreatDoor
