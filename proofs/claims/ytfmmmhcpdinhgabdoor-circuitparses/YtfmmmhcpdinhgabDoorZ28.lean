import Derived.Test.YtfmmmhcpdinhgabDoorZ27
/-
  CircuitParses: the tables, off what the row lists.
-/
namespace Go.Proofs.YtfmmmhcpdinhgabDoor
open Go.ChangeShapes Go.WideShapes Go.ChangeAt Go.RowKit Go.Deep PureNet PureRd
set_option maxRecDepth 100000

theorem own : ownKnob Tryd.prog.godebug = none := by kernel_rfl
theorem laidOut : laidOutB Tryd.prog = true := by kernel_rfl
theorem cells3 : Tryd.prog.cellsOf 3 = 1 := by kernel_rfl
theorem cells137 : Tryd.prog.cellsOf 131 = 3 := by kernel_rfl
theorem cells138 : Tryd.prog.cellsOf 132 = 15 := by kernel_rfl
theorem cells9 : Tryd.prog.cellsOf 9 = 1 := by kernel_rfl
/-- a number of a line of the table. -/
theorem kind_cells {W : World} {fuel : Nat} {cs : List Value} {s : List UInt8} {a b : Int} {y : DataW Unit × List MemPlace} (h : DataW.trod (fun _ => ()) Tryd.prog W 0 (fun _ => true) false fuel 131 cs = some y) (hy : y.1 = .agg [.lit (.string s), .lit (.int .i64 a), .lit (.int .i64 b)]) :
    cs[1]? = some (.int .i64 a) ∧ cs[2]? = some (.int .i64 b) := by
  obtain ⟨xs, m, e1, e2, hl, hxs, hall⟩ := DataW.trod_struct Tryd.underlying131 h
  have hl3 : cs.length = 3 := by rw [hl]; exact cells137
  match cs, hl3 with
  | [v0, v1, v2], _ =>
  have f1 := hall 1 _ rfl
  have f2 := hall 2 _ rfl
  simp [cells3] at f1 f2
  have hx3 : xs.length = 3 := by simpa using hxs
  rw [List.getElem?_eq_getElem (by omega)] at f1 f2
  obtain ⟨n1, g1, d1, _⟩ := DataW.trod_int Tryd.underlying3 f1
  obtain ⟨n2, g2, d2, _⟩ := DataW.trod_int Tryd.underlying3 f2
  rw [e2] at hy
  simp only [DataW.agg.injEq] at hy
  match xs, hx3 with
  | [x0, x1, x2], _ =>
  simp at hy d1 d2 g1 g2
  obtain ⟨_, hy1, hy2⟩ := hy
  rw [d1] at hy1
  rw [d2] at hy2
  simp at hy1 hy2
  subst hy1 hy2
  simp [g1, g2]
theorem cells139 : Tryd.prog.cellsOf 107 = 16 := by kernel_rfl
theorem kinds_of_one {W : World} {t : TypeId} {g f : Nat} {cs : Array Value} {p : List MemPlace} (hg0 : Tryd.prog.globalNamed "strata/circuit.kinds" = some g) (ht0 : (Tryd.prog.globals[g]?).map (·.type) = some t) (hv0 : W.var? Tryd.prog "strata/circuit.kinds" = some cs) (hd0 : DataW.trod (fun _ => ()) Tryd.prog W 0 (fun _ => true) false f t cs.toList = some (Rows.laid_strata_circuit_kinds, p)) : KindsAt W := by
  have hg : Tryd.prog.globalNamed "strata/circuit.kinds" = some 3 := by kernel_rfl
  obtain rfl := Option.some.inj (hg.symm.trans hg0)
  have ht : (Tryd.prog.globals[3]?).map (·.type) = some 132 := by kernel_rfl
  obtain rfl := Option.some.inj (ht.symm.trans ht0)
  obtain ⟨xs, m, e1, e2, hcl, hxs, hall⟩ := DataW.trod_array Tryd.underlying132 hd0
  have hc : ∀ j, W.cell? ⟨3, j, none⟩ = cs.toList[j]? := fun j => by simpa using World.var?_cell hg0 hv0 j
  have hd := congrArg Prod.fst e2
  simp only [Rows.laid_strata_circuit_kinds, DataW.agg.injEq] at hd
  have hlen : cs.toList.length = 15 := by rw [hcl]; exact cells138
  match xs, hxs with
  | [x0, x1, x2, x3, x4], _ =>
  simp at hd
  obtain ⟨_, y1, y2, y3, y4⟩ := hd
  have t1 := hall 1 (by omega)
  have t2 := hall 2 (by omega)
  have t3 := hall 3 (by omega)
  have t4 := hall 4 (by omega)
  rw [cells137] at t1 t2 t3 t4
  obtain ⟨a1, b1⟩ := kind_cells t1 y1.symm
  obtain ⟨a2, b2⟩ := kind_cells t2 y2.symm
  obtain ⟨a3, b3⟩ := kind_cells t3 y3.symm
  obtain ⟨a4, b4⟩ := kind_cells t4 y4.symm
  simp only [List.getElem?_take, List.getElem?_drop] at a1 a2 a3 a4 b1 b2 b3 b4
  simp at a1 a2 a3 a4 b1 b2 b3 b4
  refine ⟨?_, fun k h1 h4 => ?_, fun k h1 h4 => ?_⟩
  · have h5 : W.cell? ⟨3, 0, none⟩ = some (cs.toList[0]'(by omega)) := by rw [hc]; exact List.getElem?_eq_getElem _
    exact World.block_lt_of_cell? W _ h5
  · rw [hc]
    have : k = 1 ∨ k = 2 ∨ k = 3 ∨ k = 4 := by omega
    rcases this with rfl | rfl | rfl | rfl <;> simpa [mostN]
  · rw [hc]
    have : k = 1 ∨ k = 2 ∨ k = 3 ∨ k = 4 := by omega
    rcases this with rfl | rfl | rfl | rfl <;> simpa [usesN]

theorem ops_of_one {W : World} {nm : String} {b f : Nat} {cs : Array Value} {p : List MemPlace} (hg0 : Tryd.prog.globalNamed nm = some b) (hv0 : W.var? Tryd.prog nm = some cs) (hd0 : DataW.trod (fun _ => ()) Tryd.prog W 0 (fun _ => true) false f 107 cs.toList = some (.agg (opsL.map fun s => .lit (.string s)), p)) : b < W.heap.size ∧ ∀ k : Nat, k < 16 → W.cell? ⟨b, k, none⟩ = some (str (opW k)) := by
  obtain ⟨xs, m, e1, e2, hcl, hxs, hall⟩ := DataW.trod_array Tryd.underlying107 hd0
  have hc : ∀ j, W.cell? ⟨b, j, none⟩ = cs.toList[j]? := fun j => by simpa using World.var?_cell hg0 hv0 j
  have hd := congrArg Prod.fst e2
  simp only [DataW.agg.injEq] at hd
  have hlen : cs.toList.length = 16 := by rw [hcl]; exact cells139
  have hw : ∀ k : Nat, k < 16 → cs.toList[k]? = some (str (opW k)) := fun k hk => by
    have tk := hall k hk
    rw [cells9] at tk
    have hk2 : k < xs.length := by omega
    rw [List.getElem?_eq_getElem hk2] at tk
    obtain ⟨s, g1, d1, _⟩ := DataW.trod_string Tryd.underlying9 tk
    have h0 := congrArg (fun l => l[0]?) g1
    simp only [List.getElem?_take, List.getElem?_drop] at h0
    simp at h0
    have h1 : (opsL.map fun s => (DataW.lit (Lit.string s) : DataW Unit))[k]? = (xs.map Prod.fst)[k]? := by rw [hd]
    have hk3 : k < opsL.length := by simpa [opsL] using hk
    simp [hk2, hk3, d1] at h1
    have h2 : (⟨(opW k).toArray⟩ : ByteArray) = s := by
      show (⟨(opsL.getD k []).toArray⟩ : ByteArray) = s
      rw [List.getD_eq_getElem?_getD, List.getElem?_eq_getElem hk3, Option.getD_some, h1]
    have h3 : cs[k]? = some (.string s) := by simpa using h0
    show cs.toList[k]? = some (.string ⟨(opW k).toArray⟩)
    rw [h2, Array.getElem?_toList]
    exact h3
  refine ⟨?_, fun k hk => by rw [hc]; exact hw k hk⟩
  have h5 : W.cell? ⟨b, 0, none⟩ = some (str (opW 0)) := by rw [hc]; exact hw 0 (by omega)
  exact World.block_lt_of_cell? W _ h5
theorem tables_of_parses {W : World} (h0 : laidMetH Tryd.prog Rows.circuitParsesRow.laid W) : KindsAt W ∧ OpsT W opW ∧ OpsD W opW := by
  have h : laidMet Tryd.prog [("strata/strataref14.words", Rows.laid_strata_strataref14_words), ("unicode/utf8.acceptRanges", Rows.laid_unicode_utf8_acceptRanges), ("strata/circuit.kinds", Rows.laid_strata_circuit_kinds), ("strata/circuit.operators", Rows.laid_strata_circuit_operators), ("unicode/utf8.first", Rows.laid_unicode_utf8_first)] W := h0
  obtain ⟨ps, h1, _⟩ := h
  obtain ⟨g1, t1, c1, f1, p1, q1, hg1, ht1, hv1, hd1, h2, _⟩ := h1
  obtain ⟨_, _, _, _, _, _, _, _, _, _, h3, _⟩ := h2
  obtain ⟨g3, t3, c3, f3, p3, q3, hg3, ht3, hv3, hd3, h4, _⟩ := h3
  obtain ⟨g4, t4, c4, f4, p4, q4, hg4, ht4, hv4, hd4, h5, _⟩ := h4
  have k1 := kinds_of_one hg3 ht3 hv3 hd3
  obtain rfl : 1 = g4 := Option.some.inj ((show Tryd.prog.globalNamed "strata/circuit.operators" = some 1 by kernel_rfl).symm.trans hg4)
  obtain rfl : 107 = t4 := Option.some.inj ((show (Tryd.prog.globals[1]?).map (·.type) = some 107 by kernel_rfl).symm.trans ht4)
  have o1 := ops_of_one hg4 hv4 hd4
  obtain rfl : 0 = g1 := Option.some.inj ((show Tryd.prog.globalNamed "strata/strataref14.words" = some 0 by kernel_rfl).symm.trans hg1)
  obtain rfl : 107 = t1 := Option.some.inj ((show (Tryd.prog.globals[0]?).map (·.type) = some 107 by kernel_rfl).symm.trans ht1)
  have o0 := ops_of_one hg1 hv1 hd1
  exact ⟨k1, ⟨o1.1, o1.2⟩, ⟨o0.1, o0.2⟩⟩
end Go.Proofs.YtfmmmhcpdinhgabDoor
/-
  CircuitParses: the row and its card.
-/
namespace Go.Proofs.YtfmmmhcpdinhgabDoor
open Go.ChangeShapes Go.WideShapes Go.ChangeAt Go.RowKit Go.Deep PureNet PureRd
set_option maxRecDepth 100000

theorem str_of (s : ByteArray) : Value.string s = str s.data.toList := by
  show Value.string s = Value.string ⟨s.data.toList.toArray⟩
  simp
set_option maxRecDepth 100000 in
theorem parses_contract (H : Type) (enc : TypeId × Value → H) (W : World) (base : Nat) (args : Array Value) (ds gs : List (DataW H)) (before : List MemPlace)
    (hval : ∀ (j : Nat) t v, Tryd.f3.params[j]? = some t → args[j]? = some v → Value.okWide Tryd.prog W .any base t v)
    (hW : DataW.Whole enc Tryd.prog Tryd.f3.params.toList Rows.circuitParsesSpec.vars false W args.toList ds gs before)
    (hL : laidMetH Tryd.prog Rows.circuitParsesRow.laid W) :
    Calls Tryd.prog 3 args W fun e W' => ∃ v, e = .returned v ∧ Rows.circuitParsesSpec.post enc Tryd.prog Tryd.f3 false true false false W args v W' := by
  have hW' := hW
  obtain ⟨p, q, hA0, hV, rfl, hfz, hnd⟩ := hW
  have hA : DataW.TrodAll enc Tryd.prog W 0 (fun _ => true) true Tryd.f3.params.toList args.toList ds p := hA0
  rw [Tryd.params3] at hA hval
  obtain ⟨v0, vs0, d0, ds0, p0, q0, hargs0, rfl, rfl, h0, r0⟩ := trodAll_cons hA
  obtain ⟨rfl, rfl, rfl⟩ := trodAll_nil r0
  obtain rfl : args = #[v0] := by cases args; simp_all
  obtain ⟨rfl, rfl⟩ := trodVars_none hV
  clear hA0
  simp only [List.append_nil] at hW'
  have hlt0 : ∀ x ∈ p0, x.block < W.heap.size := fun x hx => by simpa using hW'.lt x (by simp [hx])
  obtain ⟨s0, rfl, rfl, rfl, hs0⟩ := Go.ChangeMaps.open_string Tryd.underlying9 (hval 0 9 v0 rfl rfl) h0
  obtain ⟨tb1, tb2, tb3⟩ := tables_of_parses hL
  have hlaw := parses_law s0.data.toList W tb2 tb3 tb1
  rw [← str_of] at hlaw
  refine hlaw.mono fun e W' ⟨he, hnx⟩ => ?_
  subst he
  refine ⟨_, rfl, _, _, _, [], _, [], hW', ?_, trodAll_mk1 (Below.trod laidOut (by kernel_rfl) (of_decide_eq_true (by kernel_rfl)) h0 hnx hlt0), rfl, hnx.frame _, fun h => by cases h⟩
  exact trodAll_mk1 (shut_bool Tryd.underlying4 _)

set_option maxRecDepth 100000 in
theorem parses_lifted (os : Os) (started : os.Started) (H : Type) (enc : TypeId × Value → H) (F : Stop.Interp) :
    ReturnsInHanded {} Tryd.checked os 3 .any ((OpenSpec.ofChange Rows.circuitParsesSpec).preRow enc Tryd.prog Tryd.f3 Rows.circuitParsesRow.domain false Rows.circuitParsesRow.laid) (((OpenSpec.ofChange Rows.circuitParsesSpec).at F).post enc Tryd.prog Tryd.f3 false true false false) := by
  obtain ⟨lw, hlw⟩ : ∃ lw : World, lw = (fun w0 : World => { w0 with heap := (((((w0.heap.modify 0 fun
      | .cells _ t frozen => .cells #[.string ⟨#[122, 101, 114, 111]⟩, .string ⟨#[110, 111, 114]⟩, .string ⟨#[108, 101, 115, 115]⟩, .string ⟨#[110, 111, 116, 97]⟩, .string ⟨#[100, 105, 102, 102]⟩, .string ⟨#[110, 111, 116, 98]⟩, .string ⟨#[120, 111, 114]⟩, .string ⟨#[110, 97, 110, 100]⟩, .string ⟨#[97, 110, 100]⟩, .string ⟨#[105, 102, 102]⟩, .string ⟨#[98]⟩, .string ⟨#[105, 109, 112]⟩, .string ⟨#[97]⟩, .string ⟨#[114, 101, 118]⟩, .string ⟨#[111, 114]⟩, .string ⟨#[111, 110, 101]⟩] t frozen
      | o => o).modify 1 fun
      | .cells _ t frozen => .cells #[.string ⟨#[122, 101, 114, 111]⟩, .string ⟨#[110, 111, 114]⟩, .string ⟨#[108, 101, 115, 115]⟩, .string ⟨#[110, 111, 116, 97]⟩, .string ⟨#[100, 105, 102, 102]⟩, .string ⟨#[110, 111, 116, 98]⟩, .string ⟨#[120, 111, 114]⟩, .string ⟨#[110, 97, 110, 100]⟩, .string ⟨#[97, 110, 100]⟩, .string ⟨#[105, 102, 102]⟩, .string ⟨#[98]⟩, .string ⟨#[105, 109, 112]⟩, .string ⟨#[97]⟩, .string ⟨#[114, 101, 118]⟩, .string ⟨#[111, 114]⟩, .string ⟨#[111, 110, 101]⟩] t frozen
      | o => o).modify 5 fun
      | .cells _ t frozen => .cells #[.int .u8 128, .int .u8 191, .int .u8 160, .int .u8 191, .int .u8 128, .int .u8 159, .int .u8 144, .int .u8 191, .int .u8 128, .int .u8 143, .int .u8 0, .int .u8 0, .int .u8 0, .int .u8 0, .int .u8 0, .int .u8 0, .int .u8 0, .int .u8 0, .int .u8 0, .int .u8 0, .int .u8 0, .int .u8 0, .int .u8 0, .int .u8 0, .int .u8 0, .int .u8 0, .int .u8 0, .int .u8 0, .int .u8 0, .int .u8 0, .int .u8 0, .int .u8 0] t frozen
      | o => o).modify 3 fun
      | .cells _ t frozen => .cells #[.string ⟨#[]⟩, .int .i64 0, .int .i64 0, .string ⟨#[105, 110, 112, 117, 116]⟩, .int .i64 0, .int .i64 0, .string ⟨#[103, 97, 116, 101]⟩, .int .i64 15, .int .i64 2, .string ⟨#[108, 97, 116, 99, 104]⟩, .int .i64 1, .int .i64 1, .string ⟨#[109, 117, 120]⟩, .int .i64 0, .int .i64 3] t frozen
      | o => o).modify 4 fun
      | .cells _ t frozen => .cells (Go.Pinned.utf8FirstZ.map fun n : Nat => Value.int .u8 (Int.ofNat n)).toArray t frozen
      | o => o) }) (World.holding Tryd.prog os ⟨#[], #[], []⟩) := ⟨_, rfl⟩
  have hos : lw.os = os := by rw [hlw]; rfl
  have hv : (lw.forCall (fun _ _ => 0) ⟨#[], #[.string ⟨#[]⟩], []⟩).variablesRefB Tryd.checked.prog = true := by rw [hlw]; kernel_rfl
  have hr : ((lw.forCall (fun _ _ => 0) ⟨#[], #[.string ⟨#[]⟩], []⟩).heap.toList.drop Tryd.checked.prog.globals.size).take ((begin Tryd.checked.prog (fun _ _ => 0) default).world.heap.size - Tryd.checked.prog.globals.size) = (begin Tryd.checked.prog (fun _ _ => 0) default).world.heap.toList.drop Tryd.checked.prog.globals.size := by rw [hlw]; kernel_rfl
  have hok : Input.okWideB Tryd.checked.prog (lw.forCall (fun _ _ => 0) ⟨#[], #[.string ⟨#[]⟩], []⟩) 3 ⟨#[], #[.string ⟨#[]⟩], []⟩ = true := by rw [hlw]; kernel_rfl
  have hx : DataW.whole enc Tryd.prog (lw.forCall (fun _ _ => 0) ⟨#[], #[.string ⟨#[]⟩], []⟩).memory Tryd.f3.params.toList Rows.circuitParsesSpec.vars false #[Value.string ⟨#[]⟩].toList 8 = some ([.lit (.string [])], [], []) := by rw [hlw]; kernel_rfl
  have hlm : laidMet Tryd.prog Rows.circuitParsesRow.laid (lw.forCall (fun _ _ => 0) ⟨#[], #[.string ⟨#[]⟩], []⟩).memory := by rw [hlw]; exact laidMet_of_run' 8 (by kernel_rfl) (by kernel_rfl)
  clear hlw
  refine returnsInHanded_of_row (C := Tryd.checked) (s := OpenSpec.ofChange Rows.circuitParsesSpec) own started (by kernel_rfl) Tryd.func3
    (witness_row_atRef (enc := enc) (C := Tryd.checked) false lw #[.string ⟨#[]⟩] hos hv hr hok
      (OpenSpec.preRow_of_cond 8 hx (by kernel_rfl) (fun k hk => by cases hk) (by kernel_rfl) hlm)) ?_
  intro W base args ds gs before hval hW _ _ _ hL _ _
  exact parses_contract H enc W base args ds gs before hval hW hL

theorem circuitParses_said : Rows.CircuitParsesSaid :=
  OpenClaim.holds_of_cond 3 Tryd.f3 rfl rfl rfl rfl rfl rfl rfl ⟨rfl, rfl, rfl, rfl, rfl⟩ rfl rfl rfl rfl rfl (by kernel_rfl) Tryd.func3 (by kernel_rfl)
    (of_decide_eq_true (by kernel_rfl)) (by unfold Func.isWrapper; first | (rw [if_pos (by decide +kernel)]; kernel_rfl) | (rw [if_neg (by decide +kernel)]; exact ⟨rfl, rfl⟩))
    (fun os started H enc _ F => by rw [OpenClaim.pre_eq_preRow]; exact parses_lifted os started H enc F)

/-- no parameter wants a stand-in. -/
theorem circuitParses_plain (f : FuncId) (fn : Func) (hf : Tryd.pinned.checked.prog.funcNamed "strata/stratalaw14.CircuitParses" = some f) (hfn : Tryd.pinned.checked.prog.funcs[f]? = some fn) :
    false = Tryd.pinned.checked.prog.looks [] ∧ ∀ (j : Nat) t, fn.params[j]? = some t → Tryd.pinned.checked.prog.wantsStandIn t = false := by
  obtain rfl : f = 3 := Option.some.inj ((show Tryd.prog.funcNamed "strata/stratalaw14.CircuitParses" = some 3 by kernel_rfl).symm.trans hf) |>.symm
  obtain rfl : fn = Tryd.f3 := (Option.some.inj (Tryd.func3.symm.trans hfn)).symm
  refine ⟨by kernel_rfl, fun j t ht => ?_⟩
  rw [Tryd.params3] at ht
  have hm : t = 9 := by
    have := Array.mem_of_getElem? ht
    simpa using this
  subst hm
  exact (show Tryd.prog.wantsStandIn 9 = false by kernel_rfl)

theorem circuitParses_holds : Rows.CircuitParsesCardSaid :=
  Claim7.holds_tied_plain_at .later [] _ _ _ _ circuitParses_said (fun _ h => by cases h) (by kernel_rfl) (fun _ h => by cases h) circuitParses_row_tie rfl ⟨rfl, rfl⟩ (by kernel_rfl) rfl circuitParses_plain (by kernel_rfl)
#print axioms circuitParses_holds
end Go.Proofs.YtfmmmhcpdinhgabDoor
