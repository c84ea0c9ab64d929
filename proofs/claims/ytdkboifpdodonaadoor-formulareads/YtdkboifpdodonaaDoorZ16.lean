import Derived.Test.YtdkboifpdodonaaDoorZ15
set_option linter.unusedSimpArgs false
/-
  FormulaReads: the law, over a contract of the program's own Parse.
-/
namespace Go.Proofs.YtdkboifpdodonaaDoor.Doc
open Go.RowKit Go.Deep PureCnf PureForm
set_option maxRecDepth 100000

/-- nodes that can be read there. -/
structure NodesAt (W : World) (sa : Option Addr) (l : List Nd) : Prop where
  at_ : ∀ k (hk : k < l.length), ∃ g o, sa = some ⟨g, o, none⟩ ∧ g < W.heap.size ∧ W.cell? ⟨g, o + k * 2, none⟩ = some (.int .i64 l[k].1) ∧ W.cell? ⟨g, o + k * 2 + 1, none⟩ = some (.int .i64 l[k].2)
theorem NodesAt.below {w W : World} {sa : Option Addr} {l : List Nd} (h : NodesAt w sa l) (hb : Below w.heap.size w W) : NodesAt W sa l := ⟨fun k hk => by
  obtain ⟨g, o, e, hg, c0, c1⟩ := h.at_ k hk
  exact ⟨g, o, e, Nat.lt_of_lt_of_le hg hb.size, below_cell hb hg c0, below_cell hb hg c1⟩⟩

theorem nds_at (l : List Nd) (k j : Nat) (hk : k < l.length) (hj : j < 2) : (nds l)[k * 2 + j]? = (nd l[k])[j]? := by
  induction l generalizing k with
  | nil => simp at hk
  | cons p t ih =>
    have e : nds (p :: t) = nd p ++ nds t := by simp [nds]
    have hl : (nd p).length = 2 := rfl
    rw [e]
    cases k with
    | zero => rw [List.getElem?_append_left (by omega)]; simp
    | succ k =>
      rw [List.getElem?_append_right (by omega), hl, show (k + 1) * 2 + j - 2 = k * 2 + j by omega, ih k (by simpa using hk)]
      simp
theorem own_nodes {W : World} {B : Nat} {v : Value} {l : List Nd} (h : W.ownsRow B 54 2 v l.length (nds l)) : ∃ sa c, v = .slice sa l.length c ∧ NodesAt W sa l := by
  rcases h.2 with ⟨hv, h0⟩ | ⟨g, cap, cur, hv, hb, hg, hn, hm, hsz, ht⟩
  · have : l = [] := List.eq_nil_of_length_eq_zero h0
    subst this
    exact ⟨none, 0, hv, ⟨fun k hk => by simp at hk⟩⟩
  · refine ⟨_, _, hv, ⟨fun k hk => ⟨g, 0, rfl, (Array.getElem?_eq_some_iff.1 hg).1, ?_, ?_⟩⟩⟩
    all_goals rw [cell_row hg]
    all_goals
      have one : ∀ j, j < 2 → cur[0 + k * 2 + j]? = (nd l[k])[j]? := fun j hj => by
        rw [Nat.zero_add, ← nds_at l k j hk hj, ← ht, List.getElem?_take_of_lt (by omega)]; simp
    · exact one 0 (by omega)
    · exact one 1 (by omega)

set_option maxHeartbeats 1000000 in
set_option maxRecDepth 100000 in
theorem same_true (l : List Nd) (sa sb : Option Addr) (ca cb : Nat) (w : World) (hl : l.length ≤ 8796093022208) (ha : NodesAt w sa l) (hb : NodesAt w sb l) :
    Calls Tryd.prog 23 #[.slice sa l.length ca, .slice sb l.length cb] w fun e w' => e = .returned (.bool true) ∧ Below w.heap.size w w' := by
  have HA := hid ha
  have HB := hid hb
  clear ha hb
  go_enter Tryd.func23, Tryd.ntmps23
  go_wp2
  go_loopw [5] (fun iv W => ∃ k : Nat, k ≤ l.length ∧ iv = .int .i64 (k : Int) ∧ Hid (Below w.heap.size w W)) (fun iv _ => l.length - (intOf iv).toNat)
  case atStart => exact ⟨0, Nat.zero_le _, rfl, Below.refl _ _⟩
  case round =>
    obtain ⟨k, hk, rfl, HW⟩ := hrel
    by_cases hlt : k < l.length
    · obtain ⟨ga, oa, rfl, hga, a0, a1⟩ := HA.out.at_ k hlt
      obtain ⟨gb, ob, rfl, hgb, b0, b1⟩ := HB.out.at_ k hlt
      have p0 := below_cell HW.out hga a0
      have p1 := below_cell HW.out hga a1
      have q0 := below_cell HW.out hgb b0
      have q1 := below_cell HW.out hgb b1
      clear a0 a1 b0 b1
      obtain ⟨x, hx⟩ : ∃ x, x = l[k].1 := ⟨_, rfl⟩
      obtain ⟨y, hy⟩ : ∃ y, y = l[k].2 := ⟨_, rfl⟩
      rw [← hx] at p0 q0
      rw [← hy] at p1 q1
      clear hx hy
      go_wp2
      go_quiet (fail)
      go_wp2
      exact ⟨⟨k + 1, hlt, by go_num, below_drewN HW.out _⟩, by simp [intOf]; omega⟩
    · go_wp2
      go_ret
      exact ⟨rfl, HW.out⟩

theorem nds_none (w : World) : NodesAt w none [] := ⟨fun k hk => by simp at hk⟩

/-- reading answers this. -/
theorem ParsedF.shape {l : List UInt8} {base : Nat} {e : Ending} {w' : World} (h : ParsedF l base e w') : ∃ (L : List Nd) (f0 f1 f2 : Int), L.length ≤ 1048577 ∧ (∃ sa ca, e = .returned (.tuple #[.slice sa L.length ca, .agg #[.int .i64 f0, .int .i64 f1, .int .i64 f2]]) ∧ NodesAt w' sa L) ∧
    ∀ (b2 : Nat) (e2 : Ending) (w2 : World), ParsedF l b2 e2 w2 → ∃ sa ca, e2 = .returned (.tuple #[.slice sa L.length ca, .agg #[.int .i64 f0, .int .i64 f1, .int .i64 f2]]) ∧ NodesAt w2 sa L := by
  unfold ParsedF at h ⊢
  split at h
  · next f hf =>
    have hfo : ∃ f0 f1 f2 : Int, faultF l f = .agg #[.int .i64 f0, .int .i64 f1, .int .i64 f2] := by
      unfold faultF
      split <;> exact ⟨_, _, _, rfl⟩
    obtain ⟨f0, f1, f2, e0⟩ := hfo
    rw [e0] at h ⊢
    exact ⟨[], f0, f1, f2, by simp, ⟨none, 0, h, nds_none _⟩, fun _ _ _ h2 => ⟨none, 0, h2, nds_none _⟩⟩
  · next o ho =>
    obtain ⟨v, he, hown⟩ := h
    obtain ⟨sa, ca, rfl, hat⟩ := own_nodes hown
    refine ⟨o, 0, 0, 0, parseF_len ho, ⟨sa, ca, he, hat⟩, ?_⟩
    rintro _ _ _ ⟨v2, he2, hown2⟩
    obtain ⟨sb, cb, rfl, hbt⟩ := own_nodes hown2
    exact ⟨sb, cb, he2, hbt⟩

/-- the document's own Parse, whatever the text. -/
theorem parse_own (s : ByteArray) (w : World) (g o c : Nat) (hsg : SignsAt w g o c) (hs : s.size ≤ 9223372036854775807) : Calls Tryd.prog 22 #[.string s] w fun e w' => ParsedF s.data.toList w.heap.size e w' ∧ Below w.heap.size w w' := by
  by_cases h : s.size ≤ 1048576
  · exact parse_short s w g o c hsg h
  · exact parse_long s w hs (by omega)

set_option maxHeartbeats 1000000 in
set_option maxRecDepth 100000 in
theorem reads_law (s : ByteArray) (w : World) (g o c : Nat) (hsg : SignsAt w g o c) (hs : s.size ≤ 9223372036854775807)
    (hP : Calls Tryd.prog 21 #[.string s] w fun e w' => ParsedF s.data.toList w.heap.size e w' ∧ Below w.heap.size w w') :
    Calls Tryd.prog 6 #[.string s] w fun e w' => e = .returned (.bool true) ∧ Below w.heap.size w w' := by
  have HP := hid hP
  have HQ := hid (fun (W : World) (hW : Below w.heap.size w W) => parse_own s W g o c (hsg.below hW) hs)
  clear hP hs hsg
  go_enter Tryd.func6, Tryd.ntmps6
  go_wp2_with fail
  refine HP.out.mono ?_
  rintro e w1 ⟨hp, b1⟩
  obtain ⟨L, f0, f1, f2, hL, ⟨sa, ca, rfl, i1⟩, hsame⟩ := hp.shape
  obtain ⟨WB, hWB⟩ : ∃ WB, WB = w1.alloc (Obj.cells #[.int .i64 f0, .int .i64 f1, .int .i64 f2] 33) := ⟨_, rfl⟩
  have tB : Below w1.heap.size w1 WB := by rw [hWB]; exact (Below.refl _ _).alloc (Nat.le_refl _) _
  have r0 : WB.heap[w1.heap.size]? = some (.cells #[.int .i64 f0, .int .i64 f1, .int .i64 f2] 33 (0, 0)) := by rw [hWB]; exact heap_alloc_new w1 _
  have I1 := hid (i1.below tB)
  have HSAME := hid hsame
  have HB2 := hid (b1.trans (tB.mono b1.size))
  have HR0 := hid r0
  have HWB := hid hWB
  clear hp hsame i1 b1 tB r0 hWB HP
  go_wp2_with (rw [← HWB.out])
  refine (HQ.out WB HB2.out).mono ?_
  rintro e w2 ⟨hp, b2⟩
  obtain ⟨sb, cb, rfl, j1⟩ := HSAME.out _ _ _ hp
  obtain ⟨WC, hWC⟩ : ∃ WC, WC = w2.alloc (Obj.cells #[.int .i64 f0, .int .i64 f1, .int .i64 f2] 33) := ⟨_, rfl⟩
  have tC : Below w2.heap.size w2 WC := by rw [hWC]; exact (Below.refl _ _).alloc (Nat.le_refl _) _
  have q0 : WC.heap[w2.heap.size]? = some (.cells #[.int .i64 f0, .int .i64 f1, .int .i64 f2] 33 (0, 0)) := by rw [hWC]; exact heap_alloc_new w2 _
  have tBC : Below WB.heap.size WB WC := b2.trans (tC.mono b2.size)
  have p0 := (tBC.block _ (Array.getElem?_eq_some_iff.1 HR0.out).1).trans HR0.out
  have k0 := fun j => cell_row p0 j
  have k1 := fun j => cell_row q0 j
  have HS := hid (same_true L sa sb ca cb WC (by omega) (I1.out.below tBC) (j1.below tC))
  have HB3 := hid (HB2.out.trans (tBC.mono HB2.out.size))
  have HWC := hid hWC
  clear hp b2 j1 hWC tC q0 tBC p0 HQ HSAME
  go_wp2_with (rw [← HWC.out])
  refine HS.out.mono ?_
  rintro e w3 ⟨rfl, b3⟩
  have HB4 := hid (HB3.out.trans (b3.mono HB3.out.size))
  go_wp2
  go_ret
  exact ⟨rfl, HB4.out⟩
end Go.Proofs.YtdkboifpdodonaaDoor.Doc
/-
  The table of signs, as the row's list gives it.
-/
namespace Go.Proofs.YtdkboifpdodonaaDoor.Doc
open Go.RowKit Go.Deep PureCnf PureForm
set_option maxRecDepth 100000

theorem cells9 : Tryd.prog.cellsOf 9 = 1 := by kernel_rfl
theorem cells3 : Tryd.prog.cellsOf 3 = 1 := by kernel_rfl
theorem cells88 : Tryd.prog.cellsOf 130 = 3 := by kernel_rfl

/-- a spelling as data. -/
def signD (x : List UInt8 × Nat × Nat) : DataW Unit := .agg [.lit (.string x.1), .lit (.int .i64 (x.2.1 : Int)), .lit (.int .i64 (x.2.2 : Int))]

theorem add_off (g o k : Nat) : (⟨g, o, none⟩ : Addr).add k = ⟨g, o + k, none⟩ := by
  unfold Addr.add
  split <;> simp_all

set_option maxRecDepth 100000 in
theorem laid_table {W : World} {fuel : Nat} {cs : List Value} {p : List MemPlace} (h : DataW.trod (fun _ => ()) Tryd.prog W 0 (fun _ => true) false fuel 129 cs = some (.slice (signs.map signD) [], p)) :
    ∃ g o cap, cs = [.slice (some ⟨g, o, none⟩) 21 cap] ∧ g < W.heap.size ∧ ∀ k, k < 21 → W.cell? ⟨g, o + k * 3, none⟩ = some (str (sg k).1) ∧ W.cell? ⟨g, o + k * 3 + 1, none⟩ = some (.int .i64 (sg k).2.1) ∧ W.cell? ⟨g, o + k * 3 + 2, none⟩ = some (.int .i64 (sg k).2.2) := by
  rcases DataW.trod_slice Tryd.underlying129 h with ⟨_, h0⟩ | ⟨a, len, cap, elems, rest, n, _, rfl, hx, _, _, _, hlen, hel, _, _⟩
  · simp at h0
  · simp only [Prod.mk.injEq, DataW.slice.injEq] at hx
    obtain ⟨⟨hmap, _⟩, _⟩ := hx
    have hl : len = 21 := by
      have := congrArg List.length hmap
      simp [signs] at this
      omega
    rw [hl] at hel
    have each : ∀ k, k < 21 → W.cell? (a.add (k * 3 + 0)) = some (str (sg k).1) ∧ W.cell? (a.add (k * 3 + 1)) = some (.int .i64 (sg k).2.1) ∧ W.cell? (a.add (k * 3 + 2)) = some (.int .i64 (sg k).2.2) := by
      intro k hk
      have hk2 : k < elems.length := by omega
      have hy := hel k hk
      rw [List.getElem?_eq_getElem hk2, cells88, Option.bind_eq_some_iff] at hy
      obtain ⟨cs, hcs, ht⟩ := hy
      have hd : elems[k].1 = signD (sg k) := by
        have := congrArg (fun l => l[k]?) hmap
        simp only [List.getElem?_map, List.getElem?_eq_getElem hk2, List.getElem?_eq_getElem (show k < signs.length from hk), Option.map_some, Option.some.injEq] at this
        rw [← this, sg]
        simp [List.getD, List.getElem?_eq_getElem (show k < signs.length from hk)]
      obtain ⟨y0, y1, y2, m, hxe, hcl, t0, t1, t2⟩ := trod_struct3 Tryd.underlying130 ht
      rw [hxe] at hd
      simp only [signD, DataW.agg.injEq, List.cons.injEq, and_true] at hd
      obtain ⟨e0, e1, e2⟩ := hd
      obtain ⟨_, hcl3, hcell⟩ := World.cells?_some hcs
      match cs, hcl3 with
      | [v0, v1, v2], _ =>
        rw [cells9] at t0
        rw [cells3] at t1 t2
        obtain ⟨z0, hz0, rfl, _⟩ := DataW.trod_string Tryd.underlying9 t0
        obtain ⟨z1, hz1, rfl, _⟩ := DataW.trod_int Tryd.underlying3 t1
        obtain ⟨z2, hz2, rfl, _⟩ := DataW.trod_int Tryd.underlying3 t2
        simp at hz0 hz1 hz2 e0 e1 e2
        subst hz0 hz1 hz2
        have g0 := hcell 0 (by omega)
        have g1 := hcell 1 (by omega)
        have g2 := hcell 2 (by omega)
        rw [Addr.add_add] at g0 g1 g2
        have hz : z0 = ⟨(sg k).1.toArray⟩ := by
          apply ByteArray.ext
          apply Array.ext'
          simpa using e0
        rw [hz] at g0
        rw [e1] at g1
        rw [e2] at g2
        exact ⟨g0, g1, g2⟩
    obtain ⟨g, o, sp⟩ := a
    have hsp : sp = none := by
      have h0 := (each 0 (by omega)).1
      rw [show (⟨g, o, sp⟩ : Addr).add (0 * 3 + 0) = ⟨g, o, sp⟩ by simp [Addr.add]] at h0
      exact World.cell?_spot h0
    subst hsp
    refine ⟨g, o, cap, by rw [hl], ?_, fun k hk => ?_⟩
    · have := World.block_lt_of_cell? W _ (each 0 (by omega)).1
      rwa [add_block] at this
    · obtain ⟨a0, a1, a2⟩ := each k hk
      rw [add_off] at a0 a1 a2
      exact ⟨a0, a1, a2⟩

/-- the table, where the row's list has it. -/
theorem signs_of_laid {W : World} {r : List (String × DataW Unit)} {ps : List MemPlace} (h : DataW.LaidVars Tryd.prog W (("strata/strataref13.signs", .slice (signs.map signD) []) :: r) ps) : ∃ g o c, SignsAt W g o c := by
  obtain ⟨g, t, cs, f, p, q, hg0, ht0, hv0, hd0, _, _⟩ := h
  have hg : Tryd.prog.globalNamed "strata/strataref13.signs" = some 0 := by kernel_rfl
  obtain rfl := Option.some.inj (hg.symm.trans hg0)
  have ht : (Tryd.prog.globals[0]?).map (·.type) = some 129 := by kernel_rfl
  obtain rfl := Option.some.inj (ht.symm.trans ht0)
  obtain ⟨l0⟩ := cs
  obtain ⟨g, o, cap, hcs, hlt, hat⟩ := laid_table hd0
  have hcs' : l0 = [.slice (some ⟨g, o, none⟩) 21 cap] := hcs
  subst hcs'
  have hc : W.cell? ⟨0, 0, none⟩ = some (.slice (some ⟨g, o, none⟩) 21 cap) := by simpa using World.var?_cell hg0 hv0 0
  exact ⟨g, o, cap, hlt, World.block_lt_of_cell? W _ hc, hc, hat⟩
theorem laid_is : (Rows.laid_strata_strataref13_signs : DataW Unit) = .slice (signs.map signD) [] := by rfl
end Go.Proofs.YtdkboifpdodonaaDoor.Doc
/-
  FormulaReads: the row and its card.
-/
namespace Go.Proofs.YtdkboifpdodonaaDoor
open Go.ChangeShapes Go.WideShapes Go.ChangeAt Go.RowKit Go.Deep PureCnf PureForm

theorem parsed_doc {l : List UInt8} {base : Nat} {e : Ending} {w' : World} (h : ParsedP l base e w') : Doc.ParsedF l base e w' := by
  unfold ParsedP at h
  unfold Doc.ParsedF
  cases hp : parseF l with
  | error f => rw [hp] at h; exact h
  | ok o => rw [hp] at h; exact h
set_option maxRecDepth 100000 in
theorem first_is : (Rows.laid_unicode_utf8_first : DataW Unit) = Lib.firstData := by kernel_rfl
set_option maxRecDepth 100000 in
theorem accept_is : (Rows.laid_unicode_utf8_acceptRanges : DataW Unit) = Lib.acceptData := by kernel_rfl
set_option maxRecDepth 100000 in
theorem u8extra : U8Extra Tryd.prog Tryd.lays197_ren := ⟨by kernel_rfl, by kernel_rfl, by kernel_rfl, by kernel_rfl, by kernel_rfl, by kernel_rfl, by kernel_rfl⟩
theorem signs_met {W : World} (h0 : laidMetH Tryd.prog Rows.formulaReadsRow.laid W) : ∃ g o c, Doc.SignsAt W g o c := by
  have h : laidMet Tryd.prog [("strata/strataref13.signs", Rows.laid_strata_strataref13_signs), ("unicode/utf8.acceptRanges", Rows.laid_unicode_utf8_acceptRanges), ("unicode/utf8.first", Rows.laid_unicode_utf8_first)] W := h0
  obtain ⟨ps, hl, _⟩ := h
  rw [Doc.laid_is] at hl
  exact Doc.signs_of_laid hl
theorem tabs_met {W : World} (h0 : laidMetH Tryd.prog Rows.formulaReadsRow.laid W) : Lib.Utf8Tabs 3 4 W := by
  have h : laidMet Tryd.prog [("strata/strataref13.signs", Rows.laid_strata_strataref13_signs), ("unicode/utf8.acceptRanges", Rows.laid_unicode_utf8_acceptRanges), ("unicode/utf8.first", Rows.laid_unicode_utf8_first)] W := h0
  obtain ⟨ps, hl, _⟩ := h
  have h3 := Lib.LaidVars_reads hl "unicode/utf8.first" Rows.laid_unicode_utf8_first (by simp)
  have h4 := Lib.LaidVars_reads hl "unicode/utf8.acceptRanges" Rows.laid_unicode_utf8_acceptRanges (by simp)
  rw [first_is] at h3
  rw [accept_is] at h4
  exact utf8Tabs_of_reads (P := Tryd.prog) (ρ := Tryd.lays197_ren) { Tryd.lays197 with } u8extra h3 h4

set_option maxRecDepth 100000 in
theorem formulaReads_contract (H : Type) (enc : TypeId × Value → H) (W : World) (base : Nat) (args : Array Value) (ds gs : List (DataW H)) (before : List MemPlace)
    (hval : ∀ (j : Nat) t v, Tryd.f6.params[j]? = some t → args[j]? = some v → Value.okWide Tryd.prog W .any base t v)
    (hW : DataW.Whole enc Tryd.prog Tryd.f6.params.toList Rows.formulaReadsSpec.vars false W args.toList ds gs before)
    (hsz0 : (DataW.weightsEach Tryd.prog (Tryd.f6.params.toList ++ (OpenSpec.ofChange Rows.formulaReadsSpec).bare.plain.varTypes Tryd.prog) (ds ++ gs)).all (· ≤ reachBytes) = true) (hL : laidMetH Tryd.prog Rows.formulaReadsRow.laid W) :
    Calls Tryd.prog 6 args W fun e W' => ∃ v, e = .returned v ∧ Rows.formulaReadsSpec.post enc Tryd.prog Tryd.f6 false true false false W args v W' := by
  have hsz := hsz0
  clear hsz0
  have hW' := hW
  obtain ⟨p, q, hA0, hV, rfl, hfz, hnd⟩ := hW
  have hA : DataW.TrodAll enc Tryd.prog W 0 (fun _ => true) true Tryd.f6.params.toList args.toList ds p := hA0
  rw [Tryd.params6] at hA hval hsz
  obtain ⟨v0, vs0, d0, ds0, p0, q0, hargs0, rfl, rfl, h0, r0⟩ := trodAll_cons hA
  obtain ⟨rfl, rfl, rfl⟩ := trodAll_nil r0
  obtain rfl : args = #[v0] := by cases args; simp_all
  obtain ⟨rfl, rfl⟩ := trodVars_none hV
  clear hA0
  simp only [List.append_nil] at hW'
  have hlt0 : ∀ x ∈ p0, x.block < W.heap.size := fun x hx => by simpa using hW'.lt x (by simp [hx])
  obtain ⟨s0, rfl, rfl, rfl, hs0⟩ := Go.ChangeMaps.open_string Tryd.underlying9 (hval 0 9 v0 rfl rfl) h0
  have hz0 : s0.size ≤ 140737488351232 := by
    have hr : reachBytes = 140737488351232 := by decide
    have h2 := List.all_eq_true.1 hsz _ (DataW.weights_mem_each (j := 0) rfl rfl s0.size (by simp [DataW.weights]))
    have h3 : s0.size ≤ reachBytes := by simpa using h2
    omega
  obtain ⟨g, o, c, hsg⟩ := signs_met hL
  refine (Doc.reads_law s0 W g o c hsg (by omega) ((parse_landed s0 W (by omega) (tabs_met hL)).mono fun e W' h => ⟨parsed_doc h.1, h.2⟩)).mono fun e W' ⟨he, hnx⟩ => ?_
  subst he
  refine ⟨_, rfl, _, _, _, [], _, [], hW', ?_, trodAll_mk1 (Below.trod laidOut (by kernel_rfl) (of_decide_eq_true (by kernel_rfl)) h0 hnx hlt0), rfl, hnx.frame _, fun h => by cases h⟩
  exact trodAll_mk1 (shut_bool Tryd.underlying4 _)

set_option maxRecDepth 100000 in
theorem formulaReads_lifted (os : Os) (started : os.Started) (H : Type) (enc : TypeId × Value → H) (F : Stop.Interp) :
    ReturnsInHanded {} Tryd.checked os 6 .any ((OpenSpec.ofChange Rows.formulaReadsSpec).preRow enc Tryd.prog Tryd.f6 Rows.formulaReadsRow.domain false Rows.formulaReadsRow.laid) (((OpenSpec.ofChange Rows.formulaReadsSpec).at F).post enc Tryd.prog Tryd.f6 false true false false) := by
  obtain ⟨lw, hlw⟩ : ∃ lw : World, lw = (fun w0 : World => { w0 with heap := (((w0.heap.modify 0 fun
      | .cells _ t frozen => .cells #[.slice (some ⟨(World.holding Tryd.prog default ⟨#[], #[], []⟩).heap.size + 0, 0, none⟩) 21 21] t frozen
      | o => o).modify 3 fun
      | .cells _ t frozen => .cells ((List.range 256).map fun c => Value.int .u8 (Lib.firstT c)).toArray t frozen
      | o => o).modify 4 fun
      | .cells _ t frozen => .cells ((List.range 16).flatMap fun i => [Value.int .u8 (Lib.accLo i), Value.int .u8 (Lib.accHi i)]).toArray t frozen
      | o => o) }) (World.holding Tryd.prog os ⟨#[.cells #[.string ⟨#[60, 45, 62]⟩, .int .i64 7, .int .i64 10, .string ⟨#[45, 62]⟩, .int .i64 7, .int .i64 9, .string ⟨#[33]⟩, .int .i64 4, .int .i64 0, .string ⟨#[126]⟩, .int .i64 4, .int .i64 0, .string ⟨#[38]⟩, .int .i64 7, .int .i64 6, .string ⟨#[124]⟩, .int .i64 7, .int .i64 7, .string ⟨#[94]⟩, .int .i64 7, .int .i64 8, .string ⟨#[40]⟩, .int .i64 8, .int .i64 0, .string ⟨#[41]⟩, .int .i64 9, .int .i64 0, .string ⟨#[44]⟩, .int .i64 10, .int .i64 0, .string ⟨#[58]⟩, .int .i64 11, .int .i64 0, .string ⟨#[194, 172]⟩, .int .i64 4, .int .i64 0, .string ⟨#[226, 136, 167]⟩, .int .i64 7, .int .i64 6, .string ⟨#[226, 136, 168]⟩, .int .i64 7, .int .i64 7, .string ⟨#[226, 138, 149]⟩, .int .i64 7, .int .i64 8, .string ⟨#[226, 134, 146]⟩, .int .i64 7, .int .i64 9, .string ⟨#[226, 134, 148]⟩, .int .i64 7, .int .i64 10, .string ⟨#[226, 136, 131]⟩, .int .i64 5, .int .i64 4, .string ⟨#[226, 136, 128]⟩, .int .i64 5, .int .i64 5, .string ⟨#[226, 138, 164]⟩, .int .i64 2, .int .i64 1, .string ⟨#[226, 138, 165]⟩, .int .i64 2, .int .i64 0] 130], #[], []⟩) := ⟨_, rfl⟩
  have hos : lw.os = os := by rw [hlw]; rfl
  have hv : (lw.forCall (fun _ _ => 0) ⟨#[], #[.string ⟨#[]⟩], []⟩).variablesRefB Tryd.checked.prog = true := by rw [hlw]; kernel_rfl
  have hr : ((lw.forCall (fun _ _ => 0) ⟨#[], #[.string ⟨#[]⟩], []⟩).heap.toList.drop Tryd.checked.prog.globals.size).take ((begin Tryd.checked.prog (fun _ _ => 0) default).world.heap.size - Tryd.checked.prog.globals.size) = (begin Tryd.checked.prog (fun _ _ => 0) default).world.heap.toList.drop Tryd.checked.prog.globals.size := by rw [hlw]; kernel_rfl
  have hok : Input.okWideB Tryd.checked.prog (lw.forCall (fun _ _ => 0) ⟨#[], #[.string ⟨#[]⟩], []⟩) 6 ⟨#[], #[.string ⟨#[]⟩], []⟩ = true := by rw [hlw]; kernel_rfl
  have hx : DataW.whole enc Tryd.prog (lw.forCall (fun _ _ => 0) ⟨#[], #[.string ⟨#[]⟩], []⟩).memory Tryd.f6.params.toList Rows.formulaReadsSpec.vars false #[Value.string ⟨#[]⟩].toList 8 = some ([.lit (.string [])], [], []) := by rw [hlw]; kernel_rfl
  have hlm : laidMet Tryd.prog Rows.formulaReadsRow.laid (lw.forCall (fun _ _ => 0) ⟨#[], #[.string ⟨#[]⟩], []⟩).memory := by rw [hlw]; exact laidMet_of_run' 8 (by kernel_rfl) (by kernel_rfl)
  clear hlw
  refine returnsInHanded_of_row (C := Tryd.checked) (s := OpenSpec.ofChange Rows.formulaReadsSpec) own started (by kernel_rfl) Tryd.func6
    (witness_row_atRef (enc := enc) (C := Tryd.checked) false lw #[.string ⟨#[]⟩] hos hv hr hok
      (OpenSpec.preRow_of_cond 8 hx (by kernel_rfl) (fun k hk => by cases hk) (by kernel_rfl) hlm)) ?_
  intro W base args ds gs before hval hW _ _ hsz hL _ _
  exact formulaReads_contract H enc W base args ds gs before hval hW hsz hL

theorem formulaReads_said : Rows.FormulaReadsSaid :=
  OpenClaim.holds_of_cond 6 Tryd.f6 rfl rfl rfl rfl rfl rfl rfl ⟨rfl, rfl, rfl, rfl, rfl⟩ rfl rfl rfl rfl rfl (by kernel_rfl) Tryd.func6 (by kernel_rfl)
    (of_decide_eq_true (by kernel_rfl)) (by unfold Func.isWrapper; first | (rw [if_pos (by decide +kernel)]; kernel_rfl) | (rw [if_neg (by decide +kernel)]; exact ⟨rfl, rfl⟩))
    (fun os started H enc _ F => by rw [OpenClaim.pre_eq_preRow]; exact formulaReads_lifted os started H enc F)

/-- no parameter wants a stand-in. -/
theorem formulaReads_plain (f : FuncId) (fn : Func) (hf : Tryd.pinned.checked.prog.funcNamed "strata/stratalaw13.FormulaReads" = some f) (hfn : Tryd.pinned.checked.prog.funcs[f]? = some fn) :
    true = Tryd.pinned.checked.prog.looks [] ∧ ∀ (j : Nat) t, fn.params[j]? = some t → Tryd.pinned.checked.prog.wantsStandIn t = false := by
  obtain rfl : f = 6 := Option.some.inj ((show Tryd.prog.funcNamed "strata/stratalaw13.FormulaReads" = some 6 by kernel_rfl).symm.trans hf) |>.symm
  obtain rfl : fn = Tryd.f6 := (Option.some.inj (Tryd.func6.symm.trans hfn)).symm
  refine ⟨by kernel_rfl, fun j t ht => ?_⟩
  rw [Tryd.params6] at ht
  have hm : t = 9 := by
    have := Array.mem_of_getElem? ht
    simp at this
    omega
  subst hm
  exact (show Tryd.prog.wantsStandIn 9 = false by kernel_rfl)

theorem formulaReads_holds : Rows.FormulaReadsCardSaid :=
  Claim7.holds_tied_plain_at .later [] _ _ _ _ formulaReads_said (fun _ h => by cases h) (by kernel_rfl) (fun _ h => by cases h) formulaReads_row_tie rfl ⟨rfl, rfl⟩ (by kernel_rfl) rfl formulaReads_plain (by kernel_rfl)
#print axioms formulaReads_holds
end Go.Proofs.YtdkboifpdodonaaDoor
