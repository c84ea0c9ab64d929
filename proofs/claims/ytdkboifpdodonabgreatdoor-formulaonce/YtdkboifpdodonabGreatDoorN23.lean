import Derived.Test.YtdkboifpdodonabGreatDoorU22
set_option linter.unusedSimpArgs false
namespace PureForm
open PureCnf Go.Lib
set_option maxRecDepth 100000
theorem build_join {x : Nd} {st s : List Tr} (r : List Nd) (h : joinT x st = some s) : build (x :: r) st = build r s := by rw [build, h]; rfl
theorem build_lf {x : Nd} (h : (Tr.lf x).good) (r : List Nd) (st : List Tr) : build (x :: r) st = build r (.lf x :: st) := by
  obtain ⟨o, v⟩ := x
  rcases h with ⟨h1, h2⟩ | ⟨h1, h2, h3⟩
  · simp only at h1 h2
    subst h1
    refine build_join r ?_
    rw [joinT.eq_def, if_pos (by simp [nodeB, h2]), if_pos (.inl rfl)]
  · simp only at h1 h2 h3
    subst h1
    refine build_join r ?_
    rw [joinT.eq_def, if_pos (by simp [nodeB, h2, h3]), if_pos (.inr rfl)]
theorem build_un {x : Nd} {a : Tr} (h : (x.1 = 3 ∧ x.2 = 0) ∨ (isQ x.1 = true ∧ 0 ≤ x.2 ∧ x.2 < 65536)) (r : List Nd) (st : List Tr) : build (x :: r) (a :: st) = build r (.un x a :: st) := by
  obtain ⟨o, v⟩ := x
  simp only at h
  rcases h with ⟨rfl, rfl⟩ | ⟨h1, h2, h3⟩
  · refine build_join r ?_
    rw [joinT, if_pos (by simp [nodeB]), if_neg (by simp), if_pos (by simp)]
  · have h45 : o = 4 ∨ o = 5 := by simpa [isQ] using h1
    rcases h45 with rfl | rfl
    · refine build_join r ?_
      rw [joinT, if_pos (by simp [nodeB, h2, h3]), if_neg (by simp), if_pos (by simp)]
    · refine build_join r ?_
      rw [joinT, if_pos (by simp [nodeB, h2, h3]), if_neg (by simp), if_pos (by simp)]
theorem build_bi {x : Nd} {a b : Tr} (h : two x.1 = true ∧ x.2 = 0) (r : List Nd) (st : List Tr) : build (x :: r) (b :: a :: st) = build r (.bi x a b :: st) := by
  obtain ⟨o, v⟩ := x
  obtain ⟨h1, h2⟩ := h
  simp only at h1 h2
  subst h2
  rcases two_cases h1 with rfl | rfl | rfl | rfl | rfl <;> refine build_join r ?_ <;> rw [joinT, if_pos (by simp [nodeB]), if_neg (by simp), if_neg (by simp), if_pos (by simp)]
theorem build_te {x : Nd} {a b c : Tr} (h : x.1 = 11 ∧ x.2 = 0) (r : List Nd) (st : List Tr) : build (x :: r) (c :: b :: a :: st) = build r (.te x a b c :: st) := by
  obtain ⟨o, v⟩ := x
  obtain ⟨h1, h2⟩ := h
  simp only at h1 h2
  subst h1 h2
  refine build_join r ?_
  rw [joinT, if_pos (by simp [nodeB]), if_neg (by simp), if_neg (by simp), if_neg (by simp)]
theorem build_post (t : Tr) : t.good → ∀ (r : List Nd) (st : List Tr), build (t.post ++ r) st = build r (t :: st) := by
  induction t using Tr.ind with
  | lf x => intro h r st; exact build_lf h r st
  | un x a ih =>
    rintro ⟨hx, ha⟩ r st
    have ha : a.good := ha
    (first | rw [Tr.post_un, List.append_assoc, ih ha] | rw [Tr.post_bi, List.append_assoc, ih ha] | rw [Tr.post_te, List.append_assoc, ih ha] | rw [Tr.post_lf, List.append_assoc, ih ha])
    exact build_un hx r st
  | bi x a b iha ihb =>
    rintro ⟨hx, ha, hb⟩ r st
    have ha : a.good := ha
    have hb : b.good := hb
    (first | rw [Tr.post_un, List.append_assoc, List.append_assoc, iha ha, ihb hb] | rw [Tr.post_bi, List.append_assoc, List.append_assoc, iha ha, ihb hb] | rw [Tr.post_te, List.append_assoc, List.append_assoc, iha ha, ihb hb] | rw [Tr.post_lf, List.append_assoc, List.append_assoc, iha ha, ihb hb])
    exact build_bi hx r st
  | te x a b c iha ihb ihc =>
    rintro ⟨hx, ha, hb, hc⟩ r st
    have ha : a.good := ha
    have hb : b.good := hb
    have hc : c.good := hc
    (first | rw [Tr.post_un, List.append_assoc, List.append_assoc, List.append_assoc, iha ha, ihb hb, ihc hc] | rw [Tr.post_bi, List.append_assoc, List.append_assoc, List.append_assoc, iha ha, ihb hb, ihc hc] | rw [Tr.post_te, List.append_assoc, List.append_assoc, List.append_assoc, iha ha, ihb hb, ihc hc] | rw [Tr.post_lf, List.append_assoc, List.append_assoc, List.append_assoc, iha ha, ihb hb, ihc hc])
    exact build_te hx r st
theorem treeOf_post {t : Tr} (h : t.good) : treeOf t.post = some t := by
  have := build_post t h [] []
  rw [List.append_nil] at this
  unfold treeOf
  rw [this, build]
/-- P13.3. -/
def formedF (f : List Nd) : Bool := match treeOf f with
  | some t => decide (f.length ≤ 65536 ∧ t.need true ≤ 64)
  | none => false
theorem print_formed (f : List Nd) : formedF f = true ↔ printF f ≠ .error 134 := by
  unfold formedF printF
  cases treeOf f with
  | none => simp
  | some t =>
    by_cases h : f.length ≤ 65536 ∧ t.need true ≤ 64
    · simp only [if_pos h, decide_eq_true h, true_iff]
      split <;> simp
    · simp [if_neg h, decide_eq_false h]
end PureForm
namespace Go.Proofs.YtdkboifpdodonabGreatDoor.Doc
open Go.RowKit Go.Deep PureCnf PureForm
set_option maxRecDepth 100000
def FormedC (g : Nat) : Prop := ∀ (f : List Nd) (sa : Option Addr) (ca : Nat) (w : World), NodesAt w sa f → f.length ≤ 9223372036854775807 →
  Calls Tryz.prog g #[.slice sa f.length ca] w fun e w' => e = .returned (.bool (formedF f)) ∧ Below w.heap.size w w'
end Go.Proofs.YtdkboifpdodonabGreatDoor.Doc
namespace Go.Proofs.YtdkboifpdodonabGreatDoor.Doc
open Go.RowKit Go.Deep PureCnf PureForm
set_option maxRecDepth 100000
theorem printF_cases {f : List Nd} (h : formedF f = true) : printF f = .error 5 ∨ ∃ T, printF f = .ok T ∧ T.length ≤ 1048576 ∧ parseF T = .ok f := by
  have h1 := (print_formed f).1 h
  cases hp : printF f with
  | ok T =>
    refine .inr ⟨T, rfl, ?_, parse_print hp⟩
    unfold printF at hp
    split at hp
    · split at hp
      · split at hp
        · cases hp; assumption
        · cases hp
      · cases hp
    · cases hp
  | error n =>
    left
    rw [hp] at h1
    unfold printF at hp
    split at hp
    · split at hp
      · split at hp
        · cases hp
        · cases hp; rfl
      · cases hp; simp at h1
    · cases hp; simp at h1
end Go.Proofs.YtdkboifpdodonabGreatDoor.Doc
/-
  The table of signs, as the row's list gives it.
-/
namespace Go.Proofs.YtdkboifpdodonabGreatDoor.Ref
open Go.RowKit Go.Deep PureCnf PureForm
set_option maxRecDepth 100000

theorem cells9 : Tryz.prog.cellsOf 9 = 1 := by kernel_rfl
theorem cells3 : Tryz.prog.cellsOf 3 = 1 := by kernel_rfl
theorem cells88 : Tryz.prog.cellsOf 130 = 3 := by kernel_rfl

/-- a spelling as data. -/
def signD (x : List UInt8 × Nat × Nat) : DataW Unit := .agg [.lit (.string x.1), .lit (.int .i64 (x.2.1 : Int)), .lit (.int .i64 (x.2.2 : Int))]

theorem add_off (g o k : Nat) : (⟨g, o, none⟩ : Addr).add k = ⟨g, o + k, none⟩ := by
  unfold Addr.add
  split <;> simp_all

set_option maxRecDepth 100000 in
theorem laid_table {W : World} {fuel : Nat} {cs : List Value} {p : List MemPlace} (h : DataW.trod (fun _ => ()) Tryz.prog W 0 (fun _ => true) false fuel 129 cs = some (.slice (signs.map signD) [], p)) :
    ∃ g o cap, cs = [.slice (some ⟨g, o, none⟩) 21 cap] ∧ g < W.heap.size ∧ ∀ k, k < 21 → W.cell? ⟨g, o + k * 3, none⟩ = some (str (sg k).1) ∧ W.cell? ⟨g, o + k * 3 + 1, none⟩ = some (.int .i64 (sg k).2.1) ∧ W.cell? ⟨g, o + k * 3 + 2, none⟩ = some (.int .i64 (sg k).2.2) := by
  rcases DataW.trod_slice Tryz.underlying129 h with ⟨_, h0⟩ | ⟨a, len, cap, elems, rest, n, _, rfl, hx, _, _, _, hlen, hel, _, _⟩
  · simp at h0
  · simp only [Prod.mk.injEq, DataW.slice.injEq] at hx
    obtain ⟨⟨hmap, _⟩, _⟩ := hx
    have hl : len = 21 := by
      have := congrArg List.length hmap
      simp [signs] at this
      omega
    rw [hl] at hel
    have each : ∀ k, k < 21 → W.cell? (a.add (k * 3 + 0)) = some (str (sg k).1) ∧ W.cell? (a.add (k * 3 + 1)) = some (.int .i64 (sg k).2.1) ∧ W.cell? (a.add (k * 3 + 2)) = some (.int .i64 (sg k).2.2) := by
      intro k hk
      have hk2 : k < elems.length := by omega
      have hy := hel k hk
      rw [List.getElem?_eq_getElem hk2, cells88, Option.bind_eq_some_iff] at hy
      obtain ⟨cs, hcs, ht⟩ := hy
      have hd : elems[k].1 = signD (sg k) := by
        have := congrArg (fun l => l[k]?) hmap
        simp only [List.getElem?_map, List.getElem?_eq_getElem hk2, List.getElem?_eq_getElem (show k < signs.length from hk), Option.map_some, Option.some.injEq] at this
        rw [← this, sg]
        simp [List.getD, List.getElem?_eq_getElem (show k < signs.length from hk)]
      obtain ⟨y0, y1, y2, m, hxe, hcl, t0, t1, t2⟩ := trod_struct3 Tryz.underlying130 ht
      rw [hxe] at hd
      simp only [signD, DataW.agg.injEq, List.cons.injEq, and_true] at hd
      obtain ⟨e0, e1, e2⟩ := hd
      obtain ⟨_, hcl3, hcell⟩ := World.cells?_some hcs
      match cs, hcl3 with
      | [v0, v1, v2], _ =>
        rw [cells9] at t0
        rw [cells3] at t1 t2
        obtain ⟨z0, hz0, rfl, _⟩ := DataW.trod_string Tryz.underlying9 t0
        obtain ⟨z1, hz1, rfl, _⟩ := DataW.trod_int Tryz.underlying3 t1
        obtain ⟨z2, hz2, rfl, _⟩ := DataW.trod_int Tryz.underlying3 t2
        simp at hz0 hz1 hz2 e0 e1 e2
        subst hz0 hz1 hz2
        have g0 := hcell 0 (by omega)
        have g1 := hcell 1 (by omega)
        have g2 := hcell 2 (by omega)
        rw [Addr.add_add] at g0 g1 g2
        have hz : z0 = ⟨(sg k).1.toArray⟩ := by
          apply ByteArray.ext
          apply Array.ext'
          simpa using e0
        rw [hz] at g0
        rw [e1] at g1
        rw [e2] at g2
        exact ⟨g0, g1, g2⟩
    obtain ⟨g, o, sp⟩ := a
    have hsp : sp = none := by
      have h0 := (each 0 (by omega)).1
      rw [show (⟨g, o, sp⟩ : Addr).add (0 * 3 + 0) = ⟨g, o, sp⟩ by simp [Addr.add]] at h0
      exact World.cell?_spot h0
    subst hsp
    refine ⟨g, o, cap, by rw [hl], ?_, fun k hk => ?_⟩
    · have := World.block_lt_of_cell? W _ (each 0 (by omega)).1
      rwa [add_block] at this
    · obtain ⟨a0, a1, a2⟩ := each k hk
      rw [add_off] at a0 a1 a2
      exact ⟨a0, a1, a2⟩

theorem laid_is : (Rows.laid_strata_strataref13_signs : DataW Unit) = .slice (signs.map signD) [] := by rfl
end Go.Proofs.YtdkboifpdodonabGreatDoor.Ref
/-
  The rows of this seat: the table of signs, laid.
-/

namespace Go.Proofs.YtdkboifpdodonabGreatDoor
open Go.ChangeShapes Go.WideShapes Go.ChangeAt Go.RowKit Go.Deep PureCnf PureForm

set_option maxRecDepth 100000 in
theorem met6 {W : World} (h : laidMet Tryz.prog [("math/bits.deBruijn32tab", Rows.laid_math_bits_deBruijn32tab), ("math/bits.deBruijn64tab", Rows.laid_math_bits_deBruijn64tab), ("internal/strconv.uint64pow10", Rows.laid_internal_strconv_uint64pow10), ("strata/strataref13.signs", Rows.laid_strata_strataref13_signs), ("unicode/utf8.acceptRanges", Rows.laid_unicode_utf8_acceptRanges), ("unicode/utf8.first", Rows.laid_unicode_utf8_first)] W) : Met W := by
  obtain ⟨ps, hl, _⟩ := h
  have h3 := Lib.LaidVars_reads hl "unicode/utf8.first" Rows.laid_unicode_utf8_first (by simp)
  have h4 := Lib.LaidVars_reads hl "unicode/utf8.acceptRanges" Rows.laid_unicode_utf8_acceptRanges (by simp)
  have h5 := Lib.LaidVars_reads hl "internal/strconv.uint64pow10" Rows.laid_internal_strconv_uint64pow10 (by simp)
  rw [first_is] at h3
  rw [accept_is] at h4
  refine ⟨?_, utf8Tabs_of_reads (P := Tryz.prog) (ρ := Tryz.lays197_ren) { Tryz.lays197 with } u8extra h3 h4⟩
  obtain ⟨g', t', cs, fuel, p, hg', ht', hvar, hd⟩ := h5
  obtain rfl : 4 = g' := Option.some.inj ((show Tryz.prog.globalNamed "internal/strconv.uint64pow10" = some 4 by kernel_rfl).symm.trans hg')
  obtain rfl : 196 = t' := Option.some.inj ((show (Tryz.prog.globals[4]?).map (·.type) = some 196 by kernel_rfl).symm.trans ht')
  rw [pow10_is] at hd
  unfold Tab Lib.TabIs
  rw [hvar, ← Lib.cells_of_tab Tryz.underlying196 (by exact Tryz.underlying189) (by kernel_rfl) (by kernel_rfl) hd]

set_option maxRecDepth 100000 in
theorem signs6 {W : World} (h : laidMet Tryz.prog [("math/bits.deBruijn32tab", Rows.laid_math_bits_deBruijn32tab), ("math/bits.deBruijn64tab", Rows.laid_math_bits_deBruijn64tab), ("internal/strconv.uint64pow10", Rows.laid_internal_strconv_uint64pow10), ("strata/strataref13.signs", Rows.laid_strata_strataref13_signs), ("unicode/utf8.acceptRanges", Rows.laid_unicode_utf8_acceptRanges), ("unicode/utf8.first", Rows.laid_unicode_utf8_first)] W) : ∃ g o c, Ref.SignsAt W g o c := by
  obtain ⟨ps, hl, _⟩ := h
  have h3 := Lib.LaidVars_reads hl "strata/strataref13.signs" Rows.laid_strata_strataref13_signs (by simp)
  rw [Ref.laid_is] at h3
  obtain ⟨g0, t0, cs, fuel, p, hg0, ht0, hv0, hd0⟩ := h3
  have hg : Tryz.prog.globalNamed "strata/strataref13.signs" = some 0 := by kernel_rfl
  obtain rfl := Option.some.inj (hg.symm.trans hg0)
  have ht : (Tryz.prog.globals[0]?).map (·.type) = some 129 := by kernel_rfl
  obtain rfl := Option.some.inj (ht.symm.trans ht0)
  obtain ⟨l0⟩ := cs
  obtain ⟨g, o, cap, hcs, hlt, hat⟩ := Ref.laid_table hd0
  have hcs' : l0 = [.slice (some ⟨g, o, none⟩) 21 cap] := hcs
  subst hcs'
  have hc : W.cell? ⟨0, 0, none⟩ = some (.slice (some ⟨g, o, none⟩) 21 cap) := by simpa using World.var?_cell hg0 hv0 0
  exact ⟨g, o, cap, hlt, World.block_lt_of_cell? W _ hc, hc, hat⟩
end Go.Proofs.YtdkboifpdodonabGreatDoor
/-
  The landed program's Formed.
-/
namespace Go.Proofs.YtdkboifpdodonabGreatDoor
open Go.RowKit Go.Deep PureCnf PureForm
set_option maxRecDepth 100000

theorem grow_form (f : List Nd) : ∃ v, growV f = .tuple #[v, .bool (formedF f)] ∧ (v = .nilIface ∨ ∃ k u, v = .iface k u) := by
  unfold growV formedF
  cases treeOf f with
  | none => exact ⟨_, rfl, .inl rfl⟩
  | some t =>
    by_cases h : f.length ≤ 65536 ∧ t.need true ≤ 64
    · simp only [if_pos h, decide_eq_true h]
      exact ⟨_, rfl, .inr (tv_form t)⟩
    · simp only [if_neg h, decide_eq_false h]
      exact ⟨_, rfl, .inl rfl⟩
set_option maxHeartbeats 1000000 in
theorem formed15 : Doc.FormedC 24 := by
  intro f sa ca w hf hl
  have HG := hid (grow_any f sa ca w hf hl)
  obtain ⟨v, e, hv⟩ := grow_form f
  rw [e] at HG
  clear hf e
  rcases hv with rfl | ⟨k, u, rfl⟩
  all_goals
    go_enter Tryz.func24, Tryz.ntmps24
    go_wp2_with (go_at_call 26; refine HG.out.mono ?_; rintro e w1 ⟨rfl, b1⟩; have B1 := hid b1; clear b1)
    go_ret
    exact ⟨rfl, B1.out⟩
theorem NodesAt.far {W : World} {sa : Option Addr} {l : List Nd} (h : NodesAt W sa l) {x i : Nat} {u : Value} (hx : ∀ g o, sa = some ⟨g, o, none⟩ → x ≠ g) : NodesAt (W.setCell ⟨x, i, none⟩ u) sa l := ⟨fun k hk => by
  obtain ⟨g, o, e, hg, c0, c1⟩ := h.at_ k hk
  have hne := hx g o e
  exact ⟨g, o, e, by simpa [World.setCell] using hg, by rw [World.cell?_setCell_far _ _ _ _ hne]; exact c0, by rw [World.cell?_setCell_far _ _ _ _ hne]; exact c1⟩⟩
end Go.Proofs.YtdkboifpdodonabGreatDoor
/-
  What is read is formed: plain mathematics.
-/
namespace PureForm
open PureCnf Go.Lib

/-- how many are open within an operand. -/
def cost (br last : Bool) (t : Tr) : Nat := wrapN (brk br last t.root.1) (t.need (brk br last t.root.1 || last))

theorem cost_brk {br last : Bool} {t : Tr} (h : brk br last t.root.1 = true) : cost br last t = t.need true + 1 := by
  unfold cost; rw [h]; rfl
theorem cost_not {br last : Bool} {t : Tr} (h : brk br last t.root.1 = false) : cost br last t = t.need last := by
  unfold cost; rw [h]; simp [wrapN]
theorem need_bi (x : Nd) (a b : Tr) (last : Bool) : (Tr.bi x a b).need last = max (cost (firstB x.1 a.root.1) false a) (cost (secondB x.1 b.root.1) last b) := rfl
theorem need_not {x : Nd} (h : isQ x.1 = false) (a : Tr) (last : Bool) : (Tr.un x a).need last = cost (two a.root.1) last a + 1 := by
  (first | rw [Tr.need_un, if_neg (by rw [h]; decide)] | rw [Tr.need_bi, if_neg (by rw [h]; decide)] | rw [Tr.need_te, if_neg (by rw [h]; decide)] | rw [Tr.need_lf, if_neg (by rw [h]; decide)]); rfl
theorem need_qu {x : Nd} (h : isQ x.1 = true) (a : Tr) (last : Bool) : (Tr.un x a).need last = a.need true + 1 := by
  (first | rw [Tr.need_un, if_pos h] | rw [Tr.need_bi, if_pos h] | rw [Tr.need_te, if_pos h] | rw [Tr.need_lf, if_pos h])
theorem isQ_two {o : Int} (h : two o = true) : isQ o = false := by
  rcases two_cases h with rfl | rfl | rfl | rfl | rfl <;> rfl
theorem brk_two {br last : Bool} {o : Int} (h : isQ o = false) : brk br last o = br := by simp [brk, h]

theorem need_false (t : Tr) : t.need false ≤ t.need true + 1 := by
  induction t using Tr.ind with
  | lf x => simp [Tr.need_lf, Tr.need_un, Tr.need_bi, Tr.need_te]
  | un x a ih =>
    cases hq : isQ x.1 with
    | true => rw [need_qu hq, need_qu hq]; omega
    | false =>
      rw [need_not hq, need_not hq]
      have : cost (two a.root.1) false a ≤ cost (two a.root.1) true a + 1 := by
        cases h2 : two a.root.1 with
        | true => rw [cost_brk (by simp [brk]), cost_brk (by simp [brk])]; omega
        | false =>
          rw [cost_not (br := false) (last := true) (by simp [brk])]
          cases hr : isQ a.root.1 with
          | true => rw [cost_brk (by simp [brk, hr])]; omega
          | false => rw [cost_not (by simp [brk, hr])]; exact ih
      omega
  | bi x a b iha ihb =>
    rw [need_bi, need_bi]
    have : cost (secondB x.1 b.root.1) false b ≤ cost (secondB x.1 b.root.1) true b + 1 := by
      cases h2 : secondB x.1 b.root.1 with
      | true => rw [cost_brk (by simp [brk]), cost_brk (by simp [brk])]; omega
      | false =>
        rw [cost_not (br := false) (last := true) (by simp [brk])]
        cases hr : isQ b.root.1 with
        | true => rw [cost_brk (by simp [brk, hr])]; omega
        | false => rw [cost_not (by simp [brk, hr])]; exact ihb
    omega
  | te x a b c => simp [Tr.need_lf, Tr.need_un, Tr.need_bi, Tr.need_te]
/-- what came in brackets. -/
theorem cost_in (br last : Bool) (t : Tr) : cost br last t ≤ t.need true + 1 := by
  cases h : brk br last t.root.1 with
  | true => rw [cost_brk h]; omega
  | false =>
    rw [cost_not h]
    cases last with
    | true => omega
    | false => exact need_false t

theorem gave_first {op r : Int} (ho : two op = true) (hr : two r = true) (h : gives op.toNat ⟨5, r.toNat, 0⟩ = true) : firstB op r = false := by
  rcases two_cases ho with rfl | rfl | rfl | rfl | rfl <;> rcases two_cases hr with rfl | rfl | rfl | rfl | rfl <;> revert h <;> decide
theorem kept_second {x r : Int} (hx : two x = true) (hr : two r = true) (h : gives r.toNat ⟨5, x.toNat, 0⟩ = false) : secondB x r = false := by
  rcases two_cases hx with rfl | rfl | rfl | rfl | rfl <;> rcases two_cases hr with rfl | rfl | rfl | rfl | rfl <;> revert h <;> decide
theorem first_two {op r : Int} (h : firstB op r = true) : two r = true := by simp [firstB] at h; exact h.1
theorem second_two {op r : Int} (h : secondB op r = true) : two r = true := by simp [secondB] at h; exact h.1

/-- what waits, and the trees that are whole for it. -/
def Fits (i0 : List Wt) (i1 : List Tr) : Prop := ∀ C : List Wt → List Tr → Prop, (C [] []) → (∀ (p n : Nat) (st : List Wt) (a : Tr) (ts : List Tr), (two (p : Int) = true) → ((∀ u, st.head? = some u → gives p u = false)) → (a.good) → (opnOf st + cost (firstB (p : Int) a.root.1) false a ≤ 64) → (C st ts) → C (⟨5, p, n⟩ :: st) (a :: ts)) → (∀ (o n : Nat) (st : List Wt) (ts : List Tr), (C st ts) → C (⟨1, o, n⟩ :: st) ts) → (∀ (q v : Nat) (st : List Wt) (ts : List Tr), (isQ (q : Int) = true) → (v < 65536) → (C st ts) → C (⟨2, q, v⟩ :: st) ts) → (∀ (o n : Nat) (st : List Wt) (ts : List Tr), (C st ts) → C (⟨3, o, n⟩ :: st) ts) → (∀ (o : Nat) (st : List Wt) (ts : List Tr), (C st ts) → C (⟨4, o, 0⟩ :: st) ts) → (∀ (o : Nat) (st : List Wt) (a : Tr) (ts : List Tr), (a.good) → (opnOf st + 1 + a.need true ≤ 64) → (C st ts) → C (⟨4, o, 1⟩ :: st) (a :: ts)) → (∀ (o : Nat) (st : List Wt) (a b : Tr) (ts : List Tr), (a.good) → (b.good) → (opnOf st + 1 + a.need true ≤ 64) → (opnOf st + 1 + b.need true ≤ 64) → (C st ts) → C (⟨4, o, 2⟩ :: st) (b :: a :: ts)) → C i0 i1
theorem Fits.nil : Fits [] [] := fun _ k0 _ _ _ _ _ _ _ => k0
theorem Fits.op {p n : Nat} {st : List Wt} {a : Tr} {ts : List Tr} (h0 : two (p : Int) = true) (h1 : (∀ u, st.head? = some u → gives p u = false)) (h2 : a.good) (h3 : opnOf st + cost (firstB (p : Int) a.root.1) false a ≤ 64) (h4 : Fits st ts) : Fits (⟨5, p, n⟩ :: st) (a :: ts) := fun C k0 k1 k2 k3 k4 k5 k6 k7 => k1 p n st a ts h0 h1 h2 h3 (h4 C k0 k1 k2 k3 k4 k5 k6 k7)
theorem Fits.neg {o n : Nat} {st : List Wt} {ts : List Tr} (h0 : Fits st ts) : Fits (⟨1, o, n⟩ :: st) ts := fun C k0 k1 k2 k3 k4 k5 k6 k7 => k2 o n st ts (h0 C k0 k1 k2 k3 k4 k5 k6 k7)
theorem Fits.qu {q v : Nat} {st : List Wt} {ts : List Tr} (h0 : isQ (q : Int) = true) (h1 : v < 65536) (h2 : Fits st ts) : Fits (⟨2, q, v⟩ :: st) ts := fun C k0 k1 k2 k3 k4 k5 k6 k7 => k3 q v st ts h0 h1 (h2 C k0 k1 k2 k3 k4 k5 k6 k7)
theorem Fits.br {o n : Nat} {st : List Wt} {ts : List Tr} (h0 : Fits st ts) : Fits (⟨3, o, n⟩ :: st) ts := fun C k0 k1 k2 k3 k4 k5 k6 k7 => k4 o n st ts (h0 C k0 k1 k2 k3 k4 k5 k6 k7)
theorem Fits.ite0 {o : Nat} {st : List Wt} {ts : List Tr} (h0 : Fits st ts) : Fits (⟨4, o, 0⟩ :: st) ts := fun C k0 k1 k2 k3 k4 k5 k6 k7 => k5 o st ts (h0 C k0 k1 k2 k3 k4 k5 k6 k7)
theorem Fits.ite1 {o : Nat} {st : List Wt} {a : Tr} {ts : List Tr} (h0 : a.good) (h1 : opnOf st + 1 + a.need true ≤ 64) (h2 : Fits st ts) : Fits (⟨4, o, 1⟩ :: st) (a :: ts) := fun C k0 k1 k2 k3 k4 k5 k6 k7 => k6 o st a ts h0 h1 (h2 C k0 k1 k2 k3 k4 k5 k6 k7)
theorem Fits.ite2 {o : Nat} {st : List Wt} {a b : Tr} {ts : List Tr} (h0 : a.good) (h1 : b.good) (h2 : opnOf st + 1 + a.need true ≤ 64) (h3 : opnOf st + 1 + b.need true ≤ 64) (h4 : Fits st ts) : Fits (⟨4, o, 2⟩ :: st) (b :: a :: ts) := fun C k0 k1 k2 k3 k4 k5 k6 k7 => k7 o st a b ts h0 h1 h2 h3 (h4 C k0 k1 k2 k3 k4 k5 k6 k7)
theorem Fits.ind {motive : ∀ (i0 : List Wt) (i1 : List Tr), Fits i0 i1 → Prop} (nil : motive [] [] (Fits.nil)) (op : ∀ {p n : Nat} {st : List Wt} {a : Tr} {ts : List Tr} (h0 : two (p : Int) = true) (h1 : (∀ u, st.head? = some u → gives p u = false)) (h2 : a.good) (h3 : opnOf st + cost (firstB (p : Int) a.root.1) false a ≤ 64) (h4 : Fits st ts), motive st ts h4 → motive (⟨5, p, n⟩ :: st) (a :: ts) (Fits.op h0 h1 h2 h3 h4)) (neg : ∀ {o n : Nat} {st : List Wt} {ts : List Tr} (h0 : Fits st ts), motive st ts h0 → motive (⟨1, o, n⟩ :: st) ts (Fits.neg h0)) (qu : ∀ {q v : Nat} {st : List Wt} {ts : List Tr} (h0 : isQ (q : Int) = true) (h1 : v < 65536) (h2 : Fits st ts), motive st ts h2 → motive (⟨2, q, v⟩ :: st) ts (Fits.qu h0 h1 h2)) (br : ∀ {o n : Nat} {st : List Wt} {ts : List Tr} (h0 : Fits st ts), motive st ts h0 → motive (⟨3, o, n⟩ :: st) ts (Fits.br h0)) (ite0 : ∀ {o : Nat} {st : List Wt} {ts : List Tr} (h0 : Fits st ts), motive st ts h0 → motive (⟨4, o, 0⟩ :: st) ts (Fits.ite0 h0)) (ite1 : ∀ {o : Nat} {st : List Wt} {a : Tr} {ts : List Tr} (h0 : a.good) (h1 : opnOf st + 1 + a.need true ≤ 64) (h2 : Fits st ts), motive st ts h2 → motive (⟨4, o, 1⟩ :: st) (a :: ts) (Fits.ite1 h0 h1 h2)) (ite2 : ∀ {o : Nat} {st : List Wt} {a b : Tr} {ts : List Tr} (h0 : a.good) (h1 : b.good) (h2 : opnOf st + 1 + a.need true ≤ 64) (h3 : opnOf st + 1 + b.need true ≤ 64) (h4 : Fits st ts), motive st ts h4 → motive (⟨4, o, 2⟩ :: st) (b :: a :: ts) (Fits.ite2 h0 h1 h2 h3 h4)) {i0 : List Wt} {i1 : List Tr} (h : Fits i0 i1) : motive i0 i1 h := by
  obtain ⟨p, hp⟩ := h (fun i0 i1 => ∃ p : Fits i0 i1, motive i0 i1 p) ⟨Fits.nil, nil⟩ (fun _ _ _ _ _ h0 h1 h2 h3 ⟨h4, g4⟩ => ⟨Fits.op h0 h1 h2 h3 h4, op h0 h1 h2 h3 h4 g4⟩) (fun _ _ _ _ ⟨h0, g0⟩ => ⟨Fits.neg h0, neg h0 g0⟩) (fun _ _ _ _ h0 h1 ⟨h2, g2⟩ => ⟨Fits.qu h0 h1 h2, qu h0 h1 h2 g2⟩) (fun _ _ _ _ ⟨h0, g0⟩ => ⟨Fits.br h0, br h0 g0⟩) (fun _ _ _ ⟨h0, g0⟩ => ⟨Fits.ite0 h0, ite0 h0 g0⟩) (fun _ _ _ _ h0 h1 ⟨h2, g2⟩ => ⟨Fits.ite1 h0 h1 h2, ite1 h0 h1 h2 g2⟩) (fun _ _ _ _ _ h0 h1 h2 h3 ⟨h4, g4⟩ => ⟨Fits.ite2 h0 h1 h2 h3 h4, ite2 h0 h1 h2 h3 h4 g4⟩)
  exact hp
theorem Fits.cas {motive : ∀ (i0 : List Wt) (i1 : List Tr), Fits i0 i1 → Prop} (nil : motive [] [] (Fits.nil)) (op : ∀ {p n : Nat} {st : List Wt} {a : Tr} {ts : List Tr} (h0 : two (p : Int) = true) (h1 : (∀ u, st.head? = some u → gives p u = false)) (h2 : a.good) (h3 : opnOf st + cost (firstB (p : Int) a.root.1) false a ≤ 64) (h4 : Fits st ts), motive (⟨5, p, n⟩ :: st) (a :: ts) (Fits.op h0 h1 h2 h3 h4)) (neg : ∀ {o n : Nat} {st : List Wt} {ts : List Tr} (h0 : Fits st ts), motive (⟨1, o, n⟩ :: st) ts (Fits.neg h0)) (qu : ∀ {q v : Nat} {st : List Wt} {ts : List Tr} (h0 : isQ (q : Int) = true) (h1 : v < 65536) (h2 : Fits st ts), motive (⟨2, q, v⟩ :: st) ts (Fits.qu h0 h1 h2)) (br : ∀ {o n : Nat} {st : List Wt} {ts : List Tr} (h0 : Fits st ts), motive (⟨3, o, n⟩ :: st) ts (Fits.br h0)) (ite0 : ∀ {o : Nat} {st : List Wt} {ts : List Tr} (h0 : Fits st ts), motive (⟨4, o, 0⟩ :: st) ts (Fits.ite0 h0)) (ite1 : ∀ {o : Nat} {st : List Wt} {a : Tr} {ts : List Tr} (h0 : a.good) (h1 : opnOf st + 1 + a.need true ≤ 64) (h2 : Fits st ts), motive (⟨4, o, 1⟩ :: st) (a :: ts) (Fits.ite1 h0 h1 h2)) (ite2 : ∀ {o : Nat} {st : List Wt} {a b : Tr} {ts : List Tr} (h0 : a.good) (h1 : b.good) (h2 : opnOf st + 1 + a.need true ≤ 64) (h3 : opnOf st + 1 + b.need true ≤ 64) (h4 : Fits st ts), motive (⟨4, o, 2⟩ :: st) (b :: a :: ts) (Fits.ite2 h0 h1 h2 h3 h4)) {i0 : List Wt} {i1 : List Tr} (h : Fits i0 i1) : motive i0 i1 h := Fits.ind (motive := motive) nil (fun h0 h1 h2 h3 h4 _ => op h0 h1 h2 h3 h4) (fun h0 _ => neg h0) (fun h0 h1 h2 _ => qu h0 h1 h2) (fun h0 _ => br h0) (fun h0 _ => ite0 h0) (fun h0 h1 h2 _ => ite1 h0 h1 h2) (fun h0 h1 h2 h3 h4 _ => ite2 h0 h1 h2 h3 h4) h
theorem Fits.inv0 {ts : List Tr} (h : Fits [] ts) : ts = [] := by
  generalize hX : ([] : List Wt) = X at h
  cases h using Fits.cas with
  | nil => rfl
  | op => cases hX
  | neg => cases hX
  | qu => cases hX
  | br => cases hX
  | ite0 => cases hX
  | ite1 => cases hX
  | ite2 => cases hX
theorem Fits.inv4 {p n : Nat} {st : List Wt} {ts : List Tr} (h : Fits (⟨4, p, n⟩ :: st) ts) : (n = 0 ∧ Fits st ts) ∨ (n = 1 ∧ ∃ a ts2, ts = a :: ts2 ∧ a.good ∧ opnOf st + 1 + a.need true ≤ 64 ∧ Fits st ts2) ∨
    (n = 2 ∧ ∃ a b ts2, ts = b :: a :: ts2 ∧ a.good ∧ b.good ∧ opnOf st + 1 + a.need true ≤ 64 ∧ opnOf st + 1 + b.need true ≤ 64 ∧ Fits st ts2) := by
  generalize hX : ((⟨4, p, n⟩ : Wt) :: st) = X at h
  cases h using Fits.cas with
  | nil => cases hX
  | op => cases hX
  | neg => cases hX
  | qu => cases hX
  | br => cases hX
  | ite0 h0 => cases hX; exact .inl ⟨rfl, h0⟩
  | ite1 h0 h1 h2 => cases hX; exact .inr (.inl ⟨rfl, _, _, rfl, h0, h1, h2⟩)
  | ite2 h0 h1 h2 h3 h4 => cases hX; exact .inr (.inr ⟨rfl, _, _, _, rfl, h0, h1, h2, h3, h4⟩)

/-- a whole tree on top, ahead of an operator. -/
structure Mid (op : Nat) (st : List Wt) (t : Tr) : Prop where
  good : t.good
  fit : ∀ last, opnOf st + cost false last t ≤ 64
  root : two t.root.1 = true → (∀ last, opnOf st + cost true last t ≤ 64) ∨ ((∀ u, st.head? = some u → gives t.root.1.toNat u = false) ∧ gives op ⟨5, t.root.1.toNat, 0⟩ = true)
/-- the same ahead of a closing bracket, a comma, the end. -/
structure MidIn (st : List Wt) (t : Tr) : Prop where
  good : t.good
  fit : opnOf st + t.need true ≤ 64
  root : two t.root.1 = true → opnOf st + cost true true t ≤ 64 ∨ ∀ u, st.head? = some u → gives t.root.1.toNat u = false
/-- an operand that has just come. -/
structure Cur (st : List Wt) (t : Tr) : Prop where
  good : t.good
  fit : ∀ br last, (br = true → two t.root.1 = true) → opnOf st + cost br last t ≤ 64
theorem Cur.mid {st : List Wt} {t : Tr} (h : Cur st t) (op : Nat) : Mid op st t := ⟨h.good, fun last => h.fit false last (fun e => by cases e), fun h2 => .inl fun last => h.fit true last fun _ => h2⟩
theorem Cur.midIn {st : List Wt} {t : Tr} (h : Cur st t) : MidIn st t := ⟨h.good, by
  have := h.fit false true (fun e => by cases e)
  rwa [cost_not (by simp [brk])] at this, fun h2 => .inl (h.fit true true fun _ => h2)⟩

theorem settleOps_fits {op : Nat} (ho : two (op : Int) = true) {st : List Wt} {ts : List Tr} (hf : Fits st ts) : ∀ (t : Tr), Mid op st t →
    ∃ t' ts', Fits (settleOps op st (postAll (t :: ts))).1 ts' ∧ (settleOps op st (postAll (t :: ts))).2 = postAll (t' :: ts') ∧ t'.good ∧
      opnOf (settleOps op st (postAll (t :: ts))).1 + cost (firstB (op : Int) t'.root.1) false t' ≤ 64 ∧ ∀ u, (settleOps op st (postAll (t :: ts))).1.head? = some u → gives op u = false := by
  have fin : ∀ (st : List Wt) (t : Tr), Mid op st t → opnOf st + cost (firstB (op : Int) t.root.1) false t ≤ 64 := by
    intro st t hm
    cases hb : firstB (op : Int) t.root.1 with
    | false => exact hm.fit false
    | true =>
      rcases hm.root (first_two hb) with h | h
      · exact h false
      · have := gave_first ho (first_two hb) (by simpa using h.2)
        rw [this] at hb
        cases hb
  induction hf using Fits.ind with
  | nil =>
    intro t hm
    exact ⟨t, [], .nil, rfl, hm.good, fin [] t hm, fun u hu => by cases hu⟩
  | @op p n st a ts hp hh ha hc hf ih =>
    intro t hm
    cases hg : gives op ⟨5, p, n⟩ with
    | false =>
      rw [settleOps, if_neg (by rw [hg]; decide)]
      exact ⟨t, _, .op hp hh ha hc hf, rfl, hm.good, fin _ t hm, fun u hu => by cases hu; exact hg⟩
    | true =>
      rw [settleOps, if_pos hg]
      have e : postAll (t :: a :: ts) ++ [nodeOf ⟨5, p, n⟩] = postAll (Tr.bi ((p : Int), 0) a t :: ts) := by
        simp [postAll_cons, Tr.post_lf, Tr.post_un, Tr.post_bi, Tr.post_te, nodeOf]
      rw [e]
      refine ih _ ⟨⟨⟨hp, rfl⟩, ha, hm.good⟩, fun last => ?_, fun _ => .inr ⟨by simpa [Tr.root_lf, Tr.root_un, Tr.root_bi, Tr.root_te] using hh, hg⟩⟩
      rw [cost_not (by simp [brk, Tr.root_lf, Tr.root_un, Tr.root_bi, Tr.root_te, isQ_two hp]), need_bi]
      have h5 : opnOf (⟨5, p, n⟩ :: st) = opnOf st := opn_five _ _ rfl
      have h1 := hm.fit last
      have h2 := hm.root
      rw [h5] at h1 h2
      have h3 : opnOf st + cost (secondB (p : Int) t.root.1) last t ≤ 64 := by
        cases hb : secondB (p : Int) t.root.1 with
        | false => exact h1
        | true =>
          rcases h2 (second_two hb) with h | h
          · exact h last
          · have := kept_second hp (second_two hb) (h.1 ⟨5, p, n⟩ rfl)
            rw [this] at hb
            cases hb
      simp only
      omega
  | @neg o n st ts hf ih =>
    intro t hm
    rw [settleOps, if_pos (by simp [gives])]
    have e : postAll (t :: ts) ++ [nodeOf ⟨1, o, n⟩] = postAll (Tr.un (3, 0) t :: ts) := by
      simp [postAll_cons, Tr.post_lf, Tr.post_un, Tr.post_bi, Tr.post_te, nodeOf]
    rw [e]
    refine ih _ ⟨⟨.inl ⟨rfl, rfl⟩, hm.good⟩, fun last => ?_, fun h => by simp [Tr.root_lf, Tr.root_un, Tr.root_bi, Tr.root_te, two] at h⟩
    rw [cost_not (by simp [brk, Tr.root_lf, Tr.root_un, Tr.root_bi, Tr.root_te, isQ]), need_not (by decide)]
    have h5 : opnOf (⟨1, o, n⟩ :: st) = opnOf st + 1 := opn_cons _ _ (by simp)
    have h1 := hm.fit last
    have h2 := hm.root
    rw [h5] at h1 h2
    cases hb : two t.root.1 with
    | false => omega
    | true =>
      rcases h2 hb with h | h
      · have := h last
        omega
      · have := h.1 _ rfl
        simp [gives] at this
  | @qu q v st ts hq hv hf ih =>
    intro t hm
    rw [settleOps, if_neg (by simp [gives])]
    exact ⟨t, _, .qu hq hv hf, rfl, hm.good, fin _ t hm, fun u hu => by cases hu; simp [gives]⟩
  | @br o n st ts hf ih =>
    intro t hm
    rw [settleOps, if_neg (by simp [gives])]
    exact ⟨t, _, .br hf, rfl, hm.good, fin _ t hm, fun u hu => by cases hu; simp [gives]⟩
  | @ite0 o st ts hf ih =>
    intro t hm
    rw [settleOps, if_neg (by simp [gives])]
    exact ⟨t, _, .ite0 hf, rfl, hm.good, fin _ t hm, fun u hu => by cases hu; simp [gives]⟩
  | @ite1 o st a ts ha hc hf ih =>
    intro t hm
    rw [settleOps, if_neg (by simp [gives])]
    exact ⟨t, _, .ite1 ha hc hf, rfl, hm.good, fin _ t hm, fun u hu => by cases hu; simp [gives]⟩
  | @ite2 o st a b ts ha hb hc hd hf ih =>
    intro t hm
    rw [settleOps, if_neg (by simp [gives])]
    exact ⟨t, _, .ite2 ha hb hc hd hf, rfl, hm.good, fin _ t hm, fun u hu => by cases hu; simp [gives]⟩

theorem settleIn_fits {st : List Wt} {ts : List Tr} (hf : Fits st ts) : ∀ (t : Tr), MidIn st t →
    ∃ t' ts', Fits (settleIn st (postAll (t :: ts))).1 ts' ∧ (settleIn st (postAll (t :: ts))).2 = postAll (t' :: ts') ∧ t'.good ∧
      opnOf (settleIn st (postAll (t :: ts))).1 + t'.need true ≤ 64 ∧ ∀ u, (settleIn st (postAll (t :: ts))).1.head? = some u → u.kind = 3 ∨ u.kind = 4 := by
  induction hf using Fits.ind with
  | nil =>
    intro t hm
    exact ⟨t, [], .nil, rfl, hm.good, hm.fit, fun u hu => by cases hu⟩
  | @op p n st a ts hp hh ha hc hf ih =>
    intro t hm
    rw [settleIn, if_neg (by simp)]
    have e : postAll (t :: a :: ts) ++ [nodeOf ⟨5, p, n⟩] = postAll (Tr.bi ((p : Int), 0) a t :: ts) := by
      simp [postAll_cons, Tr.post_lf, Tr.post_un, Tr.post_bi, Tr.post_te, nodeOf]
    rw [e]
    refine ih _ ⟨⟨⟨hp, rfl⟩, ha, hm.good⟩, ?_, fun _ => .inr (by simpa [Tr.root_lf, Tr.root_un, Tr.root_bi, Tr.root_te] using hh)⟩
    rw [need_bi]
    have h5 : opnOf (⟨5, p, n⟩ :: st) = opnOf st := opn_five _ _ rfl
    have h1 := hm.fit
    have h2 := hm.root
    rw [h5] at h1 h2
    have h3 : opnOf st + cost (secondB (p : Int) t.root.1) true t ≤ 64 := by
      cases hb : secondB (p : Int) t.root.1 with
      | false => rw [cost_not (by simp [brk])]; exact h1
      | true =>
        rcases h2 (second_two hb) with h | h
        · exact h
        · have := kept_second hp (second_two hb) (h ⟨5, p, n⟩ rfl)
          rw [this] at hb
          cases hb
    simp only
    omega
  | @neg o n st ts hf ih =>
    intro t hm
    rw [settleIn, if_neg (by simp)]
    have e : postAll (t :: ts) ++ [nodeOf ⟨1, o, n⟩] = postAll (Tr.un (3, 0) t :: ts) := by
      simp [postAll_cons, Tr.post_lf, Tr.post_un, Tr.post_bi, Tr.post_te, nodeOf]
    rw [e]
    refine ih _ ⟨⟨.inl ⟨rfl, rfl⟩, hm.good⟩, ?_, fun h => by simp [Tr.root_lf, Tr.root_un, Tr.root_bi, Tr.root_te, two] at h⟩
    rw [need_not (by decide)]
    have h5 : opnOf (⟨1, o, n⟩ :: st) = opnOf st + 1 := opn_cons _ _ (by simp)
    have h1 := hm.fit
    have h2 := hm.root
    rw [h5] at h1 h2
    cases hb : two t.root.1 with
    | false => rw [cost_not (by simp [brk])]; omega
    | true =>
      rcases h2 hb with h | h
      · omega
      · have := h _ rfl
        simp [gives] at this
  | @qu q v st ts hq hv hf ih =>
    intro t hm
    rw [settleIn, if_neg (by simp)]
    have e : postAll (t :: ts) ++ [nodeOf ⟨2, q, v⟩] = postAll (Tr.un ((q : Int), (v : Int)) t :: ts) := by
      simp [postAll_cons, Tr.post_lf, Tr.post_un, Tr.post_bi, Tr.post_te, nodeOf]
    rw [e]
    refine ih _ ⟨⟨.inr ⟨hq, by simp only; omega, by simp only; omega⟩, hm.good⟩, ?_, fun h => ?_⟩
    · rw [need_qu hq]
      have h5 : opnOf (⟨2, q, v⟩ :: st) = opnOf st + 1 := opn_cons _ _ (by simp)
      have h1 := hm.fit
      rw [h5] at h1
      omega
    · have := isQ_two h
      simp only [Tr.root_lf, Tr.root_un, Tr.root_bi, Tr.root_te] at this
      rw [this] at hq
      cases hq
  | @br o n st ts hf ih =>
    intro t hm
    rw [settleIn, if_pos (by simp)]
    exact ⟨t, _, .br hf, rfl, hm.good, hm.fit, fun u hu => by cases hu; simp⟩
  | @ite0 o st ts hf ih =>
    intro t hm
    rw [settleIn, if_pos (by simp)]
    exact ⟨t, _, .ite0 hf, rfl, hm.good, hm.fit, fun u hu => by cases hu; simp⟩
  | @ite1 o st a ts ha hc hf ih =>
    intro t hm
    rw [settleIn, if_pos (by simp)]
    exact ⟨t, _, .ite1 ha hc hf, rfl, hm.good, hm.fit, fun u hu => by cases hu; simp⟩
  | @ite2 o st a b ts ha hb hc hd hf ih =>
    intro t hm
    rw [settleIn, if_pos (by simp)]
    exact ⟨t, _, .ite2 ha hb hc hd hf, rfl, hm.good, hm.fit, fun u hu => by cases hu; simp⟩
end PureForm
/-
  What is read is formed: the machine's steps: plain mathematics.
-/
namespace PureForm
open PureCnf Go.Lib

/-- what a token's number may be. -/
structure TkB (t : Tok) : Prop where
  const : t.kind = 2 → t.n = 0 ∨ t.n = 1
  var : t.kind = 3 → t.n < 65536
  quant : t.kind = 5 → t.n = 4 ∨ t.n = 5
  op : t.kind = 7 → two (t.n : Int) = true
theorem tkb_word (w : List UInt8) (i : Nat) : TkB (wordT w i) := by
  unfold wordT
  split
  · exact ⟨by simp, by simp, by simp, by simp⟩
  · split
    · exact ⟨by simp, by simp, by simp, by simp⟩
    · split
      · exact ⟨by simp, by simp, by simp, by simp⟩
      · split
        · exact ⟨by simp, by simp, by simp, by simp⟩
        · split
          · exact ⟨by simp, by simp, by simp, by simp⟩
          · split
            · split
              · have := (numB_range w.tail 65535).2
                exact ⟨by simp, by simp; omega, by simp, by simp⟩
              · exact ⟨by simp, by simp, by simp, by simp⟩
            · exact ⟨by simp, by simp, by simp, by simp⟩
theorem tkb_sign (l : List UInt8) (i : Nat) : ∀ s : List (List UInt8 × Nat × Nat), (∀ x ∈ s, TkB ⟨x.2.1, x.2.2, 0, 0⟩) → TkB (signT l i s) := by
  intro s
  induction s with
  | nil => intro _; exact ⟨by simp [signT], by simp [signT], by simp [signT], by simp [signT]⟩
  | cons x r ih =>
    intro h
    rw [signT]
    split
    · have := h x (List.mem_cons_self ..)
      exact ⟨this.const, this.var, this.quant, this.op⟩
    · exact ih fun y hy => h y (List.mem_cons_of_mem _ hy)
theorem tkb_next (l : List UInt8) (i : Nat) : TkB (nextT l i) := by
  unfold nextT
  split
  · split
    · exact tkb_word _ _
    · split
      · next hd =>
        split
        · next h1 =>
          have hd := of_decide_eq_true hd
          exact ⟨fun _ => by simp only; omega, by simp, by simp, by simp⟩
        · exact ⟨by simp, by simp, by simp, by simp⟩
      · refine tkb_sign l _ signs fun x hx => ?_
        simp only [signs, List.mem_cons, List.not_mem_nil, or_false] at hx
        rcases hx with rfl | rfl | rfl | rfl | rfl | rfl | rfl | rfl | rfl | rfl | rfl | rfl | rfl | rfl | rfl | rfl | rfl | rfl | rfl | rfl | rfl
        all_goals exact ⟨by simp, by simp, by simp, by simp [two]⟩
  · exact ⟨by simp, by simp, by simp, by simp⟩
theorem tkb_toks (l : List UInt8) : ∀ (d i : Nat), l.length - i = d → ∀ t ∈ toksFrom l i, TkB t := by
  intro d
  induction d using Nat.strongRecOn with
  | _ d ih =>
    intro i hd t ht
    rw [toksFrom_eq] at ht
    split at ht
    · rcases List.mem_cons.1 ht with rfl | h'
      · exact tkb_next l i
      · exact ih (l.length - (nextT l i).end_) (by omega) _ rfl t h'
    · simp at ht
      subst ht
      exact tkb_next l i

/-- nodes that wait. -/
def waitsN (st : List Wt) : Nat := st.countP fun w => w.kind != 3
theorem waits_cons (w : Wt) (st : List Wt) (h : w.kind ≠ 3) : waitsN (w :: st) = waitsN st + 1 := by simp [waitsN, h]
theorem waits_three (w : Wt) (st : List Wt) (h : w.kind = 3) : waitsN (w :: st) = waitsN st := by simp [waitsN, h]
theorem settleOps_waits (op : Nat) (st : List Wt) : ∀ o, waitsN (settleOps op st o).1 + (settleOps op st o).2.length = waitsN st + o.length := by
  induction st with
  | nil => intro o; rfl
  | cons w t ih =>
    intro o
    rw [settleOps]
    split
    · next h =>
      have hw : w.kind ≠ 3 := by intro e; simp [gives, e] at h
      rw [ih, waits_cons _ _ hw]
      simp; omega
    · rfl
theorem settleIn_waits (st : List Wt) : ∀ o, waitsN (settleIn st o).1 + (settleIn st o).2.length = waitsN st + o.length := by
  induction st with
  | nil => intro o; rfl
  | cons w t ih =>
    intro o
    rw [settleIn]
    split
    · rfl
    · next h =>
      rw [ih, waits_cons _ _ (by omega)]
      simp; omega

structure Inv (s : PS) : Prop where
  fits : ∃ ts, Fits s.st ts ∧ (if s.want = 1 then ∃ t, Cur s.st t ∧ s.out = postAll (t :: ts) else s.out = postAll ts)
  opn : opnOf s.st ≤ 64
  made : s.made = waitsN s.st + s.out.length
  few : s.made ≤ 65536
  quant : s.want = 3 ∨ s.want = 4 → isQ (s.quant : Int) = true
  wants : s.want ≤ 4
theorem Inv.cur {s : PS} (h : Inv s) (hw : s.want = 1) : ∃ ts t, Fits s.st ts ∧ Cur s.st t ∧ s.out = postAll (t :: ts) := by
  obtain ⟨ts, hf, ho⟩ := h.fits
  rw [if_pos hw] at ho
  obtain ⟨t, hc, ho⟩ := ho
  exact ⟨ts, t, hf, hc, ho⟩
theorem Inv.free {s : PS} (h : Inv s) (hw : s.want ≠ 1) : ∃ ts, Fits s.st ts ∧ s.out = postAll ts := by
  obtain ⟨ts, hf, ho⟩ := h.fits
  rw [if_neg hw] at ho
  exact ⟨ts, hf, ho⟩
theorem inv_free {s : PS} {ts : List Tr} (hf : Fits s.st ts) (ho : s.out = postAll ts) (hw : s.want ≠ 1 ∧ s.want ≤ 4) (h1 : opnOf s.st ≤ 64) (h2 : s.made = waitsN s.st + s.out.length) (h3 : s.made ≤ 65536) (h4 : s.want = 3 ∨ s.want = 4 → isQ (s.quant : Int) = true) : Inv s :=
  ⟨⟨ts, hf, by rw [if_neg hw.1]; exact ho⟩, h1, h2, h3, h4, hw.2⟩
theorem inv_cur {s : PS} {ts : List Tr} {t : Tr} (hf : Fits s.st ts) (hc : Cur s.st t) (ho : s.out = postAll (t :: ts)) (hw : s.want = 1) (h1 : opnOf s.st ≤ 64) (h2 : s.made = waitsN s.st + s.out.length) (h3 : s.made ≤ 65536) : Inv s :=
  ⟨⟨ts, hf, by rw [if_pos hw]; exact ⟨t, hc, ho⟩⟩, h1, h2, h3, (by rw [hw]; intro h; omega), by omega⟩

theorem opens_inv {s s' : PS} {w : Wt} {d wn : Nat} (h : Inv s) (hs : s.want ≠ 1) (hd : (w.kind = 3 ∧ d = 0) ∨ (w.kind ≠ 3 ∧ d = 1)) (h5 : w.kind ≠ 5) (hw : wn ≠ 1 ∧ wn ≤ 4) (hq : wn = 3 ∨ wn = 4 → isQ (s.quant : Int) = true)
    (hf : ∀ ts, Fits s.st ts → Fits (w :: s.st) ts) (e : opensP s w d wn = .ok (.inl s')) : Inv s' := by
  unfold opensP at e
  split at e
  · cases e
  · split at e
    · cases e
    · next h1 h2 =>
      cases e
      obtain ⟨ts, ht, ho⟩ := h.free hs
      have hm := h.made
      have hfw := h.few
      refine inv_free (hf ts ht) ho hw ?_ ?_ ?_ hq
      · show opnOf (w :: s.st) ≤ 64
        rw [opn_cons _ _ h5]; omega
      · show s.made + d = waitsN (w :: s.st) + s.out.length
        rcases hd with ⟨h3, rfl⟩ | ⟨h3, rfl⟩
        · rw [waits_three _ _ h3]; omega
        · rw [waits_cons _ _ h3]; omega
      · show s.made + d ≤ 65536
        omega

theorem fits_opn {st : List Wt} {ts : List Tr} {w : Wt} (h : Fits (w :: st) ts) (hk : w.kind = 3) : Fits st ts := by
  generalize hX : w :: st = X at h
  cases h using Fits.cas with
  | nil => cases hX
  | br h => cases hX; exact h
  | op => cases hX; cases hk
  | neg => cases hX; cases hk
  | qu => cases hX; cases hk
  | ite0 => cases hX; cases hk
  | ite1 => cases hX; cases hk
  | ite2 => cases hX; cases hk

theorem step_inv {s s' : PS} {t : Tok} (h : Inv s) (ht : TkB t) (e : stepP s t = .ok (.inl s')) : Inv s' := by
  have hm := h.made
  have hfw := h.few
  have hop := h.opn
  unfold stepP at e
  split at e
  · cases e
  · split at e
    · next hw0 =>
      have hw1 : s.want ≠ 1 := by omega
      split at e
      · next hk =>
        split at e
        · cases e
        · next hmd =>
          cases e
          obtain ⟨ts, hf, ho⟩ := h.free hw1
          refine inv_cur (t := .lf ((if t.kind = 3 then 2 else 1 : Int), (t.n : Int))) hf ⟨?_, ?_⟩ ?_ rfl hop ?_ ?_
          · rcases hk with hk | hk
            · have := ht.const hk
              exact .inl ⟨by simp [hk], by simp only; omega⟩
            · have := ht.var hk
              exact .inr ⟨by simp [hk], by simp only; omega, by simp only; omega⟩
          · intro br last hbr
            have h2 : two (Tr.lf ((if t.kind = 3 then 2 else 1 : Int), (t.n : Int))).root.1 = false := by
              simp only [Tr.root_lf, Tr.root_un, Tr.root_bi, Tr.root_te]; split <;> rfl
            have hq : isQ (Tr.lf ((if t.kind = 3 then 2 else 1 : Int), (t.n : Int))).root.1 = false := by
              simp only [Tr.root_lf, Tr.root_un, Tr.root_bi, Tr.root_te]; split <;> rfl
            have hb : br = false := by
              cases br with
              | false => rfl
              | true => rw [hbr rfl] at h2; cases h2
            (first | rw [cost_not (by rw [brk_two hq, hb]), Tr.need_un] | rw [cost_not (by rw [brk_two hq, hb]), Tr.need_bi] | rw [cost_not (by rw [brk_two hq, hb]), Tr.need_te] | rw [cost_not (by rw [brk_two hq, hb]), Tr.need_lf])
            exact hop
          · show s.out ++ _ = _
            rw [ho, postAll_cons]; rfl
          · show s.made + 1 = waitsN s.st + (s.out ++ _).length
            simp; omega
          · show s.made + 1 ≤ 65536
            omega
      · split at e
        · next hk =>
          cases e
          obtain ⟨ts, hf, ho⟩ := h.free hw1
          refine inv_free hf ho (by simp) hop hm hfw fun _ => ?_
          rcases ht.quant hk with h4 | h4 <;> simp [h4, isQ]
        · split at e
          · exact opens_inv h hw1 (.inl ⟨rfl, rfl⟩) (by simp) (by simp) (by intro h; omega) (fun ts hf => .br hf) e
          · split at e
            · exact opens_inv h hw1 (.inr ⟨by simp, rfl⟩) (by simp) (by simp) (by intro h; omega) (fun ts hf => .ite0 hf) e
            · split at e
              · exact opens_inv h hw1 (.inr ⟨by simp, rfl⟩) (by simp) (by simp) (by intro h; omega) (fun ts hf => .neg hf) e
              · cases e
    · split at e
      · next hw2 =>
        split at e
        · cases e
          obtain ⟨ts, hf, ho⟩ := h.free (by omega)
          exact inv_free hf ho (by simp) hop hm hfw (by intro h; simp at h)
        · cases e
      · split at e
        · next hw3 =>
          split at e
          · next hk =>
            have hq := h.quant (.inl hw3)
            exact opens_inv h (by omega) (.inr ⟨by simp, rfl⟩) (by simp) (by simp) (fun _ => hq) (fun ts hf => .qu hq (ht.var hk) hf) e
          · cases e
        · split at e
          · next hw4 =>
            have hq := h.quant (.inr hw4)
            obtain ⟨ts, hf, ho⟩ := h.free (by omega)
            split at e
            · cases e
              exact inv_free hf ho (by simp) hop hm hfw fun _ => hq
            · split at e
              · cases e
                exact inv_free hf ho (by simp) hop hm hfw fun _ => hq
              · cases e
          · next hn0 hn2 hn3 hn4 =>
            by_cases hw : s.want = 1
            · obtain ⟨ts, u, hf, hc, ho⟩ := h.cur hw
              split at e
              · next hk =>
                split at e
                · cases e
                · next hmd =>
                  cases e
                  have h2 := ht.op hk
                  obtain ⟨t', ts', h3, h4, h5, h6, h7⟩ := settleOps_fits h2 hf u (hc.mid _)
                  rw [← ho] at h3 h4 h6 h7
                  have hwt := settleOps_waits t.n s.st s.out
                  have h8 : opnOf (⟨5, t.n, 0⟩ :: (settleOps t.n s.st s.out).1) = opnOf (settleOps t.n s.st s.out).1 := opn_five _ _ rfl
                  refine inv_free (ts := t' :: ts') (.op h2 h7 h5 h6 h3) h4 (by simp) ?_ ?_ ?_ (by intro h; simp at h)
                  · show opnOf (⟨5, t.n, 0⟩ :: _) ≤ 64
                    omega
                  · show s.made + 1 = waitsN (⟨5, t.n, 0⟩ :: _) + _
                    rw [waits_cons _ _ (by simp)]
                    simp only
                    omega
                  · show s.made + 1 ≤ 65536
                    omega
              · obtain ⟨t', ts', h3, h4, h5, h6, h7⟩ := settleIn_fits hf u hc.midIn
                rw [← ho] at h3 h4 h6 h7
                have hwt := settleIn_waits s.st s.out
                split at e
                · unfold closesP at e
                  split at e
                  · next w st' o hs =>
                    rw [hs] at h3 h4 h6 h7 hwt
                    simp only at h3 h4 h6 h7 hwt
                    split at e
                    · next hk3 =>
                      cases e
                      rw [opn_cons _ _ (by omega)] at h6
                      rw [waits_three _ _ hk3] at hwt
                      refine inv_cur (t := t') (fits_opn h3 hk3) ⟨h5, fun br last _ => ?_⟩ h4 hw ?_ ?_ hfw
                      · have := cost_in br last t'
                        simp only
                        omega
                      · show opnOf st' ≤ 64
                        omega
                      · show s.made = waitsN st' + o.length
                        omega
                    · split at e
                      · next hk3 hk4 =>
                        cases e
                        obtain ⟨k, p, n⟩ := w
                        obtain ⟨rfl, rfl⟩ : k = 4 ∧ n = 2 := hk4
                        rw [opn_cons _ _ (by simp)] at h6
                        rw [waits_cons _ _ (by simp)] at hwt
                        rcases Fits.inv4 h3 with ⟨h, _⟩ | ⟨h, _⟩ | ⟨_, a, b, ts2, rfl, ga, gb, ca, cb, hf2⟩
                        · cases h
                        · cases h
                        focus
                          refine inv_cur (ts := ts2) (t := .te (11, 0) a b t') hf2 ⟨⟨⟨rfl, rfl⟩, ga, gb, h5⟩, fun br last hbr => ?_⟩ ?_ hw ?_ ?_ hfw
                          · have hb : br = false := by
                              cases br with
                              | false => rfl
                              | true => have := hbr rfl; simp [Tr.root_lf, Tr.root_un, Tr.root_bi, Tr.root_te, two] at this
                            (first | rw [cost_not (by rw [brk_two (by simp [Tr.root_te, isQ]), hb]), Tr.need_un] | rw [cost_not (by rw [brk_two (by simp [Tr.root_te, isQ]), hb]), Tr.need_bi] | rw [cost_not (by rw [brk_two (by simp [Tr.root_te, isQ]), hb]), Tr.need_te] | rw [cost_not (by rw [brk_two (by simp [Tr.root_te, isQ]), hb]), Tr.need_lf])
                            simp only
                            omega
                          · show o ++ _ = _
                            rw [h4]
                            simp [postAll_cons, Tr.post_lf, Tr.post_un, Tr.post_bi, Tr.post_te, nodeOf]
                          · show opnOf st' ≤ 64
                            omega
                          · show s.made = waitsN st' + (o ++ _).length
                            simp; omega
                      · cases e
                  · cases e
                · split at e
                  · unfold commaP at e
                    split at e
                    · next w st' o hs =>
                      rw [hs] at h3 h4 h6 h7 hwt
                      simp only at h3 h4 h6 h7 hwt
                      split at e
                      · next hk4 =>
                        cases e
                        obtain ⟨k, p, n⟩ := w
                        obtain ⟨rfl, hn⟩ : k = 4 ∧ n < 2 := hk4
                        rw [opn_cons _ _ (by simp)] at h6
                        rw [waits_cons _ _ (by simp)] at hwt
                        have hopn : opnOf (⟨4, p, n + 1⟩ :: st') ≤ 64 := by rw [opn_cons _ _ (by simp)]; omega
                        have hwn : s.made = waitsN (⟨4, p, n + 1⟩ :: st') + o.length := by rw [waits_cons _ _ (by simp)]; omega
                        rcases Fits.inv4 h3 with ⟨rfl, hf2⟩ | ⟨rfl, a, ts2, rfl, ga, ca, hf2⟩ | ⟨rfl, _⟩
                        · exact inv_free (ts := t' :: ts') (.ite1 h5 (by omega) hf2) h4 (by simp) hopn hwn hfw (by intro h; simp at h)
                        · exact inv_free (ts := t' :: a :: ts2) (.ite2 ga h5 ca (by omega) hf2) h4 (by simp) hopn hwn hfw (by intro h; simp at h)
                        · omega
                      · cases e
                    · cases e
                  · split at e
                    · unfold endsP at e
                      split at e <;> cases e
                    · cases e
            · have := h.wants
              omega

theorem done_inv {s : PS} {t : Tok} {o : List Nd} (h : Inv s) (e : stepP s t = .ok (.inr o)) : formedF o = true := by
  have hm := h.made
  have hfw := h.few
  have hwn := h.wants
  have key : s.want = 1 → endsP s = .ok (.inr o) → formedF o = true := by
    intro hw e
    obtain ⟨ts, u, hf, hc, ho⟩ := h.cur hw
    obtain ⟨t', ts', h3, h4, h5, h6, h7⟩ := settleIn_fits hf u hc.midIn
    rw [← ho] at h3 h4 h6 h7
    have hwt := settleIn_waits s.st s.out
    unfold endsP at e
    split at e
    · cases e
    · next o' hs =>
      cases e
      rw [hs] at h3 h4 h6 hwt
      simp only at h3 h4 h6 hwt
      obtain rfl := Fits.inv0 h3
      have ho' : o = t'.post := by rw [h4]; simp [postAll]
      have h0 : waitsN [] = 0 := rfl
      unfold formedF
      rw [ho', treeOf_post h5]
      refine decide_eq_true ⟨?_, ?_⟩
      · rw [← ho']; omega
      · have h9 : opnOf [] = 0 := rfl
        omega
  have nop : ∀ (w : Wt) (d n : Nat), opensP s w d n ≠ .ok (.inr o) := by
    intro w d n
    unfold opensP
    split
    · simp
    · split <;> simp
  unfold stepP at e
  split at e
  · cases e
  · split at e
    · split at e
      · split at e <;> cases e
      · split at e
        · cases e
        · split at e
          · exact absurd e (nop _ _ _)
          · split at e
            · exact absurd e (nop _ _ _)
            · split at e
              · exact absurd e (nop _ _ _)
              · cases e
    · split at e
      · split at e <;> cases e
      · split at e
        · split at e
          · exact absurd e (nop _ _ _)
          · cases e
        · split at e
          · split at e
            · cases e
            · split at e <;> cases e
          · split at e
            · split at e <;> cases e
            · split at e
              · unfold closesP at e
                split at e
                · split at e
                  · cases e
                  · split at e <;> cases e
                · cases e
              · split at e
                · unfold commaP at e
                  split at e
                  · split at e <;> cases e
                  · cases e
                · split at e
                  · exact key (by omega) e
                  · cases e

theorem run_inv : ∀ (ts : List Tok) (s : PS) (o : List Nd), Inv s → (∀ t ∈ ts, TkB t) → runP s ts = .ok o → formedF o = true := by
  intro ts
  induction ts with
  | nil => intro s o _ _ e; cases e
  | cons t r ih =>
    intro s o h ht e
    rw [runP] at e
    split at e
    · cases e
    · next s' hs => exact ih s' o (step_inv h (ht t (List.mem_cons_self ..)) hs) (fun u hu => ht u (List.mem_cons_of_mem _ hu)) e
    · next o' hs =>
      cases e
      exact done_inv h hs
/-- what is read is formed. -/
theorem read_formed {l : List UInt8} {o : List Nd} (h : parseF l = .ok o) : formedF o = true := by
  unfold parseF at h
  split at h
  · cases h
  · split at h
    · cases h
    · next o' hr =>
      cases h
      refine run_inv _ _ _ ?_ (tkb_toks l _ 0 rfl) hr
      exact inv_free (ts := []) .nil rfl (by simp) (Nat.zero_le _) rfl (Nat.zero_le _) (by intro h; simp at h)
end PureForm
/-
  FormulaOnce: the law over contracts of the program's Parse, Formed and Print.
-/
namespace Go.Proofs.YtdkboifpdodonabGreatDoor.Doc
open Go.RowKit Go.Deep PureCnf PureForm
set_option maxRecDepth 100000

/-- and back. -/
theorem parsed_own {l : List UInt8} {base : Nat} {e : Ending} {w' : World} (h : Ref.ParsedF l base e w') : ParsedP l base e w' := by
  unfold Ref.ParsedF at h
  unfold ParsedP
  cases hp : parseF l with
  | error f => rw [hp] at h; exact h
  | ok o => rw [hp] at h; exact h

theorem step_code {s : PS} {t : PureForm.Tok} {c : Nat} (ht : t.kind = 1 → t.n ≠ 0) (h : stepP s t = .error c) : c ≠ 0 := by
  have op : ∀ (w : Wt) (d n : Nat), opensP s w d n = .error c → c ≠ 0 := by
    intro w d n h
    unfold opensP at h
    split at h
    · cases h; decide
    · split at h
      · cases h; decide
      · cases h
  unfold stepP at h
  split at h
  · next hk => cases h; exact ht hk
  · split at h
    · split at h
      · split at h
        · cases h; decide
        · cases h
      · split at h
        · cases h
        · split at h
          · exact op _ _ _ h
          · split at h
            · exact op _ _ _ h
            · split at h
              · exact op _ _ _ h
              · cases h; decide
    · split at h
      · split at h
        · cases h
        · cases h; decide
      · split at h
        · split at h
          · exact op _ _ _ h
          · cases h; decide
        · split at h
          · split at h
            · cases h
            · split at h
              · cases h
              · cases h; decide
          · split at h
            · split at h
              · cases h; decide
              · cases h
            · split at h
              · unfold closesP at h
                split at h
                · split at h
                  · cases h
                  · split at h
                    · cases h
                    · cases h; decide
                · cases h; decide
              · split at h
                · unfold commaP at h
                  split at h
                  · split at h
                    · cases h
                    · cases h; decide
                  · cases h; decide
                · split at h
                  · unfold endsP at h
                    split at h
                    · cases h; decide
                    · cases h
                  · cases h; decide
theorem run_code : ∀ (ts : List PureForm.Tok) (s : PS) (c a : Nat), (∀ t ∈ ts, t.kind = 1 → t.n ≠ 0) → runP s ts = .error (c, a) → c ≠ 0 := by
  intro ts
  induction ts with
  | nil => intro s c a _ h; cases h; decide
  | cons t r ih =>
    intro s c a ht h
    rw [runP] at h
    split at h
    · next e hs =>
      cases h
      exact step_code (ht t (List.mem_cons_self ..)) hs
    · next s' _ => exact ih s' c a (fun u hu => ht u (List.mem_cons_of_mem _ hu)) h
    · cases h
theorem toks_bad (l : List UInt8) : ∀ (d i : Nat), l.length - i = d → ∀ t ∈ toksFrom l i, t.kind = 1 → t.n ≠ 0 := by
  intro d
  induction d using Nat.strongRecOn with
  | _ d ih =>
    intro i hd t ht
    rw [toksFrom_eq] at ht
    split at ht
    · rcases List.mem_cons.1 ht with rfl | h'
      · exact (next_ok l i).bad
      · exact ih (l.length - (nextT l i).end_) (by omega) _ rfl t h'
    · simp at ht
      subst ht
      exact (next_ok l i).bad
theorem parse_code {l : List UInt8} {f : Nat × Option Nat} (h : parseF l = .error f) : f.1 ≠ 0 := by
  unfold parseF at h
  split at h
  · cases h; decide
  · split at h
    · next e a hr =>
      cases h
      exact run_code _ _ _ _ (toks_bad l _ 0 rfl) hr
    · cases h

theorem own_nodes2 {W : World} {B : Nat} {v : Value} {l : List Nd} (h : W.ownsRow B 49 2 v l.length (ndL l)) : ∃ sa c, v = .slice sa l.length c ∧ NodesAt W sa l ∧ ∀ g o, sa = some ⟨g, o, none⟩ → B ≤ g := by
  obtain ⟨sa, c, rfl, hn⟩ := own_nodes h
  refine ⟨sa, c, rfl, hn, fun g o e => ?_⟩
  rcases h.2 with ⟨hv, _⟩ | ⟨g', cap, cur, hv, hb, _⟩
  · simp only [Value.slice.injEq] at hv
    rw [hv.1] at e
    cases e
  · simp only [Value.slice.injEq, true_and] at hv
    rw [hv.1] at e
    cases e
    exact hb
theorem parse_ok2 {K : World → Prop} {g : Nat} (hP : ParseC K g) (s : ByteArray) {o : List Nd} (h : parseF s.data.toList = .ok o) (w : World) (hk : K w) (hl : s.size ≤ 9223372036854775807) :
    Calls Tryz.prog g #[.string s] w fun e w' => (∃ sa ca, e = .returned (.tuple #[.slice sa o.length ca, .agg #[.int .i64 0, .int .i64 0, .int .i64 0]]) ∧ NodesAt w' sa o ∧ (∀ x y, sa = some ⟨x, y, none⟩ → w.heap.size ≤ x)) ∧ Below w.heap.size w w' := by
  refine (hP.call s w hk hl).mono ?_
  rintro e w' ⟨hp, hb⟩
  unfold ParsedP at hp
  rw [h] at hp
  obtain ⟨v, he, ho⟩ := hp
  obtain ⟨sa, ca, rfl, hn⟩ := own_nodes2 ho
  exact ⟨⟨sa, ca, he, hn⟩, hb⟩
theorem signs_c {g o c : Nat} : ParseC (fun w => Ref.SignsAt w g o c) 16 := ⟨fun s w h hs => (Ref.parse_own s w g o c h hs).mono fun _ _ h => ⟨parsed_own h.1, h.2⟩, fun _ _ h hb => h.below hb⟩

set_option maxHeartbeats 2000000 in
set_option maxRecDepth 100000 in
theorem once_law {K : World → Prop} (hP : ParseC K 13) (hF : FormedC 24) (hR : PrintK K 11) (s : ByteArray) (w : World) (hk : K w) {g o c : Nat} (hsg : Ref.SignsAt w g o c) (hs : s.size ≤ 140737488355328) :
    Calls Tryz.prog 8 #[.string s] w fun e w' => e = .returned (.bool true) ∧ Below w.heap.size w w' := by
  have HA := hid (alive_any hP hR w hk)
  cases hp : parseF s.data.toList with
  | error f =>
    have hc := parse_code hp
    obtain ⟨v1, v2, hv⟩ : ∃ v1 v2 : Int, faultP s.data.toList f = .agg #[.int .i64 (f.1 : Int), .int .i64 v1, .int .i64 v2] := by
      obtain ⟨c, oa⟩ := f
      cases oa with
      | none => exact ⟨0, 0, rfl⟩
      | some a => exact ⟨_, _, rfl⟩
    have H1 : Hid (∀ (W : World), Below w.heap.size w W → Calls Tryz.prog 13 #[.string s] W fun e w' => e = .returned (.tuple #[.slice none 0 0, .agg #[.int .i64 (f.1 : Int), .int .i64 v1, .int .i64 v2]]) ∧ Below W.heap.size W w') := fun W hW => by
      refine (hP.call s W (hP.keep _ _ hk hW) (by omega)).mono ?_
      rintro e w' ⟨h1, h2⟩
      unfold ParsedP at h1
      rw [hp] at h1
      simp only at h1
      rw [hv] at h1
      exact ⟨h1, h2⟩
    have H2 : Hid (∀ (W : World), Below w.heap.size w W → Calls Tryz.prog 16 #[.string s] W fun e w' => e = .returned (.tuple #[.slice none 0 0, .agg #[.int .i64 (f.1 : Int), .int .i64 v1, .int .i64 v2]]) ∧ Below W.heap.size W w') := fun W hW => by
      refine (Ref.parse_own s W g o c (hsg.below hW) (by omega)).mono ?_
      rintro e w' ⟨h10, h2⟩
      have h1 := parsed_own h10
      unfold ParsedP at h1
      rw [hp] at h1
      simp only at h1
      rw [hv] at h1
      exact ⟨h1, h2⟩
    obtain ⟨n, hn⟩ : ∃ n : Int, n = (f.1 : Int) := ⟨_, rfl⟩
    rw [← hn] at H1 H2
    have b0 : (n == 0) = false := by rw [beq_eq_false_iff_ne, hn]; omega
    clear hP hF hR hk hsg hp hv hn hc
    go_enter Tryz.func8, Tryz.ntmps8
    go_wp2_with (first
      | (have q := B2; clear q; go_at_call 16; refine (H2.out _ (B2.out.alloc B2.out.size _)).mono ?_; rintro e w3 ⟨rfl, b3⟩; have r3 := (b3.block w2.heap.size (by simp)).trans (heap_alloc_new w2 _); have c3 := fun j => cell_row r3 j; have hs3 := (Array.getElem?_eq_some_iff.1 r3).1; have B3 := hid ((B2.out.alloc B2.out.size _).trans (b3.mono (Nat.le_trans B2.out.size (by simp)))); clear b3 r3)
      | (have q := B1; clear q; go_at_call 13; refine (H1.out _ B1.out).mono ?_; rintro e w2 ⟨rfl, b2⟩; have B2 := hid (B1.out.trans (b2.mono B1.out.size)); clear b2)
      | (go_at_call 9; refine HA.out.mono ?_; rintro e w1 ⟨rfl, b1⟩; have B1 := hid b1; clear b1))
    go_ret
    exact ⟨rfl, B3.out.alloc B3.out.size _⟩
  | ok f =>
    have hfm := read_formed hp
    have hlen := parseF_len hp
    have H1 := hid (fun (W : World) (hW : Below w.heap.size w W) => parse_ok2 hP s hp W (hP.keep _ _ hk hW) (by omega))
    have H2 := hid (fun (W : World) (hW : Below w.heap.size w W) => parse_ok2 signs_c s hp W (hsg.below hW) (by omega))
    have H3 : Hid (∀ (sa : Option Addr) (ca : Nat) (W : World), NodesAt W sa f → Calls Tryz.prog 24 #[.slice sa f.length ca] W fun e w' => e = .returned (.bool true) ∧ Below W.heap.size W w') := fun sa ca W hn => by
      have := hF f sa ca W hn (by omega)
      rwa [hfm] at this
    rcases printF_cases hfm with hq | ⟨T, hq, hT, hr⟩
    · have H4 : Hid (∀ (sa : Option Addr) (ca : Nat) (W : World), NodesAt W sa f → Calls Tryz.prog 10 #[.slice sa f.length ca] W fun e w' => e = .returned (.tuple #[.string ⟨#[]⟩, .int .i64 5]) ∧ Below W.heap.size W w') := fun sa ca W hn => by
        have := print_any f sa ca W hn (by omega)
        rw [hq] at this
        exact this
      clear hP hF hR hk hsg hp hfm hq
      go_enter Tryz.func8, Tryz.ntmps8
      go_wp2_with (first
        | (have q := B4; clear q; go_at_call 10; refine (H4.out _ _ _ N4.out).mono ?_; rintro e w5 ⟨rfl, b5⟩; have B5 := hid (B4.out.trans (b5.mono B4.out.size)); clear b5)
        | (have q := B3; clear q; go_at_call 24; refine (H3.out _ _ _ (N3.out.below ((Below.refl _ _).alloc (Nat.le_refl _) _))).mono ?_; rintro e w4 ⟨rfl, b4⟩; have N4 := hid ((N3.out.below ((Below.refl _ _).alloc (Nat.le_refl _) _)).below b4); have B4 := hid ((B3.out.alloc B3.out.size _).trans (b4.mono (Nat.le_trans B3.out.size (by simp)))); clear b4)
        | (have q := B2; clear q; go_at_call 16; refine (H2.out _ (B2.out.alloc B2.out.size _)).mono ?_; rintro e w3 ⟨⟨sx, cx, rfl, _⟩, b3⟩; have N3 := hid ((N2.out.below ((Below.refl _ _).alloc (Nat.le_refl _) _)).below b3); have r3 := (b3.block w2.heap.size (by simp)).trans (heap_alloc_new w2 _); have c3 := fun j => cell_row r3 j; have hs3 := (Array.getElem?_eq_some_iff.1 r3).1; have B3 := hid ((B2.out.alloc B2.out.size _).trans (b3.mono (Nat.le_trans B2.out.size (by simp)))); clear b3 r3)
        | (have q := B1; clear q; go_at_call 13; refine (H1.out _ B1.out).mono ?_; rintro e w2 ⟨⟨sa, ca, rfl, n2, _⟩, b2⟩; have N2 := hid n2; have B2 := hid (B1.out.trans (b2.mono B1.out.size)); clear b2 n2)
        | (go_at_call 9; refine HA.out.mono ?_; rintro e w1 ⟨rfl, b1⟩; have B1 := hid b1; clear b1))
      go_ret
      exact ⟨rfl, B5.out⟩
    · have H4 := hid (fun (sa : Option Addr) (ca : Nat) (W : World) (hn : NodesAt W sa f) => print_ok print_any hq sa ca W hn (by omega))
      have H5 := hid (fun (sa : Option Addr) (ca : Nat) (W : World) (hW : Below w.heap.size w W) (hn : NodesAt W sa f) => print_okK hR hq sa ca W (hP.keep _ _ hk hW) hn (by omega))
      have H6 := hid (fun (W : World) (hW : Below w.heap.size w W) => parse_ok2 hP ⟨T.toArray⟩ (o := f) hr W (hP.keep _ _ hk hW) (by show T.toArray.size ≤ _; simp; omega))
      have HS := hid (fun (W : World) (sx sy : Option Addr) (cx cy : Nat) (hx : NodesAt W sx f) (hy : NodesAt W sy f) => same_true f sx sy cx cy W (by omega) hx hy)
      have hpos : 0 < f.length := by
        rcases Nat.eq_zero_or_pos f.length with h0 | h0
        · obtain rfl : f = [] := List.length_eq_zero_iff.1 h0
          cases hfm
        · exact h0
      clear hP hF hR hk hsg hp hfm hq hr
      go_enter Tryz.func8, Tryz.ntmps8
      go_wp2_with (first
        | (have q := B8; clear q; go_at_call 11; refine (H5.out _ _ _ ((((B7.out.setCell B2.out.size _).setCell B2.out.size _).setCell B2.out.size _).trans (B8.out.mono (((B7.out.setCell B2.out.size _).setCell B2.out.size _).setCell B2.out.size _).size)) (NY.out.below B8.out)).mono ?_; rintro e w9 ⟨rfl, b9⟩; have B9 := hid (B8.out.trans (b9.mono B8.out.size)); clear b9)
        | (have q := NY; clear q; go_at_call 14; refine (HS.out _ _ _ _ _ NX.out NY.out).mono ?_; rintro e w8 ⟨rfl, b8⟩; have B8 := hid b8; clear b8)
        | (have q := B6; clear q; go_at_call 13; refine (H6.out _ B6.out).mono ?_; rintro e w7 ⟨⟨sy, cy, rfl, n7, o7⟩, b7⟩; have r7 := (b7.block w2.heap.size hs6).trans R6.out; have c7 := fun j => cell_row r7 j; have f7 := fun j => unfrozen_row r7 j; have hs7 := (Array.getElem?_eq_some_iff.1 r7).1; have B7 := hid (B6.out.trans (b7.mono B6.out.size)); have NX := hid ((((N6.out.below b7).far (i := 0) (u := .int .i64 0) HNE.out).far (i := 1) (u := .int .i64 0) HNE.out).far (i := 2) (u := .int .i64 0) HNE.out); have hne7 : ∀ g o, sy = some ⟨g, o, none⟩ → w2.heap.size ≠ g := (fun g o e => by have := o7 g o e; omega); have NY := hid (((n7.far (i := 0) (u := .int .i64 0) hne7).far (i := 1) (u := .int .i64 0) hne7).far (i := 2) (u := .int .i64 0) hne7); clear b7 n7 o7 r7 hne7)
        | (have q := B5; clear q; go_at_call 11; refine (H5.out _ _ _ B5.out N5.out).mono ?_; rintro e w6 ⟨rfl, b6⟩; have N6 := hid (N5.out.below b6); have r6 := (b6.block w2.heap.size hs5).trans R5.out; have hs6 := (Array.getElem?_eq_some_iff.1 r6).1; have R6 := hid r6; have B6 := hid (B5.out.trans (b6.mono B5.out.size)); clear b6 r6)
        | (have q := B4; clear q; go_at_call 10; refine (H4.out _ _ _ N4.out).mono ?_; rintro e w5 ⟨rfl, b5⟩; have N5 := hid (N4.out.below b5); have r5 := (b5.block w2.heap.size hs4).trans R4.out; have hs5 := (Array.getElem?_eq_some_iff.1 r5).1; have R5 := hid r5; have B5 := hid (B4.out.trans (b5.mono B4.out.size)); clear b5 r5)
        | (have q := B3; clear q; go_at_call 24; refine (H3.out _ _ _ (N3.out.below ((Below.refl _ _).alloc (Nat.le_refl _) _))).mono ?_; rintro e w4 ⟨rfl, b4⟩; have N4 := hid ((N3.out.below ((Below.refl _ _).alloc (Nat.le_refl _) _)).below b4); have r4 := (b4.block w2.heap.size (by simp; omega)).trans ((Below.heap_alloc _ _ _ (by omega)).trans R3.out); have hs4 := (Array.getElem?_eq_some_iff.1 r4).1; have R4 := hid r4; have B4 := hid ((B3.out.alloc B3.out.size _).trans (b4.mono (Nat.le_trans B3.out.size (by simp)))); clear b4 r4)
        | (have q := B2; clear q; go_at_call 16; refine (H2.out _ (B2.out.alloc B2.out.size _)).mono ?_; rintro e w3 ⟨⟨sx, cx, rfl, _⟩, b3⟩; have N3 := hid ((N2.out.below ((Below.refl _ _).alloc (Nat.le_refl _) _)).below b3); have r3 := (b3.block w2.heap.size (by simp)).trans (heap_alloc_new w2 _); have c3 := fun j => cell_row r3 j; have hs3 := (Array.getElem?_eq_some_iff.1 r3).1; have R3 := hid r3; have B3 := hid ((B2.out.alloc B2.out.size _).trans (b3.mono (Nat.le_trans B2.out.size (by simp)))); clear b3 r3)
        | (have q := B1; clear q; go_at_call 13; refine (H1.out _ B1.out).mono ?_; rintro e w2 ⟨⟨sa, ca, rfl, n2, _⟩, b2⟩; have HNE : Hid (∀ g o, sa = some ⟨g, o, none⟩ → w2.heap.size ≠ g) := (fun g o e => by obtain ⟨g', o', e', hg, _⟩ := n2.at_ 0 hpos; rw [e] at e'; cases e'; omega); have N2 := hid n2; have B2 := hid (B1.out.trans (b2.mono B1.out.size)); clear b2 n2)
        | (go_at_call 9; refine HA.out.mono ?_; rintro e w1 ⟨rfl, b1⟩; have B1 := hid b1; clear b1))
      go_ret
      have hbx : Below w.heap.size w (((w7.setCell ⟨w2.heap.size, 0, none⟩ (.int .i64 0)).setCell ⟨w2.heap.size, 1, none⟩ (.int .i64 0)).setCell ⟨w2.heap.size, 2, none⟩ (.int .i64 0)) := ((B7.out.setCell B2.out.size _).setCell B2.out.size _).setCell B2.out.size _
      exact ⟨rfl, hbx.trans (B9.out.mono hbx.size)⟩
end Go.Proofs.YtdkboifpdodonabGreatDoor.Doc
