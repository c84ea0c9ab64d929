import Derived.Test.YtdkboifpdodonabGreatDoorU22
set_option linter.unusedSimpArgs false
/-
  The table of signs, as the row's list gives it.
-/
namespace Go.Proofs.YtdkboifpdodonabGreatDoor.Ref
open Go.RowKit Go.Deep PureCnf PureForm
set_option maxRecDepth 100000

theorem cells9 : Tryz.prog.cellsOf 9 = 1 := by kernel_rfl
theorem cells3 : Tryz.prog.cellsOf 3 = 1 := by kernel_rfl
theorem cells88 : Tryz.prog.cellsOf 130 = 3 := by kernel_rfl

/-- a spelling as data. -/
def signD (x : List UInt8 × Nat × Nat) : DataW Unit := .agg [.lit (.string x.1), .lit (.int .i64 (x.2.1 : Int)), .lit (.int .i64 (x.2.2 : Int))]

theorem add_off (g o k : Nat) : (⟨g, o, none⟩ : Addr).add k = ⟨g, o + k, none⟩ := by
  unfold Addr.add
  split <;> simp_all

set_option maxRecDepth 100000 in
theorem laid_table {W : World} {fuel : Nat} {cs : List Value} {p : List MemPlace} (h : DataW.trod (fun _ => ()) Tryz.prog W 0 (fun _ => true) false fuel 129 cs = some (.slice (signs.map signD) [], p)) :
    ∃ g o cap, cs = [.slice (some ⟨g, o, none⟩) 21 cap] ∧ g < W.heap.size ∧ ∀ k, k < 21 → W.cell? ⟨g, o + k * 3, none⟩ = some (str (sg k).1) ∧ W.cell? ⟨g, o + k * 3 + 1, none⟩ = some (.int .i64 (sg k).2.1) ∧ W.cell? ⟨g, o + k * 3 + 2, none⟩ = some (.int .i64 (sg k).2.2) := by
  rcases DataW.trod_slice Tryz.underlying129 h with ⟨_, h0⟩ | ⟨a, len, cap, elems, rest, n, _, rfl, hx, _, _, _, hlen, hel, _, _⟩
  · simp at h0
  · simp only [Prod.mk.injEq, DataW.slice.injEq] at hx
    obtain ⟨⟨hmap, _⟩, _⟩ := hx
    have hl : len = 21 := by
      have := congrArg List.length hmap
      simp [signs] at this
      omega
    rw [hl] at hel
    have each : ∀ k, k < 21 → W.cell? (a.add (k * 3 + 0)) = some (str (sg k).1) ∧ W.cell? (a.add (k * 3 + 1)) = some (.int .i64 (sg k).2.1) ∧ W.cell? (a.add (k * 3 + 2)) = some (.int .i64 (sg k).2.2) := by
      intro k hk
      have hk2 : k < elems.length := by omega
      have hy := hel k hk
      rw [List.getElem?_eq_getElem hk2, cells88, Option.bind_eq_some_iff] at hy
      obtain ⟨cs, hcs, ht⟩ := hy
      have hd : elems[k].1 = signD (sg k) := by
        have := congrArg (fun l => l[k]?) hmap
        simp only [List.getElem?_map, List.getElem?_eq_getElem hk2, List.getElem?_eq_getElem (show k < signs.length from hk), Option.map_some, Option.some.injEq] at this
        rw [← this, sg]
        simp [List.getD, List.getElem?_eq_getElem (show k < signs.length from hk)]
      obtain ⟨y0, y1, y2, m, hxe, hcl, t0, t1, t2⟩ := trod_struct3 Tryz.underlying130 ht
      rw [hxe] at hd
      simp only [signD, DataW.agg.injEq, List.cons.injEq, and_true] at hd
      obtain ⟨e0, e1, e2⟩ := hd
      obtain ⟨_, hcl3, hcell⟩ := World.cells?_some hcs
      match cs, hcl3 with
      | [v0, v1, v2], _ =>
        rw [cells9] at t0
        rw [cells3] at t1 t2
        obtain ⟨z0, hz0, rfl, _⟩ := DataW.trod_string Tryz.underlying9 t0
        obtain ⟨z1, hz1, rfl, _⟩ := DataW.trod_int Tryz.underlying3 t1
        obtain ⟨z2, hz2, rfl, _⟩ := DataW.trod_int Tryz.underlying3 t2
        simp at hz0 hz1 hz2 e0 e1 e2
        subst hz0 hz1 hz2
        have g0 := hcell 0 (by omega)
        have g1 := hcell 1 (by omega)
        have g2 := hcell 2 (by omega)
        rw [Addr.add_add] at g0 g1 g2
        have hz : z0 = ⟨(sg k).1.toArray⟩ := by
          apply ByteArray.ext
          apply Array.ext'
          simpa using e0
        rw [hz] at g0
        rw [e1] at g1
        rw [e2] at g2
        exact ⟨g0, g1, g2⟩
    obtain ⟨g, o, sp⟩ := a
    have hsp : sp = none := by
      have h0 := (each 0 (by omega)).1
      rw [show (⟨g, o, sp⟩ : Addr).add (0 * 3 + 0) = ⟨g, o, sp⟩ by simp [Addr.add]] at h0
      exact World.cell?_spot h0
    subst hsp
    refine ⟨g, o, cap, by rw [hl], ?_, fun k hk => ?_⟩
    · have := World.block_lt_of_cell? W _ (each 0 (by omega)).1
      rwa [add_block] at this
    · obtain ⟨a0, a1, a2⟩ := each k hk
      rw [add_off] at a0 a1 a2
      exact ⟨a0, a1, a2⟩

theorem laid_is : (Rows.laid_strata_strataref13_signs : DataW Unit) = .slice (signs.map signD) [] := by rfl
end Go.Proofs.YtdkboifpdodonabGreatDoor.Ref
/-
  The rows of this seat: the table of signs, laid.
-/

namespace Go.Proofs.YtdkboifpdodonabGreatDoor
open Go.ChangeShapes Go.WideShapes Go.ChangeAt Go.RowKit Go.Deep PureCnf PureForm

set_option maxRecDepth 100000 in
theorem met6 {W : World} (h : laidMet Tryz.prog [("math/bits.deBruijn32tab", Rows.laid_math_bits_deBruijn32tab), ("math/bits.deBruijn64tab", Rows.laid_math_bits_deBruijn64tab), ("internal/strconv.uint64pow10", Rows.laid_internal_strconv_uint64pow10), ("strata/strataref13.signs", Rows.laid_strata_strataref13_signs), ("unicode/utf8.acceptRanges", Rows.laid_unicode_utf8_acceptRanges), ("unicode/utf8.first", Rows.laid_unicode_utf8_first)] W) : Met W := by
  obtain ⟨ps, hl, _⟩ := h
  have h3 := Lib.LaidVars_reads hl "unicode/utf8.first" Rows.laid_unicode_utf8_first (by simp)
  have h4 := Lib.LaidVars_reads hl "unicode/utf8.acceptRanges" Rows.laid_unicode_utf8_acceptRanges (by simp)
  have h5 := Lib.LaidVars_reads hl "internal/strconv.uint64pow10" Rows.laid_internal_strconv_uint64pow10 (by simp)
  rw [first_is] at h3
  rw [accept_is] at h4
  refine ⟨?_, utf8Tabs_of_reads (P := Tryz.prog) (ρ := Tryz.lays197_ren) { Tryz.lays197 with } u8extra h3 h4⟩
  obtain ⟨g', t', cs, fuel, p, hg', ht', hvar, hd⟩ := h5
  obtain rfl : 4 = g' := Option.some.inj ((show Tryz.prog.globalNamed "internal/strconv.uint64pow10" = some 4 by kernel_rfl).symm.trans hg')
  obtain rfl : 196 = t' := Option.some.inj ((show (Tryz.prog.globals[4]?).map (·.type) = some 196 by kernel_rfl).symm.trans ht')
  rw [pow10_is] at hd
  unfold Tab Lib.TabIs
  rw [hvar, ← Lib.cells_of_tab Tryz.underlying196 (by exact Tryz.underlying189) (by kernel_rfl) (by kernel_rfl) hd]

set_option maxRecDepth 100000 in
theorem signs6 {W : World} (h : laidMet Tryz.prog [("math/bits.deBruijn32tab", Rows.laid_math_bits_deBruijn32tab), ("math/bits.deBruijn64tab", Rows.laid_math_bits_deBruijn64tab), ("internal/strconv.uint64pow10", Rows.laid_internal_strconv_uint64pow10), ("strata/strataref13.signs", Rows.laid_strata_strataref13_signs), ("unicode/utf8.acceptRanges", Rows.laid_unicode_utf8_acceptRanges), ("unicode/utf8.first", Rows.laid_unicode_utf8_first)] W) : ∃ g o c, Ref.SignsAt W g o c := by
  obtain ⟨ps, hl, _⟩ := h
  have h3 := Lib.LaidVars_reads hl "strata/strataref13.signs" Rows.laid_strata_strataref13_signs (by simp)
  rw [Ref.laid_is] at h3
  obtain ⟨g0, t0, cs, fuel, p, hg0, ht0, hv0, hd0⟩ := h3
  have hg : Tryz.prog.globalNamed "strata/strataref13.signs" = some 0 := by kernel_rfl
  obtain rfl := Option.some.inj (hg.symm.trans hg0)
  have ht : (Tryz.prog.globals[0]?).map (·.type) = some 129 := by kernel_rfl
  obtain rfl := Option.some.inj (ht.symm.trans ht0)
  obtain ⟨l0⟩ := cs
  obtain ⟨g, o, cap, hcs, hlt, hat⟩ := Ref.laid_table hd0
  have hcs' : l0 = [.slice (some ⟨g, o, none⟩) 21 cap] := hcs
  subst hcs'
  have hc : W.cell? ⟨0, 0, none⟩ = some (.slice (some ⟨g, o, none⟩) 21 cap) := by simpa using World.var?_cell hg0 hv0 0
  exact ⟨g, o, cap, hlt, World.block_lt_of_cell? W _ hc, hc, hat⟩
end Go.Proofs.YtdkboifpdodonabGreatDoor
/-
  A fault that is not at the end stays, whatever comes behind a blank.
-/
namespace Go.Proofs.YtdkboifpdodonabGreatDoor.Ref
open PureCnf PureForm

theorem takeWhile_stop {p : UInt8 → Bool} {a b : List UInt8} (h : (a.takeWhile p).length < a.length) : (a ++ b).takeWhile p = a.takeWhile p := by
  induction a with
  | nil => simp at h
  | cons c t ih =>
    rw [List.cons_append, List.takeWhile_cons, List.takeWhile_cons]
    split
    · next hc =>
      rw [List.takeWhile_cons, if_pos hc] at h
      rw [ih (by simp at h; omega)]
    · rfl
theorem takeWhile_bar {p : UInt8 → Bool} {a m : List UInt8} {c : UInt8} (h : p c = false) : (a ++ c :: m).takeWhile p = a.takeWhile p := by
  induction a with
  | nil => simp [h]
  | cons x t ih => simp only [List.cons_append, List.takeWhile_cons, ih]

theorem runW_bar {p : UInt8 → Bool} {l m : List UInt8} {c : UInt8} {i : Nat} (hi : i ≤ l.length) (h : p c = false) : runW p (l ++ c :: m) i (l ++ c :: m).length = runW p l i l.length := by
  unfold runW
  rw [List.take_length, List.take_length, List.drop_append_of_le_length hi, takeWhile_bar h]
theorem runW_short {p : UInt8 → Bool} {l x : List UInt8} {i : Nat} (hi : i ≤ l.length) (h : runW p l i l.length < l.length) : runW p (l ++ x) i (l ++ x).length = runW p l i l.length := by
  unfold runW at h ⊢
  rw [List.take_length] at h
  rw [List.take_length, List.take_length, List.drop_append_of_le_length hi, takeWhile_stop (by rw [List.length_drop]; omega)]

theorem skipB_ext (l x : List UInt8) : ∀ (d i : Nat), l.length - i = d → skipB l i < l.length → skipB (l ++ x) i = skipB l i := by
  intro d
  induction d using Nat.strongRecOn with
  | _ d ih =>
    intro i hd hlt
    have hge := (skipB_ge l _ i rfl).1
    have hi : i < l.length := by omega
    have hi2 : i < (l ++ x).length := by simp; omega
    have hc : (l ++ x)[i] = l[i] := List.getElem_append_left hi
    rw [skipB_eq] at hlt ⊢
    conv => rhs; rw [skipB_eq]
    rw [dif_pos hi2, hc]
    rw [dif_pos hi] at hlt ⊢
    by_cases h35 : l[i].toNat = 35
    · rw [if_pos h35] at hlt ⊢
      rw [if_pos h35]
      obtain ⟨_, hr⟩ := (show True ∧ i < runW lineB l i l.length from ⟨trivial, by
        rw [runW_on hi (Nat.le_refl _) (by simp [lineB, h35])]
        have := runW_ge lineB l (i + 1) l.length
        omega⟩)
      rw [dif_pos hr] at hlt ⊢
      have hr2 : runW lineB l i l.length < l.length := by
        rcases Nat.lt_or_ge (runW lineB l i l.length) l.length with h | h
        · exact h
        · have := (skipB_ge l _ (runW lineB l i l.length) rfl).1
          omega
      rw [runW_short (Nat.le_of_lt hi) hr2, dif_pos hr]
      exact ih _ (by omega) _ rfl hlt
    · rw [if_neg h35] at hlt ⊢
      rw [if_neg h35]
      by_cases hb : blankB l[i] = true
      · rw [if_pos hb] at hlt ⊢
        rw [if_pos hb]
        exact ih _ (by omega) _ rfl hlt
      · rw [if_neg hb, if_neg hb]

theorem signT_ext {l m : List UInt8} {i : Nat} (hi : i ≤ l.length) : ∀ (L : List (List UInt8 × Nat × Nat)), (∀ x ∈ L, (32 : UInt8) ∉ x.1) → PureForm.signT (l ++ 32 :: m) i L = PureForm.signT l i L := by
  intro L
  induction L with
  | nil => intro _; rfl
  | cons x r ih =>
    intro h
    have hx := h x (List.mem_cons_self ..)
    rw [PureForm.signT, PureForm.signT, ih (fun y hy => h y (List.mem_cons_of_mem _ hy)), List.drop_append_of_le_length hi]
    have key : ((l.drop i ++ 32 :: m).take x.1.length = x.1) ↔ ((l.drop i).take x.1.length = x.1) := by
      by_cases hn : x.1.length ≤ (l.drop i).length
      · rw [List.take_append_of_le_length hn]
      · constructor
        · intro e
          exfalso
          apply hx
          rw [← e, List.take_append]
          apply List.mem_append_right
          rw [show x.1.length - (l.drop i).length = (x.1.length - (l.drop i).length - 1) + 1 by omega, List.take_succ_cons]
          exact List.mem_cons_self ..
        · intro e
          exfalso
          have := congrArg List.length e
          rw [List.length_take] at this
          omega
    by_cases h1 : (l.drop i).take x.1.length = x.1
    · rw [if_pos (key.2 h1), if_pos h1]
    · rw [if_neg (fun e => h1 (key.1 e)), if_neg h1]

theorem next_ext {l m : List UInt8} {i : Nat} (h : (nextT l i).kind ≠ 0) : nextT (l ++ 32 :: m) i = nextT l i := by
  by_cases hs : skipB l i < l.length
  · have he := skipB_ext l (32 :: m) _ i rfl hs
    have hs2 : skipB l i < (l ++ 32 :: m).length := by simp; omega
    have hc : (l ++ 32 :: m)[skipB l i] = l[skipB l i] := List.getElem_append_left hs
    unfold nextT
    simp only [he]
    rw [dif_pos hs2, dif_pos hs, hc]
    by_cases hl : letB l[skipB l i] = true
    · rw [if_pos hl, if_pos hl, runW_bar (Nat.le_of_lt hs) (by decide)]
      have hk : runW alnB l (skipB l i) l.length ≤ l.length := runW_le (by omega)
      rw [List.take_append_of_le_length hk]
    · rw [if_neg hl, if_neg hl]
      by_cases hd : digB l[skipB l i] = true
      · rw [if_pos hd, if_pos hd, runW_bar (Nat.le_of_lt hs) (by decide)]
      · rw [if_neg hd, if_neg hd]
        exact signT_ext (Nat.le_of_lt hs) signs (by decide)
  · exfalso
    apply h
    unfold nextT
    rw [dif_neg hs]
theorem next_zero {l : List UInt8} {i : Nat} (h : (nextT l i).kind = 0) : (nextT l i).at_ = l.length := by
  by_cases hs : skipB l i < l.length
  · exfalso
    have key : ∀ (L : List (List UInt8 × Nat × Nat)) (p : Nat), (∀ x ∈ L, x.2.1 ≠ 0) → (PureForm.signT l p L).kind ≠ 0 := by
      intro L p
      induction L with
      | nil => intro _; simp [PureForm.signT]
      | cons x r ih =>
        intro hx
        rw [PureForm.signT]
        split
        · exact hx x (List.mem_cons_self ..)
        · exact ih (fun y hy => hx y (List.mem_cons_of_mem _ hy))
    unfold nextT at h
    rw [dif_pos hs] at h
    split at h
    · unfold wordT at h
      repeat' split at h
      all_goals simp at h
    · split at h
      · split at h <;> simp at h
      · exact key signs _ (by decide) h
  · unfold nextT
    rw [dif_neg hs]

theorem run_prefix (l m : List UInt8) {c a : Nat} (ha : a < l.length) : ∀ (d i : Nat) (p : PS), l.length - i = d → i ≤ l.length → runP p (toksFrom l i) = .error (c, a) → runP p (toksFrom (l ++ 32 :: m) i) = .error (c, a) := by
  intro d
  induction d using Nat.strongRecOn with
  | _ d ih =>
    intro i p hd hi h
    cases hst : stepP p (nextT l i) with
    | error e =>
      have h1 := run_err hst
      rw [h1] at h
      simp only [Except.error.injEq, Prod.mk.injEq] at h
      obtain ⟨rfl, rfl⟩ := h
      have hk : (nextT l i).kind ≠ 0 := fun e0 => by have := next_zero e0; omega
      have hx := next_ext (m := m) hk
      rw [← hx] at hst ⊢
      exact run_err hst
    | ok r =>
      cases r with
      | inl p' =>
        have hk : (nextT l i).kind ≠ 0 := fun e0 => stepP_end e0 hst
        obtain ⟨e1, e2⟩ := (next_ok l i).end_ hk
        have hx := next_ext (m := m) hk
        rw [run_on hk hst] at h
        have := ih (l.length - (nextT l i).end_) (by omega) _ p' rfl e2 h
        rw [← hx] at hst hk this
        rw [run_on hk hst]
        exact this
      | inr o =>
        rw [run_done hst] at h
        cases h

/-- P13.8. -/
theorem parse_prefix {l m : List UInt8} {c a : Nat} (h : parseF l = .error (c, some a)) (ha : a < l.length) (hl : (l ++ 32 :: m).length ≤ 1048576) : parseF (l ++ 32 :: m) = .error (c, some a) := by
  have hl2 : l.length ≤ 1048576 := by simp at hl; omega
  unfold parseF at h
  rw [if_neg (by omega)] at h
  split at h
  · next e a' hr =>
    simp only [Except.error.injEq, Prod.mk.injEq, Option.some.injEq] at h
    obtain ⟨rfl, rfl⟩ := h
    exact parseF_err hl (run_prefix l m ha _ 0 _ rfl (Nat.zero_le _) hr)
  · cases h
end Go.Proofs.YtdkboifpdodonabGreatDoor.Ref
/-
  FormulaPrefix: the law over contracts of the program's Parse and Print.
-/
namespace Go.Proofs.YtdkboifpdodonabGreatDoor.Ref
open Go.RowKit Go.Deep PureCnf PureForm
set_option maxRecDepth 100000

/-- the landed answer in the document's words. -/
theorem parsed_doc {l : List UInt8} {base : Nat} {e : Ending} {w' : World} (h : ParsedP l base e w') : ParsedF l base e w' := by
  unfold ParsedP at h
  unfold ParsedF
  cases hp : parseF l with
  | error f => rw [hp] at h; exact h
  | ok o => rw [hp] at h; exact h

set_option maxHeartbeats 1000000 in
theorem spot_big (s : ByteArray) (i : Nat) (w : World) (hs : s.size ≤ 140737488355328) (hi : i ≤ s.size) :
    Calls Tryz.prog 41 #[.string s, .int .i64 (i : Int)] w fun e w' => e = .returned (.agg #[.int .i64 ((spotN (s.data.toList.take i)).1 : Int), .int .i64 ((spotN (s.data.toList.take i)).2 : Int)]) ∧ Below w.heap.size w w' := by
  go_enter Tryz.func41, Tryz.ntmps41
  go_wp2
  go_loopw [6] (fun q W => ∃ k : Nat, k ≤ i ∧ q = .int .i64 k ∧ Hid (PosBox w W (spotN (s.data.toList.take k)).1 (spotN (s.data.toList.take k)).2)) (fun q _ => i - (intOf q).toNat)
  case atStart =>
    refine ⟨0, Nat.zero_le _, rfl, ?_⟩
    show PosBox _ _ _ _
    refine ⟨?_, ?_, ((Below.refl _ _).alloc (Nat.le_refl _) _).alloc (by simp) _⟩
    · exact (Below.heap_alloc _ _ _ (by simp)).trans (heap_alloc_new w _)
    · have := heap_alloc_new (w.alloc (Obj.cells #[.int .i64 0, .int .i64 0] 29 (0, 0))) (Obj.cells #[.int .i64 1, .int .i64 1] 29 (0, 0))
      simpa [spotN] using this
  case round =>
    obtain ⟨k, hk, rfl, HB⟩ := hrel
    have c0 := fun j => cell_row HB.out.r1 j
    have f0 := fun j => unfrozen_row HB.out.r1 j
    have hle := spotN_le (s.data.toList.take k)
    have hl : (s.data.toList.take k).length ≤ k := List.length_take_le _ _
    by_cases hlt : k < i
    · have hks : k < s.size := by omega
      have HSN : Hid (spotN (s.data.toList.take (k + 1)) = if s[k].toNat = 10 then ((spotN (s.data.toList.take k)).1 + 1, 1) else ((spotN (s.data.toList.take k)).1, (spotN (s.data.toList.take k)).2 + 1)) := by
        show _ = _
        rw [take_snoc _ k (by simpa using hks), spotN_snoc, list_at s k hks]
      obtain ⟨line, hline⟩ : ∃ x, x = (spotN (s.data.toList.take k)).1 := ⟨_, rfl⟩
      obtain ⟨col, hcol⟩ : ∃ x, x = (spotN (s.data.toList.take k)).2 := ⟨_, rfl⟩
      rw [← hline, ← hcol] at HB HSN c0 hle
      clear hline hcol
      obtain ⟨l1, l2⟩ := hle
      by_cases h10 : (s[k].toNat : Int) = 10
      · have e : s[k].toNat = 10 := by omega
        have HR : Hid (spotN (s.data.toList.take (k + 1)) = (line + 1, 1)) := by show _ = _; rw [HSN.out, if_pos e]
        clear e HSN
        go_wp2
        refine ⟨⟨k + 1, hlt, by go_num, ?_⟩, by simp [intOf]; omega⟩
        show PosBox _ _ _ _
        rw [HR.out]
        exact HB.out.store (line + 1) 1
      · have h10b : ((s[k].toNat : Int) == 10) = false := by rw [beq_eq_false_iff_ne]; omega
        have HR : Hid (spotN (s.data.toList.take (k + 1)) = (line, col + 1)) := by show _ = _; rw [HSN.out, if_neg (by omega)]
        clear HSN h10
        go_wp2
        refine ⟨⟨k + 1, hlt, by go_num, ?_⟩, by simp [intOf]; omega⟩
        show PosBox _ _ _ _
        rw [HR.out]
        exact HB.out.store1 (col + 1)
    · have hkk : k = i := by omega
      subst hkk
      have c1 := fun j => cell_row HB.out.r0 j
      have f1 := fun j => unfrozen_row HB.out.r0 j
      go_wp2
      exact bodyPost_ret (v := .agg #[.int .i64 ((spotN (s.data.toList.take k)).1 : Int), .int .i64 ((spotN (s.data.toList.take k)).2 : Int)]) (by simp [results, Tryz.results41, go_sem, c1]) rfl ⟨rfl, (HB.out.below.setCell (by simp) _).setCell (by simp) _⟩



set_option maxHeartbeats 1000000 in
theorem Spot_any (s : ByteArray) (w : World) (hs : s.size ≤ 140737488355328) :
    Calls Tryz.prog 17 #[.string s, .int .i64 (s.size : Int)] w fun e w' => e = .returned (.agg #[.int .i64 ((spotN s.data.toList).1 : Int), .int .i64 ((spotN s.data.toList).2 : Int)]) ∧ Below w.heap.size w w' := by
  have H : Hid (∀ W : World, Calls Tryz.prog 41 #[.string s, .int .i64 (s.size : Int)] W fun e w' => e = .returned (.agg #[.int .i64 ((spotN s.data.toList).1 : Int), .int .i64 ((spotN s.data.toList).2 : Int)]) ∧ Below W.heap.size W w') := fun W => by
    have h := spot_big s s.size W hs (Nat.le_refl _)
    rwa [show s.data.toList.take s.size = s.data.toList by rw [List.take_of_length_le]; simp] at h
  go_enter Tryz.func17, Tryz.ntmps17
  go_wp2_with (go_at_call 41; refine (H.out _).mono ?_; rintro e w1 ⟨rfl, b1⟩; have r1 := (b1.block w.heap.size (by simp)).trans (heap_alloc_new w _); have c1 := fun j => cell_row r1 j; have f1 := fun j => unfrozen_row r1 j; have hs1 := (Array.getElem?_eq_some_iff.1 r1).1; have B1 : Hid (Below w.heap.size w w1) := ((Below.refl _ _).alloc (Nat.le_refl _) _).trans (b1.mono (by simp)); clear b1 r1)
  exact bodyPost_ret (v := .agg #[.int .i64 ((spotN s.data.toList).1 : Int), .int .i64 ((spotN s.data.toList).2 : Int)]) (by simp [results, Tryz.results17, go_sem, c1]) rfl ⟨rfl, (B1.out.setCell (by simp) _).setCell (by simp) _⟩

theorem toks_at (l : List UInt8) : ∀ (d i : Nat), l.length - i = d → ∀ t ∈ toksFrom l i, t.at_ ≤ l.length := by
  intro d
  induction d using Nat.strongRecOn with
  | _ d ih =>
    intro i hd t ht
    rw [toksFrom_eq] at ht
    split at ht
    · rcases List.mem_cons.1 ht with rfl | h'
      · exact (next_ok l i).at_
      · exact ih (l.length - (nextT l i).end_) (by omega) _ rfl t h'
    · simp at ht
      subst ht
      exact (next_ok l i).at_
theorem run_at {n : Nat} : ∀ (ts : List PureForm.Tok) (s : PS) (c a : Nat), (∀ t ∈ ts, t.at_ ≤ n) → runP s ts = .error (c, a) → a ≤ n := by
  intro ts
  induction ts with
  | nil => intro s c a _ h; cases h; exact Nat.zero_le _
  | cons t r ih =>
    intro s c a ht h
    rw [runP] at h
    split at h
    · cases h
      exact ht t (List.mem_cons_self ..)
    · next s' _ => exact ih s' c a (fun u hu => ht u (List.mem_cons_of_mem _ hu)) h
    · cases h
theorem parse_at {l : List UInt8} {c a : Nat} (h : parseF l = .error (c, some a)) : a ≤ l.length := by
  unfold parseF at h
  split at h
  · cases h
  · split at h
    · next e a' hr =>
      cases h
      exact run_at _ _ _ _ (toks_at l _ 0 rfl) hr
    · cases h
/-- the fault of a text, by its numbers. -/
theorem fault_same {l m : List UInt8} {c a : Nat} (h : parseF l = .error (c, some a)) (hne : ¬ (spotN (l.take a) = spotN l)) (hl : (l ++ 32 :: m).length ≤ 1048576) : parseF (l ++ 32 :: m) = .error (c, some a) ∧ faultF (l ++ 32 :: m) (c, some a) = faultF l (c, some a) := by
  have ha := parse_at h
  have hlt : a < l.length := by
    rcases Nat.lt_or_ge a l.length with h' | h'
    · exact h'
    · exfalso; apply hne; rw [List.take_of_length_le h']
  refine ⟨parse_prefix h hlt hl, ?_⟩
  unfold faultF
  simp only
  rw [List.take_append_of_le_length ha]

/-- one fault for both who read a text. -/
theorem fault_of (s : ByteArray) : ∃ f0 f1 f2 : Int, (∀ (base : Nat) (e : Ending) (w' : World), ParsedF s.data.toList base e w' → ∃ sa n ca, e = .returned (.tuple #[.slice sa n ca, .agg #[.int .i64 f0, .int .i64 f1, .int .i64 f2]])) ∧
    (∀ m : ByteArray, f0 ≠ 0 → f0 ≠ 5 → ¬ (f1 = ((spotN s.data.toList).1 : Int) ∧ f2 = ((spotN s.data.toList).2 : Int)) → s.size + 1 + m.size ≤ 1048576 → ∀ (base : Nat) (e : Ending) (w' : World), ParsedF (s ++ ⟨#[32]⟩ ++ m).data.toList base e w' → ∃ sa n ca, e = .returned (.tuple #[.slice sa n ca, .agg #[.int .i64 f0, .int .i64 f1, .int .i64 f2]])) := by
  cases hp : parseF s.data.toList with
  | ok o =>
    refine ⟨0, 0, 0, fun base e w' h => ?_, fun m h0 => absurd rfl h0⟩
    unfold ParsedF at h
    rw [hp] at h
    obtain ⟨v, he, ho⟩ := h
    obtain ⟨sa, ca, rfl, _⟩ := own_nodes ho
    exact ⟨sa, _, ca, he⟩
  | error f =>
    obtain ⟨c, oa⟩ := f
    cases oa with
    | none =>
      refine ⟨c, 0, 0, fun base e w' h => ?_, fun m h0 h5 => ?_⟩
      · unfold ParsedF at h
        rw [hp] at h
        exact ⟨_, _, _, h⟩
      · exfalso
        unfold parseF at hp
        split at hp
        · cases hp; exact h5 rfl
        · split at hp <;> cases hp
    | some a =>
      refine ⟨c, (spotN (s.data.toList.take a)).1, (spotN (s.data.toList.take a)).2, fun base e w' h => ?_, fun m h0 h5 hne hsz base e w' h => ?_⟩
      · unfold ParsedF at h
        rw [hp] at h
        exact ⟨_, _, _, h⟩
      · have hcat : (s ++ ⟨#[32]⟩ ++ m).data.toList = s.data.toList ++ 32 :: m.data.toList := by
          simp [ByteArray.data_append]
        rw [hcat] at h
        obtain ⟨h1, h2⟩ := fault_same (m := m.data.toList) hp (by intro e1; apply hne; rw [e1]; exact ⟨rfl, rfl⟩) (by simp; omega)
        unfold ParsedF at h
        rw [h1] at h
        simp only at h
        rw [h2] at h
        exact ⟨_, _, _, h⟩

set_option maxHeartbeats 1000000 in
set_option maxRecDepth 100000 in
theorem prefix_law {K : World → Prop} (hP : Doc.ParseC K 13) (hR : Doc.PrintK K 11) (s m : ByteArray) (w : World) (hk : K w) {g o c : Nat} (hsg : SignsAt w g o c) (hs : s.size ≤ 140737488355328) (hm : m.size ≤ 140737488355328) :
    Calls Tryz.prog 5 #[.string s, .string m] w fun e w' => e = .returned (.bool true) ∧ Below w.heap.size w w' := by
  obtain ⟨f0, f1, f2, hf, hn⟩ := fault_of s
  have HA := hid (Doc.alive_any hP hR w hk)
  have H1 : Hid (∀ (W : World), Below w.heap.size w W → Calls Tryz.prog 13 #[.string s] W fun e w' => (∃ sa n ca, e = .returned (.tuple #[.slice sa n ca, .agg #[.int .i64 f0, .int .i64 f1, .int .i64 f2]])) ∧ Below W.heap.size W w') := fun W hW => by
    refine (hP.call s W (hP.keep _ _ hk hW) (by omega)).mono ?_
    rintro e w' ⟨h1, h2⟩
    exact ⟨hf _ _ _ (parsed_doc h1), h2⟩
  have H2 : Hid (∀ (W : World), Below w.heap.size w W → Calls Tryz.prog 16 #[.string s] W fun e w' => (∃ sa n ca, e = .returned (.tuple #[.slice sa n ca, .agg #[.int .i64 f0, .int .i64 f1, .int .i64 f2]])) ∧ Below W.heap.size W w') := fun W hW => by
    refine (parse_own s W g o c (hsg.below hW) (by omega)).mono ?_
    rintro e w' ⟨h1, h2⟩
    exact ⟨hf _ _ _ h1, h2⟩
  have H3 := hid (fun W => Spot_any s W hs)
  obtain ⟨cat, hcat⟩ : ∃ cat : ByteArray, cat = s ++ ⟨#[32]⟩ ++ m := ⟨_, rfl⟩
  have hcs : s.size + 1 + m.size ≤ 1048576 → cat.size ≤ 9223372036854775807 := by
    rw [hcat, ByteArray.size_append, ByteArray.size_append]
    show _ → s.size + 1 + m.size ≤ _
    omega
  have hn' := hn m
  rw [← hcat] at hn'
  have H4 : Hid (f0 ≠ 0 → f0 ≠ 5 → ¬ (f1 = ((spotN s.data.toList).1 : Int) ∧ f2 = ((spotN s.data.toList).2 : Int)) → s.size + 1 + m.size ≤ 1048576 → ∀ (W : World), Below w.heap.size w W → Calls Tryz.prog 13 #[.string cat] W fun e w' => (∃ sa n ca, e = .returned (.tuple #[.slice sa n ca, .agg #[.int .i64 f0, .int .i64 f1, .int .i64 f2]])) ∧ Below W.heap.size W w') := fun a1 a2 a3 a4 W hW => by
    refine (hP.call cat W (hP.keep _ _ hk hW) (hcs a4)).mono ?_
    rintro e w' ⟨h1, h2⟩
    exact ⟨hn' a1 a2 a3 a4 _ _ _ (parsed_doc h1), h2⟩
  obtain ⟨e1, he1⟩ : ∃ e1 : Int, e1 = ((spotN s.data.toList).1 : Int) := ⟨_, rfl⟩
  obtain ⟨e2, he2⟩ : ∃ e2 : Int, e2 = ((spotN s.data.toList).2 : Int) := ⟨_, rfl⟩
  rw [← he1, ← he2] at H4
  simp only [← he1, ← he2] at H3
  have HCAT := hid hcat
  clear hP hR hk hsg hf hn he1 he2 hn' hcs hcat
  go_enter Tryz.func5, Tryz.ntmps5
  go_wp2_with (first
    | (have q := B2; clear q; go_at_call 16; refine (H2.out _ (B2.out.alloc B2.out.size _)).mono ?_; rintro e w3 ⟨⟨sb, nb, cb, rfl⟩, b3⟩; have r3 := (b3.block w2.heap.size (by simp)).trans (heap_alloc_new w2 _); have c3 := fun j => cell_row r3 j; have hs3 := (Array.getElem?_eq_some_iff.1 r3).1; have R3 := hid r3; have B3 := hid ((B2.out.alloc B2.out.size _).trans (b3.mono (Nat.le_trans B2.out.size (by simp)))); clear b3 r3)
    | (have q := B1; clear q; go_at_call 13; refine (H1.out _ B1.out).mono ?_; rintro e w2 ⟨⟨sa, na, ca, rfl⟩, b2⟩; have B2 := hid (B1.out.trans (b2.mono B1.out.size)); clear b2)
    | (go_at_call 9; refine HA.out.mono ?_; rintro e w1 ⟨rfl, b1⟩; have B1 := hid b1; clear b1))
  refine (H3.out _).mono ?_
  rintro e w4 ⟨rfl, b4⟩
  have r4 := (b4.block w2.heap.size (by simp; omega)).trans ((Below.heap_alloc _ _ _ (by omega)).trans R3.out)
  have c4 := fun j => cell_row r4 j
  have hs4 := (Array.getElem?_eq_some_iff.1 r4).1
  have R4 := hid r4
  have B4 := hid ((B3.out.alloc B3.out.size _).trans (b4.mono (Nat.le_trans B3.out.size (by simp))))
  clear b4 r4 c3 hs3 R3
  by_cases h0 : f0 = 0
  · subst h0
    clear H4 HCAT
    go_wp2
    go_ret
    exact ⟨rfl, B4.out.alloc B4.out.size _⟩
  · have b0 : (f0 == 0) = false := by rw [beq_eq_false_iff_ne]; exact h0
    by_cases h5 : f0 = 5
    · subst h5
      clear H4 HCAT h0 b0
      go_wp2
      go_ret
      exact ⟨rfl, B4.out.alloc B4.out.size _⟩
    · have b5 : (f0 == 5) = false := by rw [beq_eq_false_iff_ne]; exact h5
      by_cases heq : f1 = e1 ∧ f2 = e2
      · obtain ⟨rfl, rfl⟩ := heq
        clear H4 HCAT h0 h5
        go_wp2
        go_ret
        exact ⟨rfl, B4.out.alloc B4.out.size _⟩
      · by_cases h1 : f1 = e1
        · have h2 : ¬ f2 = e2 := fun h => heq ⟨h1, h⟩
          subst h1
          have b2 : (f2 == e2) = false := by rw [beq_eq_false_iff_ne]; exact h2
          by_cases hsz : 1048576 < (s.size : Int) + 1 + (m.size : Int)
          · clear H4 HCAT h0 h5 heq
            go_wp2
            go_ret
            exact ⟨rfl, B4.out.alloc B4.out.size _⟩
          · have H5 := hid (H4.out h0 h5 (fun h => h2 h.2) (by omega))
            clear H4 h0 h5 heq
            go_wp2_with (rw [← HCAT.out]; go_at_call 13; refine (H5.out _ (B4.out.alloc B4.out.size _)).mono ?_; rintro e w5 ⟨⟨sc, nc, cc, rfl⟩, b5⟩; have r5 := (b5.block w2.heap.size (by simp; omega)).trans ((Below.heap_alloc _ _ _ (by omega)).trans R4.out); have c5 := fun j => cell_row r5 j; have hs5 := (Array.getElem?_eq_some_iff.1 r5).1; have B5 := hid ((B4.out.alloc B4.out.size _).trans (b5.mono (Nat.le_trans B4.out.size (by simp)))); clear b5 r5 c4 hs4)
            go_ret
            exact ⟨rfl, B5.out.alloc B5.out.size _⟩
        · have b1 : (f1 == e1) = false := by rw [beq_eq_false_iff_ne]; exact h1
          by_cases hsz : 1048576 < (s.size : Int) + 1 + (m.size : Int)
          · clear H4 HCAT h0 h5 heq h1
            go_wp2
            go_ret
            exact ⟨rfl, B4.out.alloc B4.out.size _⟩
          · have H5 := hid (H4.out h0 h5 heq (by omega))
            clear H4 h0 h5 heq h1
            go_wp2_with (rw [← HCAT.out]; go_at_call 13; refine (H5.out _ (B4.out.alloc B4.out.size _)).mono ?_; rintro e w5 ⟨⟨sc, nc, cc, rfl⟩, b5⟩; have r5 := (b5.block w2.heap.size (by simp; omega)).trans ((Below.heap_alloc _ _ _ (by omega)).trans R4.out); have c5 := fun j => cell_row r5 j; have hs5 := (Array.getElem?_eq_some_iff.1 r5).1; have B5 := hid ((B4.out.alloc B4.out.size _).trans (b5.mono (Nat.le_trans B4.out.size (by simp)))); clear b5 r5 c4 hs4)
            go_ret
            exact ⟨rfl, B5.out.alloc B5.out.size _⟩
end Go.Proofs.YtdkboifpdodonabGreatDoor.Ref
/-
  FormulaPrefix: the row and its card.
-/

namespace Go.Proofs.YtdkboifpdodonabGreatDoor
open Go.ChangeShapes Go.WideShapes Go.ChangeAt Go.RowKit Go.Deep PureCnf PureForm

set_option maxRecDepth 100000 in
theorem formulaPrefix_contract (H : Type) (enc : TypeId × Value → H) (W : World) (base : Nat) (args : Array Value) (ds gs : List (DataW H)) (before : List MemPlace)
    (hval : ∀ (j : Nat) t v, Tryz.f5.params[j]? = some t → args[j]? = some v → Value.okWide Tryz.prog W .any base t v)
    (hW : DataW.Whole enc Tryz.prog Tryz.f5.params.toList Rows.formulaPrefixSpec.vars false W args.toList ds gs before)
    (hsz0 : (DataW.weightsEach Tryz.prog (Tryz.f5.params.toList ++ (OpenSpec.ofChange Rows.formulaPrefixSpec).bare.plain.varTypes Tryz.prog) (ds ++ gs)).all (· ≤ reachBytes) = true) (hL : laidMetH Tryz.prog Rows.formulaPrefixRow.laid W) :
    Calls Tryz.prog 5 args W fun e W' => ∃ v, e = .returned v ∧ Rows.formulaPrefixSpec.post enc Tryz.prog Tryz.f5 false true false false W args v W' := by
  have hsz := hsz0
  clear hsz0
  have hW' := hW
  obtain ⟨p, q, hA0, hV, rfl, hfz, hnd⟩ := hW
  have hA : DataW.TrodAll enc Tryz.prog W 0 (fun _ => true) true Tryz.f5.params.toList args.toList ds p := hA0
  rw [Tryz.params5] at hA hval hsz
  obtain ⟨v0, vs0, d0, ds0, p0, q0, hargs0, rfl, rfl, h0, r0⟩ := trodAll_cons hA
  obtain ⟨v1, vs1, d1, ds1, p1, q1, rfl, rfl, rfl, h1, r1⟩ := trodAll_cons r0
  obtain ⟨rfl, rfl, rfl⟩ := trodAll_nil r1
  obtain rfl : args = #[v0, v1] := by cases args; simp_all
  obtain ⟨rfl, rfl⟩ := trodVars_none hV
  clear hA0
  simp only [List.append_nil] at hW'
  have hlt0 : ∀ x ∈ p0, x.block < W.heap.size := fun x hx => by simpa using hW'.lt x (by simp [hx])
  obtain ⟨s0, rfl, rfl, rfl, hs0⟩ := Go.ChangeMaps.open_string Tryz.underlying9 (hval 0 9 v0 rfl rfl) h0
  have hz0 : s0.size ≤ 140737488351232 := by
    have hr : reachBytes = 140737488351232 := by decide
    have h2 := List.all_eq_true.1 hsz _ (DataW.weights_mem_each (j := 0) rfl rfl s0.size (by simp [DataW.weights]))
    have h3 : s0.size ≤ reachBytes := by simpa using h2
    omega
  have hlt1 : ∀ x ∈ p1, x.block < W.heap.size := fun x hx => by simpa using hW'.lt x (by simp [hx])
  obtain ⟨s1, rfl, rfl, rfl, hs1⟩ := Go.ChangeMaps.open_string Tryz.underlying9 (hval 1 9 v1 rfl rfl) h1
  have hz1 : s1.size ≤ 140737488351232 := by
    have hr : reachBytes = 140737488351232 := by decide
    have h2 := List.all_eq_true.1 hsz _ (DataW.weights_mem_each (j := 1) rfl rfl s1.size (by simp [DataW.weights]))
    have h3 : s1.size ≤ reachBytes := by simpa using h2
    omega
  obtain ⟨g, o, c, hsg⟩ := signs6 hL
  refine (Ref.prefix_law parseK printK s0 s1 W (met6 hL) hsg (by omega) (by omega)).mono fun e W' ⟨he, hnx⟩ => ?_
  subst he
  refine ⟨_, rfl, _, _, _, [], _, [], hW', ?_, trodAll_mk2 (Below.trod laidOut (by kernel_rfl) (of_decide_eq_true (by kernel_rfl)) h0 hnx hlt0) (Below.trod laidOut (by kernel_rfl) (of_decide_eq_true (by kernel_rfl)) h1 hnx hlt1), rfl, hnx.frame _, fun h => by cases h⟩
  exact trodAll_mk1 (shut_bool Tryz.underlying4 _)

set_option maxRecDepth 100000 in
theorem formulaPrefix_lifted (os : Os) (started : os.Started) (H : Type) (enc : TypeId × Value → H) (F : Stop.Interp) :
    ReturnsInHanded {} Tryz.checked os 5 .any ((OpenSpec.ofChange Rows.formulaPrefixSpec).preRow enc Tryz.prog Tryz.f5 Rows.formulaPrefixRow.domain false Rows.formulaPrefixRow.laid) (((OpenSpec.ofChange Rows.formulaPrefixSpec).at F).post enc Tryz.prog Tryz.f5 false true false false) := by
  obtain ⟨lw, hlw⟩ : ∃ lw : World, lw = (fun w0 : World => { w0 with heap := ((((((w0.heap.modify 0 fun
      | .cells _ t frozen => .cells #[.slice (some ⟨(World.holding Tryz.prog default ⟨#[], #[], []⟩).heap.size + 0, 0, none⟩) 21 21] t frozen
      | o => o).modify 5 fun
      | .cells _ t frozen => .cells #[.int .u8 0, .int .u8 1, .int .u8 28, .int .u8 2, .int .u8 29, .int .u8 14, .int .u8 24, .int .u8 3, .int .u8 30, .int .u8 22, .int .u8 20, .int .u8 15, .int .u8 25, .int .u8 17, .int .u8 4, .int .u8 8, .int .u8 31, .int .u8 27, .int .u8 13, .int .u8 23, .int .u8 21, .int .u8 19, .int .u8 16, .int .u8 7, .int .u8 26, .int .u8 12, .int .u8 18, .int .u8 6, .int .u8 11, .int .u8 5, .int .u8 10, .int .u8 9] t frozen
      | o => o).modify 6 fun
      | .cells _ t frozen => .cells #[.int .u8 0, .int .u8 1, .int .u8 56, .int .u8 2, .int .u8 57, .int .u8 49, .int .u8 28, .int .u8 3, .int .u8 61, .int .u8 58, .int .u8 42, .int .u8 50, .int .u8 38, .int .u8 29, .int .u8 17, .int .u8 4, .int .u8 62, .int .u8 47, .int .u8 59, .int .u8 36, .int .u8 45, .int .u8 43, .int .u8 51, .int .u8 22, .int .u8 53, .int .u8 39, .int .u8 33, .int .u8 30, .int .u8 24, .int .u8 18, .int .u8 12, .int .u8 5, .int .u8 63, .int .u8 55, .int .u8 48, .int .u8 27, .int .u8 60, .int .u8 41, .int .u8 37, .int .u8 16, .int .u8 46, .int .u8 35, .int .u8 44, .int .u8 21, .int .u8 52, .int .u8 32, .int .u8 23, .int .u8 11, .int .u8 54, .int .u8 26, .int .u8 40, .int .u8 15, .int .u8 34, .int .u8 20, .int .u8 31, .int .u8 10, .int .u8 25, .int .u8 14, .int .u8 19, .int .u8 9, .int .u8 13, .int .u8 8, .int .u8 7, .int .u8 6] t frozen
      | o => o).modify 4 fun
      | .cells _ t frozen => .cells #[.int .u64 1, .int .u64 10, .int .u64 100, .int .u64 1000, .int .u64 10000, .int .u64 100000, .int .u64 1000000, .int .u64 10000000, .int .u64 100000000, .int .u64 1000000000, .int .u64 10000000000, .int .u64 100000000000, .int .u64 1000000000000, .int .u64 10000000000000, .int .u64 100000000000000, .int .u64 1000000000000000, .int .u64 10000000000000000, .int .u64 100000000000000000, .int .u64 1000000000000000000, .int .u64 10000000000000000000] t frozen
      | o => o).modify 1 fun
      | .cells _ t frozen => .cells ((List.range 256).map fun c => Value.int .u8 (Lib.firstT c)).toArray t frozen
      | o => o).modify 2 fun
      | .cells _ t frozen => .cells ((List.range 16).flatMap fun i => [Value.int .u8 (Lib.accLo i), Value.int .u8 (Lib.accHi i)]).toArray t frozen
      | o => o) }) (World.holding Tryz.prog os ⟨#[.cells #[.string ⟨#[60, 45, 62]⟩, .int .i64 7, .int .i64 10, .string ⟨#[45, 62]⟩, .int .i64 7, .int .i64 9, .string ⟨#[33]⟩, .int .i64 4, .int .i64 0, .string ⟨#[126]⟩, .int .i64 4, .int .i64 0, .string ⟨#[38]⟩, .int .i64 7, .int .i64 6, .string ⟨#[124]⟩, .int .i64 7, .int .i64 7, .string ⟨#[94]⟩, .int .i64 7, .int .i64 8, .string ⟨#[40]⟩, .int .i64 8, .int .i64 0, .string ⟨#[41]⟩, .int .i64 9, .int .i64 0, .string ⟨#[44]⟩, .int .i64 10, .int .i64 0, .string ⟨#[58]⟩, .int .i64 11, .int .i64 0, .string ⟨#[194, 172]⟩, .int .i64 4, .int .i64 0, .string ⟨#[226, 136, 167]⟩, .int .i64 7, .int .i64 6, .string ⟨#[226, 136, 168]⟩, .int .i64 7, .int .i64 7, .string ⟨#[226, 138, 149]⟩, .int .i64 7, .int .i64 8, .string ⟨#[226, 134, 146]⟩, .int .i64 7, .int .i64 9, .string ⟨#[226, 134, 148]⟩, .int .i64 7, .int .i64 10, .string ⟨#[226, 136, 131]⟩, .int .i64 5, .int .i64 4, .string ⟨#[226, 136, 128]⟩, .int .i64 5, .int .i64 5, .string ⟨#[226, 138, 164]⟩, .int .i64 2, .int .i64 1, .string ⟨#[226, 138, 165]⟩, .int .i64 2, .int .i64 0] 130], #[], []⟩) := ⟨_, rfl⟩
  have hos : lw.os = os := by rw [hlw]; rfl
  have hv : (lw.forCall (fun _ _ => 0) ⟨#[], #[.string ⟨#[]⟩, .string ⟨#[]⟩], []⟩).variablesRefB Tryz.checked.prog = true := by rw [hlw]; kernel_rfl
  have hr : ((lw.forCall (fun _ _ => 0) ⟨#[], #[.string ⟨#[]⟩, .string ⟨#[]⟩], []⟩).heap.toList.drop Tryz.checked.prog.globals.size).take ((begin Tryz.checked.prog (fun _ _ => 0) default).world.heap.size - Tryz.checked.prog.globals.size) = (begin Tryz.checked.prog (fun _ _ => 0) default).world.heap.toList.drop Tryz.checked.prog.globals.size := by rw [hlw]; kernel_rfl
  have hok : Input.okWideB Tryz.checked.prog (lw.forCall (fun _ _ => 0) ⟨#[], #[.string ⟨#[]⟩, .string ⟨#[]⟩], []⟩) 5 ⟨#[], #[.string ⟨#[]⟩, .string ⟨#[]⟩], []⟩ = true := by rw [hlw]; kernel_rfl
  have hx : DataW.whole enc Tryz.prog (lw.forCall (fun _ _ => 0) ⟨#[], #[.string ⟨#[]⟩, .string ⟨#[]⟩], []⟩).memory Tryz.f5.params.toList Rows.formulaPrefixSpec.vars false #[Value.string ⟨#[]⟩, Value.string ⟨#[]⟩].toList 8 = some ([.lit (.string []), .lit (.string [])], [], []) := by rw [hlw]; kernel_rfl
  have hlm : laidMet Tryz.prog Rows.formulaPrefixRow.laid (lw.forCall (fun _ _ => 0) ⟨#[], #[.string ⟨#[]⟩, .string ⟨#[]⟩], []⟩).memory := by rw [hlw]; exact laidMet_of_run' 8 (by kernel_rfl) (by kernel_rfl)
  clear hlw
  refine returnsInHanded_of_row (C := Tryz.checked) (s := OpenSpec.ofChange Rows.formulaPrefixSpec) own started (by kernel_rfl) Tryz.func5
    (witness_row_atRef (enc := enc) (C := Tryz.checked) false lw #[.string ⟨#[]⟩, .string ⟨#[]⟩] hos hv hr hok
      (OpenSpec.preRow_of_cond 8 hx (by kernel_rfl) (fun k hk => by cases hk) (by kernel_rfl) hlm)) ?_
  intro W base args ds gs before hval hW _ _ hsz hL _ _
  exact formulaPrefix_contract H enc W base args ds gs before hval hW hsz hL

theorem formulaPrefix_said : Rows.FormulaPrefixSaid :=
  OpenClaim.holds_of_cond 5 Tryz.f5 rfl rfl rfl rfl rfl rfl rfl ⟨rfl, rfl, rfl, rfl, rfl⟩ rfl rfl rfl rfl rfl (by kernel_rfl) Tryz.func5 (by kernel_rfl)
    (of_decide_eq_true (by kernel_rfl)) (by unfold Func.isWrapper; first | (rw [if_pos (by decide +kernel)]; kernel_rfl) | (rw [if_neg (by decide +kernel)]; exact ⟨rfl, rfl⟩))
    (fun os started H enc _ F => by rw [OpenClaim.pre_eq_preRow]; exact formulaPrefix_lifted os started H enc F)

/-- no parameter wants a stand-in. -/
theorem formulaPrefix_plain (f : FuncId) (fn : Func) (hf : Tryz.pinned.checked.prog.funcNamed "strata/stratalaw13.FormulaPrefix" = some f) (hfn : Tryz.pinned.checked.prog.funcs[f]? = some fn) :
    true = Tryz.pinned.checked.prog.looks [] ∧ ∀ (j : Nat) t, fn.params[j]? = some t → Tryz.pinned.checked.prog.wantsStandIn t = false := by
  obtain rfl : f = 5 := Option.some.inj ((show Tryz.prog.funcNamed "strata/stratalaw13.FormulaPrefix" = some 5 by kernel_rfl).symm.trans hf) |>.symm
  obtain rfl : fn = Tryz.f5 := (Option.some.inj (Tryz.func5.symm.trans hfn)).symm
  refine ⟨by kernel_rfl, fun j t ht => ?_⟩
  rw [Tryz.params5] at ht
  have hm : t = 9 := by
    have := Array.mem_of_getElem? ht
    simpa using this
  subst hm
  exact (show Tryz.prog.wantsStandIn 9 = false by kernel_rfl)

theorem formulaPrefix_holds : Rows.FormulaPrefixCardSaid :=
  Claim7.holds_tied_plain_at .later [] _ _ _ _ formulaPrefix_said (fun _ h => by cases h) (by kernel_rfl) (fun _ h => by cases h) formulaPrefix_row_tie rfl ⟨rfl, rfl⟩ (by kernel_rfl) rfl formulaPrefix_plain (by kernel_rfl)
#print axioms formulaPrefix_holds
end Go.Proofs.YtdkboifpdodonabGreatDoor
