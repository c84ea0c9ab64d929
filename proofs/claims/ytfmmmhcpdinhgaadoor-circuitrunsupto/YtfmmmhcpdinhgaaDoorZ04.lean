import Derived.Test.YtfmmmhcpdinhgaaDoorZ03
/-
  The document's own comes.
-/
namespace Go.Proofs.YtfmmmhcpdinhgaaDoor
open Go.RowKit Go.Deep PureNet ShfKit
set_option maxRecDepth 100000

/-- marks, and the places that are still to be searched. -/
structure Cm (w W : World) (met : List Bool) (wv : Value) (work : List Nat) : Prop where
  row : W.heap[w.heap.size]? = some (.cells (bo met).toArray 4 (0, 0))
  fam : Fam W w.heap.size 3 1 [(wv, work.length, placesV work)]
  below : Below w.heap.size w W
section
variable {w W W' : World} {met : List Bool} {wv : Value} {work : List Nat}
theorem Cm.on (h : Cm w W met wv work) (hb : Below W.heap.size W W') : Cm w W' met wv work :=
  ⟨(hb.block _ (Array.getElem?_eq_some_iff.1 h.row).1).trans h.row, h.fam.below hb, h.below.trans (hb.mono h.below.size)⟩
theorem Cm.mark (h : Cm w W met wv work) (y : Nat) : Cm w (W.setCell ⟨w.heap.size, y, none⟩ (.bool true)) (met.set y true) wv work := by
  refine ⟨?_, ?_, h.below.setCell (Nat.le_refl _) _⟩
  · have := row_set (i := y) (u := .bool true) h.row
    rw [this]
    congr 2
    apply Array.ext'
    simp [bo, List.map_set]
  · refine ⟨fun i x hx => ShfKit.own_kept (h.fam.own i x hx) fun g hg => Below.heap_setCell W _ _ _ ?_, h.fam.apart⟩
    rintro rfl
    exact own_ne (h.fam.own i x hx) h.row (by decide) hg
theorem Cm.cell (h : Cm w W met wv work) {y : Nat} {b : Bool} (hy : met[y]? = some b) : W.cell? ⟨w.heap.size, y, none⟩ = some (.bool b) ∧ W.frozen? ⟨w.heap.size, y, none⟩ = false := by
  refine ⟨?_, unfrozen_row h.row y⟩
  rw [cell_row h.row]
  simp [bo, hy]
theorem places_take (work : List Nat) (i : Nat) : (placesV (work ++ [i])).take work.length = placesV work := by
  rw [← places_snoc, List.take_left' (by simp [placesV, rowF_len])]
/-- the last one is cut off. -/
theorem Cm.cut {i g c : Nat} (h : Cm w W met (.slice (some ⟨g, 0, none⟩) (work.length + 1) c) (work ++ [i])) : Cm w W met (.slice (some ⟨g, 0, none⟩) work.length c) work := by
  refine ⟨h.row, ⟨fun j x hx => ?_, fun j k x y g hx hy hne => ?_⟩, h.below⟩
  · match j, hx with
    | 0, hx =>
      cases hx
      have h0 := h.fam.own 0 _ rfl
      refine ⟨by simp [placesV, rowF_len], ?_⟩
      rcases h0.2 with ⟨hv, _⟩ | ⟨g', cap, cur, hv, hb, hr, hnc, hcm, hcs, htk⟩
      · cases hv
      · have hv2 : Value.slice (some ⟨g, 0, none⟩) (work.length + 1) c = .slice (some ⟨g', 0, none⟩) (work ++ [i]).length cap := hv
        simp only [Value.slice.injEq, Option.some.injEq, Addr.mk.injEq, and_true] at hv2
        obtain ⟨rfl, _, rfl⟩ := hv2
        have hnc2 : (work ++ [i]).length ≤ c := hnc
        rw [List.length_append] at hnc2
        refine .inr ⟨g, c, cur, rfl, hb, hr, show work.length ≤ c by omega, hcm, hcs, ?_⟩
        have := congrArg (List.take work.length) htk
        rw [places_take] at this
        rw [← this, List.take_take, Nat.mul_one]
        simp
    | j + 1, hx => simp at hx
  · match j, k, hx, hy, hne with
    | 0, 0, _, _, hne => exact absurd rfl hne
    | 0, k + 1, _, hy, _ => simp at hy
    | j + 1, _, hx, _, _ => simp at hx
theorem Cm.shape (h : Cm w W met wv work) : ∃ sa c, wv = .slice sa work.length c := own_shape (h.fam.own 0 _ rfl)
theorem Cm.last {i : Nat} (h : Cm w W met wv (work ++ [i])) : ∃ g c, wv = .slice (some ⟨g, 0, none⟩) (work.length + 1) c ∧ g < W.heap.size ∧ W.cell? ⟨g, work.length, none⟩ = some (.int .i64 (i : Int)) ∧ work.length + 1 ≤ c := by
  obtain ⟨g, c, hv, _, hg, hc, _⟩ := own_cell (h.fam.own 0 _ rfl) (rowF_at (work ++ [i]).length (fun k => ((work ++ [i]).getD k 0 : Int)) work.length (by simp))
  have hv2 : wv = .slice (some ⟨g, 0, none⟩) (work ++ [i]).length c := hv
  refine ⟨g, c, by simpa using hv2, hg, by simpa using hc, ?_⟩
  have h0 := h.fam.own 0 _ rfl
  rcases h0.2 with ⟨hn, _⟩ | ⟨g', cap, cur, hw, _, _, hnc, _⟩
  · have hn2 : wv = .slice none 0 0 := hn
    rw [hv2] at hn2
    cases hn2
  · have hw2 : wv = .slice (some ⟨g', 0, none⟩) (work ++ [i]).length cap := hw
    rw [hv2] at hw2
    simp only [Value.slice.injEq, true_and] at hw2
    have hnc2 : (work ++ [i]).length ≤ cap := hnc
    rw [List.length_append, List.length_singleton] at hnc2
    omega
end
/-- how many marks are off, and how many places are to be searched. -/
def offs (W : World) (g n : Nat) : Nat := ((List.range n).filter fun i => match W.cell? ⟨g, i, none⟩ with | some (.bool false) => true | _ => false).length
def lenV : Value → Nat | .slice _ k _ => k | _ => 0
theorem cntF_take (met : List Bool) : ∀ m, m ≤ met.length → cntP (fun i => decide (met[i]? = some false)) m = cntF (met.take m) := by
  intro m
  induction m with
  | zero => intro _; rfl
  | succ m ih =>
    intro h
    have hm : met[m]? = some met[m] := List.getElem?_eq_getElem (by omega)
    rw [cntP_succ, ih (by omega), List.take_add_one, hm]
    unfold cntF
    rw [List.filter_append, List.length_append]
    cases met[m] <;> simp
theorem offs_eq {W : World} {g : Nat} {met : List Bool} (h : W.heap[g]? = some (.cells (bo met).toArray 4 (0, 0))) : offs W g met.length = cntF met := by
  have e := cntF_take met met.length (Nat.le_refl _)
  rw [List.take_length] at e
  rw [← e]
  unfold offs
  refine cntP_congr fun i hi => ?_
  have hm : met[i]? = some met[i] := List.getElem?_eq_getElem hi
  rw [cell_row h]
  simp only [bo, List.getElem?_toArray, List.getElem?_map, hm, Option.map_some]
  cases met[i] <;> simp

set_option maxHeartbeats 1000000 in
set_option maxRecDepth 100000 in
theorem comes_any (l : List Ga) (left : List Bool) (sg sl : Option Addr) (cg cl : Nat) (fr : Nat) (w : World) (hc : CellsAt w sg (gas l)) (hlf : CellsAt w sl (bo left)) (hll : left.length = l.length) (hl : l.length ≤ 65536) (hp : ∀ (i : Nat) (g : Ga), l[i]? = some g → ∀ a ∈ leansOn g, 0 ≤ a ∧ a < (l.length : Int)) (hfr : fr < l.length) (hcirc : ∀ x, PureNet.Way l x x → left[x]? = some true) :
    Calls Tryd.prog 87 #[.slice sg l.length cg, .slice sl l.length cl, .int .i64 (fr : Int)] w fun e w' => (∃ b : Bool, e = .returned (.bool b) ∧ (b = true ↔ PureNet.Way l fr fr)) ∧ Below w.heap.size w w' := by
  obtain ⟨n, hn⟩ : ∃ n, n = l.length := ⟨_, rfl⟩
  have HC := hid hc
  have HP := hid hp
  have HN := hid hn
  have HLF := hid hlf
  have HLL := hid hll
  have HCI := hid hcirc
  have hmk : ∀ W : World, (Instr.makeSlice 29 (.int .i64 (n : Int)) (.int .i64 (n : Int))).run Tryd.prog W = .ok (.slice (some ⟨W.heap.size, 0, none⟩) n n) (W.alloc (.cells (madeCells #[.bool false] n) 4)) := fun W =>
    run_make_row' (P := Tryd.prog) 29 4 (.bool false) 1 Tryd.underlying29 info4 rfl .i64 .i64 n (by omega) (by omega) W
  have hl' : n ≤ 65536 := by omega
  have hfr' : fr < n := by omega
  obtain ⟨ok, hok⟩ : ∃ ok : Nat → Bool, ok = fun x => decide (left[x]? = some true) := ⟨_, rfl⟩
  have HOK := hid hok
  rw [← hn]
  clear hc hp hn hl hlf hll hcirc hfr hok
  go_enter Tryd.func87, Tryd.ntmps87
  go_wp2
  obtain ⟨X, hX⟩ : ∃ X, X = (w.alloc (.cells (madeCells #[.bool false] n) 4)).alloc (.cells #[.int .i64 (fr : Int)] 3) := ⟨_, rfl⟩
  have HX0 : Hid (Cm w X (List.replicate l.length false) (.slice (some ⟨w.heap.size + 1, 0, none⟩) 1 1) [fr] ∧ Sea l fr ok (List.replicate l.length false) [fr] nobody) := by
    refine ⟨⟨?_, ?_, ?_⟩, Sea.start⟩
    · rw [hX]
      refine (Below.heap_alloc _ _ _ (by simp)).trans ((heap_alloc_new w _).trans ?_)
      congr 2
      apply Array.ext'
      rw [toList_madeCells_one]
      simp [bo, HN.out]
    · rw [hX]
      have h1 := (Fam.nil (w.alloc (.cells (madeCells #[.bool false] n) 4)) w.heap.size 3 1).push (y := (.slice (some ⟨w.heap.size + 1, 0, none⟩) 1 1, 1, placesV [fr])) ((Below.refl _ _).alloc (Nat.le_refl _) (.cells #[.int .i64 (fr : Int)] 3)) (by
        refine ⟨by simp [placesV, rowF_len], .inr ⟨w.heap.size + 1, 1, #[.int .i64 (fr : Int)], rfl, by simp, ?_, Nat.le_refl _, by decide, ?_, ?_⟩⟩
        · have := heap_alloc_new (w.alloc (.cells (madeCells #[.bool false] n) 4)) (.cells #[.int .i64 (fr : Int)] 3)
          simpa using this
        · rfl
        · rfl) (by simp)
      exact h1
    · rw [hX]
      exact ((Below.refl _ _).alloc (Nat.le_refl _) _).alloc (by simp) _
  rw [← hX]
  clear hX hmk
  go_loopw [8] (fun wv W => ∃ (met : List Bool) (work : List Nat), 2 * cntF met + work.length ≤ 2 * n + 1 ∧ Hid (Cm w W met wv work ∧ Sea l fr ok met work nobody)) (fun wv W => 2 * offs W w.heap.size n + lenV wv)
  case atStart => exact ⟨_, _, by rw [HN.out]; simp [cntF], HX0.out⟩
  case round =>
    obtain ⟨met, work, hbud, HR⟩ := hrel
    clear HX0
    have hml := HR.out.2.len
    obtain ⟨sw, cw, hwv⟩ := HR.out.1.shape
    subst hwv
    rcases List.eq_nil_or_concat work with h0 | ⟨work', i, h0⟩
    · subst h0
      have HNO : Hid (¬ PureNet.Way l fr fr) := HR.out.2.fin (fun x hx => by rw [HOK.out]; exact decide_eq_true (HCI.out x hx))
      have HB := hid HR.out.1.below
      clear HR
      go_wp2
      go_ret
      exact ⟨⟨false, rfl, by simp [HNO.out]⟩, HB.out⟩
    · rw [List.concat_eq_append] at h0
      subst h0
      obtain ⟨gw, cw', hv, hgw, ci, hcap⟩ := HR.out.1.last
      rw [List.length_append, List.length_singleton] at hv
      simp only [Value.slice.injEq, true_and] at hv
      obtain ⟨rfl, rfl⟩ := hv
      obtain ⟨hs0, hi0⟩ := HR.out.2.pop
      have hin : i < n := by
        rcases hi0 with h | h
        · omega
        · have := (List.getElem?_eq_some_iff.1 h).1
          rw [hml, ← HN.out] at this
          exact this
      obtain ⟨g, hg⟩ : ∃ g, l[i]? = some g := ⟨_, List.getElem?_eq_getElem (by rw [← HN.out]; exact hin)⟩
      have hcm := HR.out.1
      rw [show (Value.slice (some ⟨gw, 0, none⟩) (work' ++ [i]).length cw) = Value.slice (some ⟨gw, 0, none⟩) (work'.length + 1) cw by simp] at hcm
      obtain ⟨b, o, rfl, hb, d0, d1, d2, d3, d4, d5⟩ := gate_at (HC.out.below hcm.below) i g hg
      obtain ⟨a0, a1, a2, hlv, hak⟩ := leansV_form g
      have HLE := hid (fun W => leans_any g W)
      rw [hlv] at HLE
      obtain ⟨cnt, hcnt⟩ : ∃ c, c = (leansOn g).length := ⟨_, rfl⟩
      rw [← hcnt] at HLE
      have hcnt3 : cnt ≤ 3 := by rw [hcnt]; exact leans_len g
      have HCNT := hid hcnt
      have HG := hid hg
      have HAK := hid hak
      have HCM := hid hcm.cut
      have HS0 := hid hs0
      have HI0 := hid hi0
      have hoff := offs_eq hcm.row
      rw [hml, ← HN.out] at hoff
      have HOFF := hid hoff
      have hwl : (work' ++ [i]).length = work'.length + 1 := by simp
      rw [hwl] at hbud
      have hwb : work'.length ≤ 131072 := by omega
      rw [hwl]
      clear hg hlv hak hcnt HR hs0 hi0 hoff hcm hml hwl
      go_wp2_with (go_at_call 47; refine Calls.mono (HLE.out _) ?_; rintro e w1 ⟨rfl, b1⟩; have HC1 : Hid (∀ o, Cm w (w1.alloc o) met (.slice (some ⟨gw, 0, none⟩) work'.length cw) work') := (fun o => (HCM.out.on b1).on ((Below.refl _ _).alloc (Nat.le_refl _) o)); have HR1 : Hid (w.heap.size < w1.heap.size) := Nat.lt_of_lt_of_le (Array.getElem?_eq_some_iff.1 HCM.out.row).1 b1.size; clear b1)
      obtain ⟨Y, hY⟩ : ∃ Y, Y = w1.alloc (Obj.cells #[Value.int IntKind.i64 a0, Value.int IntKind.i64 a1, Value.int IntKind.i64 a2] 79) := ⟨_, rfl⟩
      have HCY : Hid (Cm w Y met (.slice (some ⟨gw, 0, none⟩) work'.length cw) work') := by rw [hY]; exact HC1.out _
      have HRY : Hid (Y.heap[w1.heap.size]? = some (.cells #[Value.int IntKind.i64 a0, Value.int IntKind.i64 a1, Value.int IntKind.i64 a2] 79 (0, 0))) := by rw [hY]; exact heap_alloc_new w1 _
      rw [← hY]
      clear hY HC1 HLE d0 d1 d2 d3 d4 d5 HCM ci
      go_loopw [8, 12] (fun wv tv W => ∃ (t : Nat) (met1 : List Bool) (work1 : List Nat), t ≤ cnt ∧ tv = .int .i64 (t : Int) ∧ 2 * cntF met1 + work1.length ≤ 2 * cntF met + work'.length ∧ Hid (Cm w W met1 wv work1 ∧ Sea l fr ok met1 work1 (PureNet.seen fr ok met1 i t) ∧ (i = fr ∨ met1[i]? = some true) ∧ W.heap[w1.heap.size]? = some (.cells #[Value.int IntKind.i64 a0, Value.int IntKind.i64 a1, Value.int IntKind.i64 a2] 79 (0, 0)))) (fun _ tv _ => cnt - (intOf tv).toNat)
      case atStart => exact ⟨0, met, work', Nat.zero_le _, rfl, Nat.le_refl _, HCY.out, HS0.out, HI0.out, HRY.out⟩
      case round =>
        obtain ⟨t, met1, work1, ht, rfl, hb1, HT⟩ := hrel
        clear HCY HS0 HI0 HRY
        have hml := HT.out.2.1.len
        obtain ⟨sw, cw1, hwv⟩ := HT.out.1.shape
        subst hwv
        have hwb1 : work1.length ≤ 131073 := by omega
        by_cases htl : t < cnt
        · obtain ⟨av, hav⟩ : ∃ a, (leansOn g)[t]? = some a := ⟨_, List.getElem?_eq_getElem (by rw [← HCNT.out]; exact htl)⟩
          obtain ⟨av0, av1⟩ := HP.out i g HG.out av (List.mem_of_getElem? hav)
          obtain ⟨y, rfl⟩ := Int.eq_ofNat_of_zero_le av0
          have hyl : y < l.length := by omega
          have hyn : y < n := by rw [HN.out]; exact hyl
          have HCR : Hid (∀ W : World, W.heap[w1.heap.size]? = some (.cells #[Value.int IntKind.i64 a0, Value.int IntKind.i64 a1, Value.int IntKind.i64 a2] 79 (0, 0)) → W.cell? ⟨w1.heap.size, t, none⟩ = some (.int .i64 (y : Int))) := fun W hW => by
            rw [cell_row hW]
            have := HAK.out t _ hav
            match t, this with
            | 0, h => simp at h; simp [h]
            | 1, h => simp at h; simp [h]
            | 2, h => simp at h; simp [h]
          have car := HCR.out wr HT.out.2.2.2
          have car1 := (Array.getElem?_eq_some_iff.1 HT.out.2.2.2).1
          have HAV := hid hav
          clear hav av1
          by_cases hyf : y = fr
          · have HW : Hid (PureNet.Way l fr fr) := HT.out.2.1.back HG.out HAV.out av0 HT.out.2.2.1 (by simpa using hyf)
            have HB := hid HT.out.1.below
            clear HT
            subst hyf
            go_wp2
            go_ret
            exact ⟨⟨true, rfl, by simp [HW.out]⟩, HB.out⟩
          · have hyfb : ((y : Int) == (fr : Int)) = false := by rw [beq_eq_false_iff_ne]; omega
            obtain ⟨lb, hlb⟩ : ∃ b, left[y]? = some b := ⟨_, List.getElem?_eq_getElem (by rw [HLL.out]; exact hyl)⟩
            obtain ⟨mb, hmb⟩ : ∃ b, met1[y]? = some b := ⟨_, List.getElem?_eq_getElem (by rw [hml]; exact hyl)⟩
            obtain ⟨bl, ol, rfl, hbl, cl0⟩ := bit_at HLF.out y lb hlb
            have cl1 := below_cell HT.out.1.below hbl cl0
            have cl2 : bl < wr.heap.size := Nat.lt_of_lt_of_le hbl HT.out.1.below.size
            obtain ⟨cm, fm⟩ := HT.out.1.cell hmb
            have cml := (Array.getElem?_eq_some_iff.1 HT.out.1.row).1
            have HLB := hid hlb
            have HMB := hid hmb
            clear hlb hmb cl0
            by_cases hgo : lb = true ∧ mb = false
            · obtain ⟨rfl, rfl⟩ := hgo
              have HS2 := hid (HT.out.2.1.meet HG.out HAV.out av0 HT.out.2.2.1 (by simpa using hyf) (by simpa using hyl))
              have HM2 := hid (HT.out.1.mark y)
              have hcf := cntF_set HMB.out
              have HI2 : Hid (i = fr ∨ (met1.set y true)[i]? = some true) := by
                rcases HT.out.2.2.1 with h | h
                · exact .inl h
                · refine .inr ?_
                  rw [List.getElem?_set]
                  by_cases hyi : y = i
                  · rw [if_pos hyi, if_pos (by rw [hml]; exact hyl)]
                  · rw [if_neg hyi]; exact h
              have HR2 : Hid ((wr.setCell ⟨w.heap.size, y, none⟩ (.bool true)).heap[w1.heap.size]? = some (.cells #[Value.int IntKind.i64 a0, Value.int IntKind.i64 a1, Value.int IntKind.i64 a2] 79 (0, 0))) := (Below.heap_setCell _ _ _ _ (show w1.heap.size ≠ w.heap.size by have := HR1.out; omega)).trans HT.out.2.2.2
              have car2 := HCR.out _ HR2.out
              have car2l := (Array.getElem?_eq_some_iff.1 HR2.out).1
              clear HT hyf
              go_wp2_with (first
                | (at_builtin; refine fam_app rfl _ _ rfl HM2.out.fam HM2.out.below 0 _ rfl (y : Int) _ _ (by simp [World.setCell]) rfl rfl (by show work1.length ≤ _; omega) ?_; intro sx2 cx2 w2 hf2 hb2 hk2; have HF2 := hid hf2; have HB2 := hid hb2; have HMR := hid (hk2 _ _ _ _ HM2.out.row (by decide)); have HAR := hid (hk2 _ _ _ _ HR2.out (by decide)); clear hf2 hb2 hk2))
              refine ⟨⟨t + 1, met1.set y true, work1 ++ [y], htl, by go_num, by rw [List.length_append, List.length_singleton]; omega, ⟨HMR.out, ?_, HB2.out⟩, ?_, HI2.out, HAR.out⟩, by simp [intOf]; omega⟩
              · rw [← places_snoc, List.length_append, List.length_singleton]
                exact HF2.out
              · simpa using HS2.out
            · have HS2 := hid (HT.out.2.1.pass HG.out HAV.out (by simpa using hyf) (fun h => by
                rw [HOK.out] at h
                have h2 := of_decide_eq_true h
                simp only [Int.toNat_natCast] at h2 ⊢
                rw [HLB.out] at h2
                cases mb with
                | true => exact HMB.out
                | false => exact absurd ⟨Option.some.inj h2, rfl⟩ hgo))
              have HT2 := hid HT.out
              clear HT
              have hsp : lb = false ∨ (lb = true ∧ mb = true) := by
                cases lb with
                | false => exact .inl rfl
                | true => cases mb with
                  | true => exact .inr ⟨rfl, rfl⟩
                  | false => exact absurd ⟨rfl, rfl⟩ hgo
              clear hgo
              rcases hsp with rfl | ⟨rfl, rfl⟩
              all_goals
                go_wp2
                exact ⟨⟨t + 1, met1, work1, htl, by go_num, hb1, HT2.out.1, HS2.out, HT2.out.2.2.1, HT2.out.2.2.2⟩, by simp [intOf]; omega⟩
        · obtain rfl : t = cnt := by omega
          have HS2 := hid (HT.out.2.1.done HG.out HCNT.out)
          have HCM2 := hid HT.out.1
          have hof := offs_eq HT.out.1.row
          rw [hml, ← HN.out] at hof
          have HOF2 := hid hof
          clear HT hof
          go_wp2
          refine ⟨⟨met1, work1, by omega, HCM2.out, HS2.out⟩, ?_⟩
          rw [HOF2.out, HOFF.out]
          simp only [lenV]
          omega
end Go.Proofs.YtfmmmhcpdinhgaaDoor
/-
  The document's own Circles.
-/
namespace PureNet
set_option maxRecDepth 100000
theorem nodup_few {out : List Nat} {n : Nat} (hnd : out.Nodup) (hlt : ∀ x ∈ out, x < n) : out.length ≤ n := by
  apply Classical.byContradiction
  intro hn
  have hat : ∀ k, k ≤ n → k < out.length := fun k hk => by omega
  obtain ⟨a, b, hab, hb, e⟩ := holes n (fun k => out.getD k 0) (fun k hk => by
    show out.getD k 0 < n
    rw [List.getD_eq_getElem?_getD, List.getElem?_eq_getElem (hat k hk)]
    exact hlt _ (List.getElem_mem _))
  have e2 : out.getD a 0 = out.getD b 0 := e
  rw [List.getD_eq_getElem?_getD, List.getD_eq_getElem?_getD, List.getElem?_eq_getElem (hat a (by omega)), List.getElem?_eq_getElem (hat b hb)] at e2
  have := (List.getElem?_inj (hat a (by omega)) hnd).1 (show out[a]? = out[b]? by rw [List.getElem?_eq_getElem (hat a (by omega)), List.getElem?_eq_getElem (hat b hb)]; exact congrArg some e2)
  omega
theorem nodup_all {out : List Nat} {n : Nat} (hnd : out.Nodup) (hlt : ∀ x ∈ out, x < n) (hlen : out.length = n) : ∀ i, i < n → i ∈ out := by
  intro i hi
  apply Classical.byContradiction
  intro hni
  have h := nodup_few (out := out ++ [i]) (n := n) (by
    rw [List.nodup_append]
    exact ⟨hnd, by simp, fun a ha b hb => by simp at hb; subst hb; rintro rfl; exact hni ha⟩) (fun x hx => by
    rcases List.mem_append.1 hx with h | h
    · exact hlt x h
    · simp at h; omega)
  simp at h
  omega
section
variable {l : List Ga} {out : List Nat} {q : Nat} {D : Nat → Bool}
theorem LayS.behind (h : LayS l out q D) {k i j : Nat} (hk : out[k]? = some i) (hl : Leans l i j) : ∃ m, m < k ∧ out[m]? = some j := by
  obtain ⟨g, hg, hm⟩ := hl
  exact h.ord k i hk j ((ents_mem l j i).2 ⟨g, _, hg, hm, by simp⟩)
theorem LayS.far (h : LayS l out q D) {i j : Nat} (hw : Way l i j) : ∀ k : Nat, out[k]? = some i → ∃ m : Nat, m < k ∧ out[m]? = some j := by
  induction hw using PureNet.Way.ind with
  | one h1 => intro k hk; exact h.behind hk h1
  | more h1 _ ih =>
    intro k hk
    obtain ⟨m, hm, h2⟩ := h.behind hk h1
    obtain ⟨m2, hm2, h3⟩ := ih m h2
    exact ⟨m2, by omega, h3⟩
/-- who has been laid is in no circle. -/
theorem LayS.free (h : LayS l out q D) {i : Nat} (hi : i ∈ out) : ¬ Way l i i := by
  intro hw
  obtain ⟨k, hk, e⟩ := List.getElem_of_mem hi
  have hki : out[k]? = some i := by rw [List.getElem?_eq_getElem hk, e]
  obtain ⟨m, hm, h2⟩ := h.far hw k hki
  have := (List.getElem?_inj hk h.nd).1 (hki.trans h2.symm)
  omega
end
/-- what Circles answers. -/
def CircleIs (l : List Ga) (r : Int) : Prop := (r = -1 ∧ ∀ i, ¬ Way l i i) ∨ ∃ i : Nat, r = (i : Int) ∧ i < l.length ∧ Way l i i ∧ ∀ j, j < i → ¬ Way l j j
end PureNet

namespace Go.Proofs.YtfmmmhcpdinhgaaDoor
open Go.RowKit Go.Deep PureNet ShfKit

theorem bits_set {W : World} {g : Nat} {L : List Bool} (h : W.heap[g]? = some (.cells (bo L).toArray 4 (0, 0))) (y : Nat) (b : Bool) : (W.setCell ⟨g, y, none⟩ (.bool b)).heap[g]? = some (.cells (bo (L.set y b)).toArray 4 (0, 0)) := by
  have := row_set (i := y) (u := .bool b) h
  rw [this]
  congr 2
  apply Array.ext'
  simp [bo, List.map_set]
theorem bits_cell {W : World} {g : Nat} {L : List Bool} (h : W.heap[g]? = some (.cells (bo L).toArray 4 (0, 0))) {y : Nat} {b : Bool} (hy : L[y]? = some b) : W.cell? ⟨g, y, none⟩ = some (.bool b) ∧ W.frozen? ⟨g, y, none⟩ = false ∧ g < W.heap.size := by
  refine ⟨?_, unfrozen_row h y, (Array.getElem?_eq_some_iff.1 h).1⟩
  rw [cell_row h]
  simp [bo, hy]
theorem bits_at {W : World} {g : Nat} {L : List Bool} (h : W.heap[g]? = some (.cells (bo L).toArray 4 (0, 0))) : CellsAt W (some ⟨g, 0, none⟩) (bo L) := ⟨fun k x hx => ⟨g, 0, rfl, (Array.getElem?_eq_some_iff.1 h).1, by rw [cell_row h, Nat.zero_add]; simpa using hx⟩⟩
/-- those that are left: all but the first k of out. -/
def leftL (n : Nat) (out : List Nat) : List Bool := (List.range n).map fun x => !decide (x ∈ out)
theorem leftL_at (n : Nat) (out : List Nat) (x : Nat) (h : x < n) : (leftL n out)[x]? = some (!decide (x ∈ out)) := by simp [leftL, h]
theorem leftL_len (n : Nat) (out : List Nat) : (leftL n out).length = n := by simp [leftL]
theorem leftL_snoc (n : Nat) (out : List Nat) (y : Nat) : (leftL n out).set y false = leftL n (out ++ [y]) := by
  apply List.ext_getElem?
  intro k
  rw [List.getElem?_set]
  by_cases hk : k < n
  · rw [leftL_at n _ k hk, leftL_at n _ k hk]
    by_cases hy : y = k
    · rw [if_pos hy, if_pos (by rw [leftL_len]; omega)]
      simp [hy]
    · rw [if_neg hy]
      have : (k ∈ out ++ [y]) ↔ k ∈ out := by
        simp
        intro e
        exact absurd e.symm hy
      rw [decide_eq_decide.2 this]
  · rw [List.getElem?_eq_none (by rw [leftL_len]; omega), List.getElem?_eq_none (by rw [leftL_len]; omega)]
    split
    · rw [if_neg (by rw [leftL_len]; omega)]
    · rfl

/-- the first i are marked. -/
def upL (n i : Nat) : List Bool := (List.range n).map fun x => decide (x < i)
theorem upL_at (n i x : Nat) (h : x < n) : (upL n i)[x]? = some (decide (x < i)) := by simp [upL, h]
theorem upL_len (n i : Nat) : (upL n i).length = n := by simp [upL]
theorem upL_zero (n : Nat) : upL n 0 = List.replicate n false := by
  apply List.ext_getElem?
  intro k
  by_cases hk : k < n
  · rw [upL_at n 0 k hk]; simp [hk]
  · rw [List.getElem?_eq_none (by rw [upL_len]; omega), List.getElem?_eq_none (by simp; omega)]
theorem upL_all (n : Nat) : upL n n = leftL n [] := by
  unfold upL leftL
  refine List.map_congr_left fun x hx => ?_
  have : x < n := by simpa using hx
  simp [this]
theorem upL_set (n i : Nat) : (upL n i).set i true = upL n (i + 1) := by
  apply List.ext_getElem?
  intro k
  rw [List.getElem?_set]
  by_cases hk : k < n
  · rw [upL_at n _ k hk, upL_at n _ k hk]
    by_cases hy : i = k
    · rw [if_pos hy, if_pos (by rw [upL_len]; omega)]
      simp [hy]
    · rw [if_neg hy]
      have : (k < i) ↔ (k < i + 1) := by omega
      rw [decide_eq_decide.2 this]
  · rw [List.getElem?_eq_none (by rw [upL_len]; omega), List.getElem?_eq_none (by rw [upL_len]; omega)]
    split
    · rw [if_neg (by rw [upL_len]; omega)]
    · rfl
/-- marks, and an order that is kept. -/
structure LfC (w W : World) (L : List Bool) (ov : Value) (out : List Nat) : Prop where
  row : W.heap[w.heap.size]? = some (.cells (bo L).toArray 4 (0, 0))
  below : Below w.heap.size w W
  own : W.ownsRow (w.heap.size + 1) 3 1 ov out.length (placesV out)
theorem LfC.set {w W : World} {L : List Bool} {ov : Value} {out : List Nat} (h : LfC w W L ov out) (y : Nat) (b : Bool) : LfC w (W.setCell ⟨w.heap.size, y, none⟩ (.bool b)) (L.set y b) ov out :=
  ⟨bits_set h.row y b, h.below.setCell (Nat.le_refl _) _, ownsRow_setCell_below h.own (show w.heap.size < w.heap.size + 1 by omega) _⟩
theorem LfC.on {w W W' : World} {L : List Bool} {ov : Value} {out : List Nat} (h : LfC w W L ov out) (hb : Below W.heap.size W W') : LfC w W' L ov out :=
  ⟨(hb.block _ (Array.getElem?_eq_some_iff.1 h.row).1).trans h.row, h.below.trans (hb.mono h.below.size), ownsRow_below h.own hb⟩

set_option maxHeartbeats 1000000 in
set_option maxRecDepth 100000 in
theorem circles_any (l : List Ga) (sg : Option Addr) (cg : Nat) (w : World) (hc : CellsAt w sg (gas l)) (hl : l.length ≤ 65536) (hp : ∀ (i : Nat) (g : Ga), l[i]? = some g → ∀ a ∈ leansOn g, 0 ≤ a ∧ a < (l.length : Int)) :
    Calls Tryd.prog 59 #[.slice sg l.length cg] w fun e w' => (∃ r : Int, e = .returned (.int .i64 r) ∧ CircleIs l r) ∧ Below w.heap.size w w' := by
  obtain ⟨n, hn⟩ : ∃ n, n = l.length := ⟨_, rfl⟩
  have HC := hid hc
  have HP := hid hp
  have HN := hid hn
  have HL := hid hl
  have hmk : ∀ W : World, (Instr.makeSlice 29 (.int .i64 (n : Int)) (.int .i64 (n : Int))).run Tryd.prog W = .ok (.slice (some ⟨W.heap.size, 0, none⟩) n n) (W.alloc (.cells (madeCells #[.bool false] n) 4)) := fun W =>
    run_make_row' (P := Tryd.prog) 29 4 (.bool false) 1 Tryd.underlying29 info4 rfl .i64 .i64 n (by omega) (by omega) W
  have hl' : n ≤ 65536 := by omega
  obtain ⟨X, hX⟩ : ∃ X, X = w.alloc (.cells (madeCells #[.bool false] n) 4) := ⟨_, rfl⟩
  have HLY := hid (layers_any l sg cg X (hc.below (by rw [hX]; exact (Below.refl _ _).alloc (Nat.le_refl _) _)) hl hp)
  have HX : Hid (X.heap[w.heap.size]? = some (.cells (bo (List.replicate n false)).toArray 4 (0, 0)) ∧ Below w.heap.size w X ∧ w.heap.size < X.heap.size) := by
    rw [hX]
    refine ⟨(heap_alloc_new w _).trans ?_, (Below.refl _ _).alloc (Nat.le_refl _) _, by simp⟩
    congr 2
    apply Array.ext'
    rw [toList_madeCells_one]
    simp [bo]
  rw [← hn] at HLY ⊢
  have HXE := hid hX
  clear hc hp hn hl hX
  go_enter Tryd.func59, Tryd.ntmps59
  go_upto_if 18 with (first | (rw [← HXE.out]; go_at_call 86; refine Calls.mono HLY.out ?_; rintro e w1 ⟨v, out, rfl, ho, b1, hls⟩; obtain ⟨so, co, rfl⟩ := own_shape ho; have HO := hid (own_base ho (Nat.succ_le_of_lt HX.out.2.2)); have HLS := hid hls; have HR1 : Hid (w1.heap[w.heap.size]? = some (.cells (bo (List.replicate n false)).toArray 4 (0, 0)) ∧ Below w.heap.size w w1) := ⟨(b1.block _ HX.out.2.2).trans HX.out.1, HX.out.2.1.trans (b1.mono HX.out.2.1.size)⟩; clear ho hls b1))
  have hfew : out.length ≤ n := by
    have := lay_few HLS.out
    rw [← HN.out] at this
    exact this
  clear HLY HX HXE hmk
  by_cases hall : out.length = n
  · have HNO : Hid (CircleIs l (-1)) := by
      refine .inl ⟨rfl, fun i hw => ?_⟩
      have hi := way_lt hw
      exact HLS.out.free (nodup_all HLS.out.nd (fun x hx => HLS.out.lt x hx) (by rw [← HN.out]; exact hall) i hi) hw
    have HB := hid HR1.out.2
    have hbe : ((out.length : Int) == (n : Int)) = true := by rw [hall]; simp
    clear HR1 HO
    go_wp2
    go_ret
    exact ⟨⟨-1, rfl, HNO.out⟩, HB.out⟩
  · have hbe : ((out.length : Int) == (n : Int)) = false := by rw [beq_eq_false_iff_ne]; omega
    clear hall
    go_wp2
    clear hbe
    obtain ⟨bq, hbq⟩ : ∃ bq : Bool, bq = ((out.length : Int) == (n : Int)) := ⟨_, rfl⟩
    rw [← hbq]
    clear hbq
    have HL0 : Hid (LfC w w1 (upL n 0) (.slice so out.length co) out) := ⟨by rw [upL_zero]; exact HR1.out.1, HR1.out.2, HO.out⟩
    clear HR1 HO
    go_loopw [5] (fun iv W => ∃ i : Nat, i ≤ n ∧ iv = .int .i64 (i : Int) ∧ Hid (LfC w W (upL n i) (.slice so out.length co) out)) (fun iv _ => n - (intOf iv).toNat)
    case atStart => exact ⟨0, Nat.zero_le _, rfl, HL0.out⟩
    case round =>
      obtain ⟨i, hi, rfl, HF⟩ := hrel
      clear HL0
      by_cases hlt : i < n
      · obtain ⟨c0, f0, l0⟩ := bits_cell HF.out.row (upL_at n i i hlt)
        have HF2 := hid (HF.out.set i true)
        rw [upL_set] at HF2
        clear HF
        go_wp2
        exact ⟨⟨i + 1, hlt, by go_num, HF2.out⟩, by simp [intOf]; omega⟩
      · obtain rfl : i = n := by omega
        have HL1 := hid HF.out
        rw [upL_all] at HL1
        clear HF
        go_wp2
        go_loopw [6] (fun kv W => ∃ k : Nat, k ≤ out.length ∧ kv = .int .i64 (k : Int) ∧ Hid (LfC w W (leftL i (out.take k)) (.slice so out.length co) out)) (fun kv _ => out.length - (intOf kv).toNat)
        case atStart => exact ⟨0, Nat.zero_le _, rfl, by rw [List.take_zero]; exact HL1.out⟩
        case round =>
          obtain ⟨k, hk, rfl, HF⟩ := hrel
          clear HL1
          by_cases hlt2 : k < out.length
          · obtain ⟨y, hy⟩ : ∃ y, out[k]? = some y := ⟨_, List.getElem?_eq_getElem hlt2⟩
            have hyn : y < i := by rw [HN.out]; exact HLS.out.lt y (List.mem_of_getElem? hy)
            obtain ⟨go, co', hso, _, hgo, cq, _⟩ := own_cell HF.out.own (rowF_at out.length (fun k => (out.getD k 0 : Int)) k hlt2)
            simp only [Value.slice.injEq, true_and] at hso
            obtain ⟨rfl, rfl⟩ := hso
            have hyd : (out.getD k 0 : Int) = (y : Int) := by rw [List.getD_eq_getElem?_getD, hy]; rfl
            rw [hyd] at cq
            obtain ⟨c0, f0, l0⟩ := bits_cell HF.out.row (leftL_at i (out.take k) y hyn)
            have htk : out.take (k + 1) = out.take k ++ [y] := by rw [List.take_add_one, hy]; rfl
            have HF2 := hid (HF.out.set y false)
            rw [leftL_snoc, ← htk] at HF2
            clear HF hyd htk hy
            go_wp2
            exact ⟨⟨k + 1, hlt2, by go_num, HF2.out⟩, by simp [intOf]; omega⟩
          · obtain rfl : k = out.length := by omega
            have HL2 := hid HF.out
            rw [List.take_length] at HL2
            clear HF
            go_wp2
            go_loopw [7] (fun iv W => ∃ j : Nat, j ≤ i ∧ iv = .int .i64 (j : Int) ∧ Hid (LfC w W (leftL i out) (.slice so out.length co) out ∧ ∀ x, x < j → ¬ PureNet.Way l x x)) (fun iv _ => i - (intOf iv).toNat)
            case atStart => exact ⟨0, Nat.zero_le _, rfl, HL2.out, fun x hx => by omega⟩
            case round =>
              obtain ⟨j, hj, rfl, HF⟩ := hrel
              clear HL2
              by_cases hlt3 : j < i
              · obtain ⟨c0, f0, l0⟩ := bits_cell HF.out.1.row (leftL_at i out j hlt3)
                by_cases hjo : j ∈ out
                · have HNX : Hid (LfC w wr (leftL i out) (.slice so out.length co) out ∧ ∀ x, x < j + 1 → ¬ PureNet.Way l x x) := ⟨HF.out.1, fun x hx => by
                    by_cases hxj : x = j
                    · rw [hxj]; exact HLS.out.free hjo
                    · exact HF.out.2 x (by omega)⟩
                  rw [show (!decide (j ∈ out)) = false by simp [hjo]] at c0
                  clear HF
                  go_wp2
                  exact ⟨⟨j + 1, hlt3, by go_num, HNX.out⟩, by simp [intOf]; omega⟩
                · rw [show (!decide (j ∈ out)) = true by simp [hjo]] at c0
                  have HCM := hid (comes_any l (leftL i out) sg (some ⟨w.heap.size, 0, none⟩) cg i j wr (HC.out.below HF.out.1.below) (bits_at HF.out.1.row) (by rw [leftL_len]; exact HN.out) HL.out HP.out (by rw [← HN.out]; exact hlt3) (fun x hx => by
                    have hxl := way_lt hx
                    rw [leftL_at i out x (by rw [HN.out]; exact hxl)]
                    have : x ∉ out := fun h => HLS.out.free h hx
                    simp [this]))
                  rw [← HN.out] at HCM
                  by_cases hway : PureNet.Way l j j
                  · have HW : Hid (CircleIs l (j : Int)) := .inr ⟨j, rfl, by rw [← HN.out]; exact hlt3, hway, HF.out.2⟩
                    have HWY := hid hway
                    clear hway
                    go_wp2_with (go_at_call 87; refine Calls.mono HCM.out ?_; rintro e w2 ⟨⟨bb, rfl, hbb⟩, b2⟩; obtain rfl : bb = true := hbb.2 HWY.out; have HF2 := hid (HF.out.1.on b2); clear hbb b2)
                    go_ret
                    exact ⟨⟨(j : Int), rfl, HW.out⟩, HF2.out.below⟩
                  · have HNX : Hid (∀ x, x < j + 1 → ¬ PureNet.Way l x x) := fun x hx => by
                      by_cases hxj : x = j
                      · rw [hxj]; exact hway
                      · exact HF.out.2 x (by omega)
                    have HWY := hid hway
                    clear hway
                    go_wp2_with (go_at_call 87; refine Calls.mono HCM.out ?_; rintro e w2 ⟨⟨bb, rfl, hbb⟩, b2⟩; obtain rfl : bb = false := (by cases bb with | false => rfl | true => exact absurd (hbb.1 rfl) HWY.out); have HF2 := hid (HF.out.1.on b2); clear hbb b2)
                    exact ⟨⟨j + 1, hlt3, by go_num, HF2.out, HNX.out⟩, by simp [intOf]; omega⟩
              · have HNO : Hid (CircleIs l (-1)) := by
                  refine .inl ⟨rfl, fun x hw => HF.out.2 x ?_ hw⟩
                  have := way_lt hw
                  rw [← HN.out] at this
                  omega
                have HB := hid HF.out.1.below
                clear HF
                go_wp2
                go_ret
                exact ⟨⟨-1, rfl, HNO.out⟩, HB.out⟩
end Go.Proofs.YtfmmmhcpdinhgaaDoor
/-
  The document's own table of names: find, place.
-/
namespace Go.Proofs.YtfmmmhcpdinhgaaDoor
open Go.RowKit Go.Deep PureNet
set_option maxRecDepth 100000

def ns (l : List ByteArray) : List Value := l.map Value.string
theorem name_at {W : World} {s : Option Addr} {l : List ByteArray} (h : CellsAt W s (ns l)) (k : Nat) (x : ByteArray) (hx : l[k]? = some x) : ∃ b o, s = some ⟨b, o, none⟩ ∧ b < W.heap.size ∧ W.cell? ⟨b, o + k, none⟩ = some (.string x) :=
  h.at_ k _ (by simp [ns, hx])

/-- one name is ahead of another. -/
def lessB (a b : ByteArray) : Bool := Op.bytesLess a.toList b.toList
theorem bytesLess_lt : ∀ (x y : List UInt8), Op.bytesLess x y = decide (x < y)
  | x, [] => by
    have : ¬ x < [] := List.not_lt_nil x
    simp [Op.bytesLess]
  | [], b :: y => by simp [Op.bytesLess]
  | a :: x, b :: y => by
    simp only [Op.bytesLess, bytesLess_lt x y]
    rw [Bool.eq_iff_iff]
    simp only [Bool.or_eq_true, Bool.and_eq_true, decide_eq_true_eq, beq_iff_eq, List.cons_lt_cons_iff]
theorem lessB_iff (a b : ByteArray) : lessB a b = true ↔ a.data.toList < b.data.toList := by
  unfold lessB
  rw [bytesLess_lt, decide_eq_true_eq, ByteArray.toList_eq, ByteArray.toList_eq]
theorem lessB_irrefl (a : ByteArray) : lessB a a = false := by
  cases h : lessB a a with
  | false => rfl
  | true => exact absurd ((lessB_iff a a).1 h) (List.lt_irrefl _)
theorem lessB_trans {a b c : ByteArray} (h : lessB a b = true) (k : lessB b c = true) : lessB a c = true := (lessB_iff a c).2 (List.lt_trans ((lessB_iff a b).1 h) ((lessB_iff b c).1 k))
theorem lessB_total {a b : ByteArray} (h : lessB a b = false) (hne : a ≠ b) : lessB b a = true := by
  rw [lessB_iff]
  have h1 : ¬ a.data.toList < b.data.toList := fun x => by rw [(lessB_iff a b).2 x] at h; cases h
  by_cases h2 : b.data.toList < a.data.toList
  · exact h2
  · exact absurd (Go.WideShapes.bytes_inj (List.le_antisymm (List.not_lt.1 h2) (List.not_lt.1 h1))) hne
/-- names that rise. -/
def Rising (N : List ByteArray) : Prop := ∀ (i j : Nat) (x y : ByteArray), i < j → N[i]? = some x → N[j]? = some y → lessB x y = true
/-- where a name stands or would stand. -/
structure Spot (N : List ByteArray) (s : ByteArray) (i : Nat) : Prop where
  le : i ≤ N.length
  low : ∀ (k : Nat) (x : ByteArray), k < i → N[k]? = some x → lessB x s = true
  high : ∀ (k : Nat) (x : ByteArray), i ≤ k → N[k]? = some x → lessB x s = false
theorem Spot.mem {N : List ByteArray} {s : ByteArray} {i : Nat} (h : Spot N s i) (hr : Rising N) : s ∈ N ↔ N[i]? = some s := by
  constructor
  · intro hm
    obtain ⟨k, hk, he⟩ := List.getElem_of_mem hm
    have hks : N[k]? = some s := by rw [List.getElem?_eq_getElem hk, he]
    have hki : ¬ k < i := fun hlt => by
      have := h.low k s hlt hks
      rw [lessB_irrefl] at this
      cases this
    by_cases e : i = k
    · rw [e]; exact hks
    · have hi : i < N.length := by omega
      have hxi : N[i]? = some N[i] := List.getElem?_eq_getElem hi
      have h1 := hr i k _ _ (by omega) hxi hks
      have h2 := h.high i _ (Nat.le_refl _) hxi
      rw [h1] at h2
      cases h2
  · intro hi
    exact List.mem_of_getElem? hi

set_option maxHeartbeats 2000000 in
set_option maxRecDepth 100000 in
theorem find_any (kb : Nat) (sn : Option Addr) (cn : Nat) (pv : Value) (N : List ByteArray) (s : ByteArray) (w : World) (hk : w.heap[kb]? = some (.cells #[.slice sn N.length cn, pv] 88 (0, 0))) (hn : CellsAt w sn (ns N)) (hr : Rising N) (hl : N.length ≤ 1048576) :
    Calls Tryd.prog 85 #[.pointer (some ⟨kb, 0, none⟩), .string s] w fun e w' => ∃ i : Nat, Spot N s i ∧ e = .returned (.int .i64 (i : Int)) ∧ Below w.heap.size w w' := by
  have c0 := fun j => cell_row hk j
  have hb := (Array.getElem?_eq_some_iff.1 hk).1
  have HN := hid hn
  have HR := hid hr
  clear hk hn hr
  go_enter Tryd.func85, Tryd.ntmps85
  go_wp2
  go_loopw [5, 6] (fun lv hv W => ∃ lo hi : Nat, lo ≤ hi ∧ hi ≤ N.length ∧ lv = .int .i64 (lo : Int) ∧ hv = .int .i64 (hi : Int) ∧ Hid (Below w.heap.size w W ∧ (∀ (k : Nat) (x : ByteArray), k < lo → N[k]? = some x → lessB x s = true) ∧ ∀ (k : Nat) (x : ByteArray), hi ≤ k → N[k]? = some x → lessB x s = false)) (fun lv hv _ => (intOf hv).toNat - (intOf lv).toNat)
  case atStart => exact ⟨0, N.length, Nat.zero_le _, Nat.le_refl _, rfl, rfl, Below.refl _ _, (fun k x hk => by omega), fun k x hk hx => by have := (List.getElem?_eq_some_iff.1 hx).1; omega⟩
  case round =>
    obtain ⟨lo, hi, h1, h2, rfl, rfl, HI⟩ := hrel
    obtain ⟨hw, hlow, hhigh⟩ := HI.out
    have c1 := fun j => (hw.cell (p := ⟨kb, j, none⟩) hb).trans (c0 j)
    have hb1 := Nat.lt_of_lt_of_le hb hw.size
    clear HI
    by_cases hlt : lo < hi
    · obtain ⟨m, hm⟩ : ∃ m, m = (lo + hi) / 2 := ⟨_, rfl⟩
      have hm1 : (((lo : Int) + (hi : Int)) / 2) = (m : Int) := by omega
      obtain ⟨x, hx⟩ : ∃ x, N[m]? = some x := ⟨_, List.getElem?_eq_getElem (by omega)⟩
      obtain ⟨b, o, rfl, hbn, d0⟩ := name_at (HN.out.below hw) m x hx
      have hml : m < N.length := by omega
      have hm2 : lo ≤ m := by omega
      have hm3 : m < hi := by omega
      have HW := hid hw
      cases hle : lessB x s with
      | true =>
        have HX : Hid (∀ (k : Nat) (y : ByteArray), k < m + 1 → N[k]? = some y → lessB y s = true) := fun k y hk hy => by
          by_cases e : k = m
          · subst e; rw [hx] at hy; cases hy; exact hle
          · exact lessB_trans (HR.out k m y x (by omega) hy hx) hle
        have HH := hid hhigh
        have hle2 : Op.bytesLess x.toList s.toList = true := hle
        clear hx hm hlow hhigh hw hle
        go_wp2
        exact ⟨⟨m + 1, hi, by omega, h2, by go_num, rfl, HW.out, HX.out, HH.out⟩, by simp [intOf]; omega⟩
      | false =>
        have HX : Hid (∀ (k : Nat) (y : ByteArray), m ≤ k → N[k]? = some y → lessB y s = false) := fun k y hk hy => by
          by_cases e : k = m
          · subst e; rw [hx] at hy; cases hy; exact hle
          · cases hys : lessB y s with
            | false => rfl
            | true =>
              have := lessB_trans (HR.out m k x y (by omega) hx hy) hys
              rw [hle] at this
              cases this
        have HLo := hid hlow
        have hle2 : Op.bytesLess x.toList s.toList = false := hle
        clear hx hm hlow hhigh hw hle
        go_wp2
        exact ⟨⟨lo, m, hm2, by omega, rfl, by rw [hm1], HW.out, HLo.out, HX.out⟩, by simp [intOf]; omega⟩
    · have SP : Hid (Spot N s lo) := ⟨by omega, hlow, fun k x hk => hhigh k x (by omega)⟩
      have HW := hid hw
      clear hlow hhigh hw
      go_wp2
      go_ret
      exact ⟨lo, SP.out, rfl, HW.out⟩

/-- the place of a name, or -1. -/
def placeN (N : List ByteArray) (P : List Int) (s : ByteArray) : Int := match N.findIdx? (fun x => decide (x = s)) with
  | some i => P.getD i 0
  | none => -1
theorem placeN_some {N : List ByteArray} {P : List Int} {s : ByteArray} {i : Nat} (hr : Rising N) (h : N[i]? = some s) : placeN N P s = P.getD i 0 := by
  unfold placeN
  have hi := (List.getElem?_eq_some_iff.1 h).1
  have hv := (List.getElem?_eq_some_iff.1 h).2
  have : N.findIdx? (fun x => decide (x = s)) = some i := by
    rw [List.findIdx?_eq_some_iff_getElem]
    refine ⟨hi, by simpa using hv, fun j hj => ?_⟩
    have hjn : N[j]? = some (N[j]'(by omega)) := List.getElem?_eq_getElem _
    have := hr j i _ _ hj hjn h
    simp only [decide_eq_true_eq]
    intro e
    rw [e, lessB_irrefl] at this
    cases this
  rw [this]
theorem placeN_none {N : List ByteArray} {P : List Int} {s : ByteArray} (h : s ∉ N) : placeN N P s = -1 := by
  unfold placeN
  have : N.findIdx? (fun x => decide (x = s)) = none := by
    rw [List.findIdx?_eq_none_iff]
    intro x hx
    simp only [decide_eq_false_iff_not]
    intro e
    exact h (e ▸ hx)
  rw [this]
theorem beq_names (x s : ByteArray) : (x.toList == s.toList) = decide (x = s) := by
  rw [ByteArray.toList_eq, ByteArray.toList_eq]
  by_cases h : x = s
  · subst h; simp
  · have h2 : ¬ x.data.toList = s.data.toList := fun e => h (Go.WideShapes.bytes_inj e)
    rw [decide_eq_false h]
    exact beq_eq_false_iff_ne.2 h2

set_option maxHeartbeats 2000000 in
set_option maxRecDepth 100000 in
theorem place_any (kb : Nat) (sn sp : Option Addr) (cn cp : Nat) (N : List ByteArray) (P : List Int) (s : ByteArray) (w : World) (hk : w.heap[kb]? = some (.cells #[.slice sn N.length cn, .slice sp N.length cp] 88 (0, 0))) (hn : CellsAt w sn (ns N)) (hp : CellsAt w sp (nu P)) (hPl : P.length = N.length) (hr : Rising N) (hl : N.length ≤ 1048576) :
    Calls Tryd.prog 57 #[.pointer (some ⟨kb, 0, none⟩), .string s] w fun e w' => e = .returned (.int .i64 (placeN N P s)) ∧ Below w.heap.size w w' := by
  have FD := hid (find_any kb sn cn (.slice sp N.length cp) N s w hk hn hr hl)
  have KB : Hid (∀ W, Below w.heap.size w W → (∀ j, W.cell? ⟨kb, j, none⟩ = (#[.slice sn N.length cn, .slice sp N.length cp] : Array Value)[j]?) ∧ kb < W.heap.size) := fun W hW => by
    have h2 := (hW.block _ (Array.getElem?_eq_some_iff.1 hk).1).trans hk
    exact ⟨fun j => cell_row h2 j, (Array.getElem?_eq_some_iff.1 h2).1⟩
  have HN := hid hn
  have HP := hid hp
  have HR := hid hr
  have HPL := hid hPl
  clear hk hn hp hr hPl
  go_enter Tryd.func57, Tryd.ntmps57
  go_wp2_with (fail)
  with_reducible refine FD.out.mono ?_
  rintro e w1 ⟨i, hsp, rfl, b1⟩
  have hile := hsp.le
  obtain ⟨c1, hb1⟩ := KB.out _ b1
  have B1 := hid b1
  by_cases hi : i < N.length
  · obtain ⟨x, hx⟩ : ∃ x, N[i]? = some x := ⟨_, List.getElem?_eq_getElem hi⟩
    obtain ⟨y, hy⟩ : ∃ y, P[i]? = some y := ⟨_, List.getElem?_eq_getElem (by have := HPL.out; omega)⟩
    obtain ⟨bn, on, rfl, hbn, d0⟩ := name_at (HN.out.below b1) i x hx
    obtain ⟨bp, op, rfl, hbp, d1⟩ := num_at (HP.out.below b1) i y hy
    by_cases hxs : x = s
    · have hpl : Hid (placeN N P s = y) := by
        show _ = _
        rw [placeN_some HR.out (by rw [hx, hxs]), List.getD_eq_getElem?_getD, hy]
        rfl
      have he : (x.toList == s.toList) = true := by rw [beq_names]; exact decide_eq_true hxs
      clear hx hy hsp b1 hxs
      go_wp2
      go_ret
      rw [hpl.out]
      exact ⟨rfl, B1.out⟩
    · have hpl : Hid (placeN N P s = -1) := placeN_none (fun hm => by rw [(hsp.mem HR.out).1 hm] at hx; exact hxs (Option.some.inj hx).symm)
      have he : (x.toList == s.toList) = false := by rw [beq_names]; exact decide_eq_false hxs
      clear hx hy hsp b1 hxs
      go_wp2
      go_ret
      rw [hpl.out]
      exact ⟨rfl, B1.out⟩
  · have hpl : Hid (placeN N P s = -1) := placeN_none (fun hm => by
      have := (hsp.mem HR.out).1 hm
      have := (List.getElem?_eq_some_iff.1 this).1
      omega)
    clear hsp b1
    go_wp2
    go_ret
    rw [hpl.out]
    exact ⟨rfl, B1.out⟩
end Go.Proofs.YtfmmmhcpdinhgaaDoor
/-
  The document's own Formed: what the loop over the lines knows.
-/
namespace Go.Proofs.YtfmmmhcpdinhgaaDoor
open Go.RowKit Go.Deep PureNet
set_option maxRecDepth 100000

theorem put_at {α : Type} (N : List α) (s : α) (q k : Nat) (h : q ≤ N.length) : (N.take q ++ s :: N.drop q)[k]? = if k < q then N[k]? else if k = q then some s else N[k - 1]? := by
  by_cases h1 : k < q
  · rw [if_pos h1, List.getElem?_append_left (by simp; omega), List.getElem?_take_of_lt h1]
  · rw [if_neg h1, List.getElem?_append_right (by simp; omega)]
    have hl : (N.take q).length = q := by simp; omega
    rw [hl]
    by_cases h2 : k = q
    · rw [if_pos h2, h2, Nat.sub_self]; rfl
    · rw [if_neg h2, show k - q = (k - q - 1) + 1 by omega, List.getElem?_cons_succ, List.getElem?_drop]
      congr 1
      omega
theorem put_mem {α : Type} (N : List α) (s x : α) (q : Nat) : x ∈ N.take q ++ s :: N.drop q ↔ x ∈ N ∨ x = s := by
  have h : x ∈ N ↔ x ∈ N.take q ∨ x ∈ N.drop q := by rw [← List.mem_append, List.take_append_drop]
  rw [h]
  simp only [List.mem_append, List.mem_cons]
  constructor
  · rintro (h | h | h)
    · exact .inl (.inl h)
    · exact .inr h
    · exact .inl (.inr h)
  · rintro ((h | h) | h)
    · exact .inl h
    · exact .inr (.inr h)
    · exact .inr (.inl h)
theorem put_len {α : Type} (N : List α) (s : α) (q : Nat) (h : q ≤ N.length) : (N.take q ++ s :: N.drop q).length = N.length + 1 := by simp; omega
theorem Rising.put {N : List ByteArray} {s : ByteArray} {q : Nat} (hr : Rising N) (hs : Spot N s q) (hn : s ∉ N) : Rising (N.take q ++ s :: N.drop q) := by
  intro i j x y hij hi hj
  rw [put_at _ _ _ _ hs.le] at hi hj
  have up : ∀ k z, q ≤ k → N[k]? = some z → lessB s z = true := fun k z hk hz => lessB_total (hs.high k z hk hz) (by
    rintro rfl
    exact hn (List.mem_of_getElem? hz))
  by_cases h1 : i < q
  · rw [if_pos h1] at hi
    by_cases h2 : j < q
    · rw [if_pos h2] at hj
      exact hr i j x y hij hi hj
    · rw [if_neg h2] at hj
      by_cases h3 : j = q
      · rw [if_pos h3] at hj
        cases hj
        exact hs.low i x h1 hi
      · rw [if_neg h3] at hj
        exact hr i (j - 1) x y (by omega) hi hj
  · rw [if_neg h1] at hi
    have h2 : ¬ j < q := by omega
    have h3 : ¬ j = q := by omega
    rw [if_neg h2, if_neg h3] at hj
    by_cases h4 : i = q
    · rw [if_pos h4] at hi
      cases hi
      exact up (j - 1) y (by omega) hj
    · rw [if_neg h4] at hi
      exact hr (i - 1) (j - 1) x y (by omega) hi hj
/-- the first i lines are formed, and their names stand in the table. -/
structure FT (l : List Ga) (i : Nat) (N : List ByteArray) (P : List Int) : Prop where
  rise : Rising N
  len : N.length = i
  lenP : P.length = N.length
  pos : ∀ p ∈ P, 0 ≤ p
  mem : ∀ s, s ∈ N ↔ ∃ (k : Nat) (g : Ga), k < i ∧ l[k]? = some g ∧ g.name = s
  lines : ∀ (k : Nat) (g : Ga), k < i → l[k]? = some g → nameB g.name = true ∧ lineB g l.length = true
  apart : ∀ (k j : Nat) (g h : Ga), k < i → j < i → l[k]? = some g → l[j]? = some h → g.name = h.name → k = j
theorem FT.start (l : List Ga) : FT l 0 [] [] := ⟨fun i j x y _ h => by simp at h, rfl, rfl, fun p hp => by simp at hp, fun s => ⟨fun h => (by simp at h), fun ⟨k, g, h, _⟩ => by omega⟩, fun k g h => by omega, fun k j g h hk => by omega⟩
theorem FT.next {l : List Ga} {i q : Nat} {N : List ByteArray} {P : List Int} {g : Ga} (h : FT l i N P) (hg : l[i]? = some g) (hn : nameB g.name = true) (hl : lineB g l.length = true) (hnew : g.name ∉ N) (hs : Spot N g.name q) : FT l (i + 1) (N.take q ++ g.name :: N.drop q) (P.take q ++ (i : Int) :: P.drop q) := by
  have hq := hs.le
  refine ⟨h.rise.put hs hnew, by rw [put_len _ _ _ hq, h.len], by rw [put_len _ _ _ (by rw [h.lenP]; exact hq), put_len _ _ _ hq, h.lenP], fun p hp => ?_, fun s => ?_, fun k g' hk hg' => ?_, fun k j g1 g2 hk hj h1 h2 e => ?_⟩
  · rcases (put_mem _ _ _ _).1 hp with h1 | h1
    · exact h.pos p h1
    · omega
  · rw [put_mem, h.mem]
    constructor
    · rintro (⟨k, g', hk, hg', e⟩ | rfl)
      · exact ⟨k, g', by omega, hg', e⟩
      · exact ⟨i, g, by omega, hg, rfl⟩
    · rintro ⟨k, g', hk, hg', e⟩
      by_cases hki : k = i
      · rw [hki, hg] at hg'
        cases hg'
        exact .inr e.symm
      · exact .inl ⟨k, g', by omega, hg', e⟩
  · by_cases hki : k = i
    · rw [hki, hg] at hg'
      cases hg'
      exact ⟨hn, hl⟩
    · exact h.lines k g' (by omega) hg'
  · by_cases hki : k = i
    · by_cases hji : j = i
      · omega
      · rw [hki, hg] at h1
        cases h1
        exact absurd ((h.mem _).2 ⟨j, g2, by omega, h2, e.symm⟩) hnew
    · by_cases hji : j = i
      · rw [hji, hg] at h2
        cases h2
        exact absurd ((h.mem _).2 ⟨k, g1, by omega, h1, e⟩) hnew
      · exact h.apart k j g1 g2 (by omega) (by omega) h1 h2 e
/-- whether a name is known. -/
theorem FT.place {l : List Ga} {i : Nat} {N : List ByteArray} {P : List Int} (h : FT l i N P) (s : ByteArray) : 0 ≤ placeN N P s ↔ s ∈ N := by
  by_cases hm : s ∈ N
  · obtain ⟨k, hk, e⟩ := List.getElem_of_mem hm
    have hks : N[k]? = some s := by rw [List.getElem?_eq_getElem hk, e]
    rw [placeN_some h.rise hks]
    have hkp : k < P.length := by rw [h.lenP]; exact hk
    rw [List.getD_eq_getElem?_getD, List.getElem?_eq_getElem hkp]
    exact ⟨fun _ => hm, fun _ => h.pos _ (List.getElem_mem _)⟩
  · rw [placeN_none hm]
    exact ⟨fun h => by omega, fun h => absurd h hm⟩
/-- a circuit some line of which is not formed. -/
theorem not_formed_line {c : Net} {i : Nat} {N : List ByteArray} {P : List Int} {g : Ga} (h : FT c.gates i N P) (hg : c.gates[i]? = some g) (hb : nameB g.name = false ∨ lineB g c.gates.length = false ∨ g.name ∈ N) : ¬ PureNet.Formed c := by
  intro hf
  obtain ⟨h1, h2⟩ := hf.lines i g hg
  rcases hb with hb | hb | hb
  · rw [hb] at h1; cases h1
  · rw [hb] at h2; cases h2
  · obtain ⟨k, g', hk, hg', e⟩ := (h.mem _).1 hb
    have := hf.apart k i g' g hg' hg e
    omega
end Go.Proofs.YtfmmmhcpdinhgaaDoor
