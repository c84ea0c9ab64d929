import Derived.Test.YtfmmmhcpdinhgaaDoorZ18
/-
  The document's own comes.
-/
namespace Go.Proofs.YtfmmmhcpdinhgaaDoor
open Go.RowKit Go.Deep PureNet ShfKit
set_option maxRecDepth 100000

/-- marks, and the places that are still to be searched. -/
structure Cm (w W : World) (met : List Bool) (wv : Value) (work : List Nat) : Prop where
  row : W.heap[w.heap.size]? = some (.cells (bo met).toArray 4 (0, 0))
  fam : Fam W w.heap.size 3 1 [(wv, work.length, placesV work)]
  below : Below w.heap.size w W
section
variable {w W W' : World} {met : List Bool} {wv : Value} {work : List Nat}
theorem Cm.on (h : Cm w W met wv work) (hb : Below W.heap.size W W') : Cm w W' met wv work :=
  ⟨(hb.block _ (Array.getElem?_eq_some_iff.1 h.row).1).trans h.row, h.fam.below hb, h.below.trans (hb.mono h.below.size)⟩
theorem Cm.mark (h : Cm w W met wv work) (y : Nat) : Cm w (W.setCell ⟨w.heap.size, y, none⟩ (.bool true)) (met.set y true) wv work := by
  refine ⟨?_, ?_, h.below.setCell (Nat.le_refl _) _⟩
  · have := row_set (i := y) (u := .bool true) h.row
    rw [this]
    congr 2
    apply Array.ext'
    simp [bo, List.map_set]
  · refine ⟨fun i x hx => ShfKit.own_kept (h.fam.own i x hx) fun g hg => Below.heap_setCell W _ _ _ ?_, h.fam.apart⟩
    rintro rfl
    exact own_ne (h.fam.own i x hx) h.row (by decide) hg
theorem Cm.cell (h : Cm w W met wv work) {y : Nat} {b : Bool} (hy : met[y]? = some b) : W.cell? ⟨w.heap.size, y, none⟩ = some (.bool b) ∧ W.frozen? ⟨w.heap.size, y, none⟩ = false := by
  refine ⟨?_, unfrozen_row h.row y⟩
  rw [cell_row h.row]
  simp [bo, hy]
theorem places_take (work : List Nat) (i : Nat) : (placesV (work ++ [i])).take work.length = placesV work := by
  rw [← places_snoc, List.take_left' (by simp [placesV, rowF_len])]
/-- the last one is cut off. -/
theorem Cm.cut {i g c : Nat} (h : Cm w W met (.slice (some ⟨g, 0, none⟩) (work.length + 1) c) (work ++ [i])) : Cm w W met (.slice (some ⟨g, 0, none⟩) work.length c) work := by
  refine ⟨h.row, ⟨fun j x hx => ?_, fun j k x y g hx hy hne => ?_⟩, h.below⟩
  · match j, hx with
    | 0, hx =>
      cases hx
      have h0 := h.fam.own 0 _ rfl
      refine ⟨by simp [placesV, rowF_len], ?_⟩
      rcases h0.2 with ⟨hv, _⟩ | ⟨g', cap, cur, hv, hb, hr, hnc, hcm, hcs, htk⟩
      · cases hv
      · have hv2 : Value.slice (some ⟨g, 0, none⟩) (work.length + 1) c = .slice (some ⟨g', 0, none⟩) (work ++ [i]).length cap := hv
        simp only [Value.slice.injEq, Option.some.injEq, Addr.mk.injEq, and_true] at hv2
        obtain ⟨rfl, _, rfl⟩ := hv2
        have hnc2 : (work ++ [i]).length ≤ c := hnc
        rw [List.length_append] at hnc2
        refine .inr ⟨g, c, cur, rfl, hb, hr, show work.length ≤ c by omega, hcm, hcs, ?_⟩
        have := congrArg (List.take work.length) htk
        rw [places_take] at this
        rw [← this, List.take_take, Nat.mul_one]
        simp
    | j + 1, hx => simp at hx
  · match j, k, hx, hy, hne with
    | 0, 0, _, _, hne => exact absurd rfl hne
    | 0, k + 1, _, hy, _ => simp at hy
    | j + 1, _, hx, _, _ => simp at hx
theorem Cm.shape (h : Cm w W met wv work) : ∃ sa c, wv = .slice sa work.length c := own_shape (h.fam.own 0 _ rfl)
theorem Cm.last {i : Nat} (h : Cm w W met wv (work ++ [i])) : ∃ g c, wv = .slice (some ⟨g, 0, none⟩) (work.length + 1) c ∧ g < W.heap.size ∧ W.cell? ⟨g, work.length, none⟩ = some (.int .i64 (i : Int)) ∧ work.length + 1 ≤ c := by
  obtain ⟨g, c, hv, _, hg, hc, _⟩ := own_cell (h.fam.own 0 _ rfl) (rowF_at (work ++ [i]).length (fun k => ((work ++ [i]).getD k 0 : Int)) work.length (by simp))
  have hv2 : wv = .slice (some ⟨g, 0, none⟩) (work ++ [i]).length c := hv
  refine ⟨g, c, by simpa using hv2, hg, by simpa using hc, ?_⟩
  have h0 := h.fam.own 0 _ rfl
  rcases h0.2 with ⟨hn, _⟩ | ⟨g', cap, cur, hw, _, _, hnc, _⟩
  · have hn2 : wv = .slice none 0 0 := hn
    rw [hv2] at hn2
    cases hn2
  · have hw2 : wv = .slice (some ⟨g', 0, none⟩) (work ++ [i]).length cap := hw
    rw [hv2] at hw2
    simp only [Value.slice.injEq, true_and] at hw2
    have hnc2 : (work ++ [i]).length ≤ cap := hnc
    rw [List.length_append, List.length_singleton] at hnc2
    omega
end
/-- how many marks are off, and how many places are to be searched. -/
def offs (W : World) (g n : Nat) : Nat := ((List.range n).filter fun i => match W.cell? ⟨g, i, none⟩ with | some (.bool false) => true | _ => false).length
def lenV : Value → Nat | .slice _ k _ => k | _ => 0
theorem cntF_take (met : List Bool) : ∀ m, m ≤ met.length → cntP (fun i => decide (met[i]? = some false)) m = cntF (met.take m) := by
  intro m
  induction m with
  | zero => intro _; rfl
  | succ m ih =>
    intro h
    have hm : met[m]? = some met[m] := List.getElem?_eq_getElem (by omega)
    rw [cntP_succ, ih (by omega), List.take_add_one, hm]
    unfold cntF
    rw [List.filter_append, List.length_append]
    cases met[m] <;> simp
theorem offs_eq {W : World} {g : Nat} {met : List Bool} (h : W.heap[g]? = some (.cells (bo met).toArray 4 (0, 0))) : offs W g met.length = cntF met := by
  have e := cntF_take met met.length (Nat.le_refl _)
  rw [List.take_length] at e
  rw [← e]
  unfold offs
  refine cntP_congr fun i hi => ?_
  have hm : met[i]? = some met[i] := List.getElem?_eq_getElem hi
  rw [cell_row h]
  simp only [bo, List.getElem?_toArray, List.getElem?_map, hm, Option.map_some]
  cases met[i] <;> simp

set_option maxHeartbeats 1000000 in
set_option maxRecDepth 100000 in
theorem comes_any (l : List Ga) (left : List Bool) (sg sl : Option Addr) (cg cl : Nat) (fr : Nat) (w : World) (hc : CellsAt w sg (gas l)) (hlf : CellsAt w sl (bo left)) (hll : left.length = l.length) (hl : l.length ≤ 65536) (hp : ∀ (i : Nat) (g : Ga), l[i]? = some g → ∀ a ∈ leansOn g, 0 ≤ a ∧ a < (l.length : Int)) (hfr : fr < l.length) (hcirc : ∀ x, PureNet.Way l x x → left[x]? = some true) :
    Calls Tryd.prog 87 #[.slice sg l.length cg, .slice sl l.length cl, .int .i64 (fr : Int)] w fun e w' => (∃ b : Bool, e = .returned (.bool b) ∧ (b = true ↔ PureNet.Way l fr fr)) ∧ Below w.heap.size w w' := by
  obtain ⟨n, hn⟩ : ∃ n, n = l.length := ⟨_, rfl⟩
  have HC := hid hc
  have HP := hid hp
  have HN := hid hn
  have HLF := hid hlf
  have HLL := hid hll
  have HCI := hid hcirc
  have hmk : ∀ W : World, (Instr.makeSlice 29 (.int .i64 (n : Int)) (.int .i64 (n : Int))).run Tryd.prog W = .ok (.slice (some ⟨W.heap.size, 0, none⟩) n n) (W.alloc (.cells (madeCells #[.bool false] n) 4)) := fun W =>
    run_make_row' (P := Tryd.prog) 29 4 (.bool false) 1 Tryd.underlying29 info4 rfl .i64 .i64 n (by omega) (by omega) W
  have hl' : n ≤ 65536 := by omega
  have hfr' : fr < n := by omega
  obtain ⟨ok, hok⟩ : ∃ ok : Nat → Bool, ok = fun x => decide (left[x]? = some true) := ⟨_, rfl⟩
  have HOK := hid hok
  rw [← hn]
  clear hc hp hn hl hlf hll hcirc hfr hok
  go_enter Tryd.func87, Tryd.ntmps87
  go_wp2
  obtain ⟨X, hX⟩ : ∃ X, X = (w.alloc (.cells (madeCells #[.bool false] n) 4)).alloc (.cells #[.int .i64 (fr : Int)] 3) := ⟨_, rfl⟩
  have HX0 : Hid (Cm w X (List.replicate l.length false) (.slice (some ⟨w.heap.size + 1, 0, none⟩) 1 1) [fr] ∧ Sea l fr ok (List.replicate l.length false) [fr] nobody) := by
    refine ⟨⟨?_, ?_, ?_⟩, Sea.start⟩
    · rw [hX]
      refine (Below.heap_alloc _ _ _ (by simp)).trans ((heap_alloc_new w _).trans ?_)
      congr 2
      apply Array.ext'
      rw [toList_madeCells_one]
      simp [bo, HN.out]
    · rw [hX]
      have h1 := (Fam.nil (w.alloc (.cells (madeCells #[.bool false] n) 4)) w.heap.size 3 1).push (y := (.slice (some ⟨w.heap.size + 1, 0, none⟩) 1 1, 1, placesV [fr])) ((Below.refl _ _).alloc (Nat.le_refl _) (.cells #[.int .i64 (fr : Int)] 3)) (by
        refine ⟨by simp [placesV, rowF_len], .inr ⟨w.heap.size + 1, 1, #[.int .i64 (fr : Int)], rfl, by simp, ?_, Nat.le_refl _, by decide, ?_, ?_⟩⟩
        · have := heap_alloc_new (w.alloc (.cells (madeCells #[.bool false] n) 4)) (.cells #[.int .i64 (fr : Int)] 3)
          simpa using this
        · rfl
        · rfl) (by simp)
      exact h1
    · rw [hX]
      exact ((Below.refl _ _).alloc (Nat.le_refl _) _).alloc (by simp) _
  rw [← hX]
  clear hX hmk
  go_loopw [8] (fun wv W => ∃ (met : List Bool) (work : List Nat), 2 * cntF met + work.length ≤ 2 * n + 1 ∧ Hid (Cm w W met wv work ∧ Sea l fr ok met work nobody)) (fun wv W => 2 * offs W w.heap.size n + lenV wv)
  case atStart => exact ⟨_, _, by rw [HN.out]; simp [cntF], HX0.out⟩
  case round =>
    obtain ⟨met, work, hbud, HR⟩ := hrel
    clear HX0
    have hml := HR.out.2.len
    obtain ⟨sw, cw, hwv⟩ := HR.out.1.shape
    subst hwv
    rcases List.eq_nil_or_concat work with h0 | ⟨work', i, h0⟩
    · subst h0
      have HNO : Hid (¬ PureNet.Way l fr fr) := HR.out.2.fin (fun x hx => by rw [HOK.out]; exact decide_eq_true (HCI.out x hx))
      have HB := hid HR.out.1.below
      clear HR
      go_wp2
      go_ret
      exact ⟨⟨false, rfl, by simp [HNO.out]⟩, HB.out⟩
    · rw [List.concat_eq_append] at h0
      subst h0
      obtain ⟨gw, cw', hv, hgw, ci, hcap⟩ := HR.out.1.last
      rw [List.length_append, List.length_singleton] at hv
      simp only [Value.slice.injEq, true_and] at hv
      obtain ⟨rfl, rfl⟩ := hv
      obtain ⟨hs0, hi0⟩ := HR.out.2.pop
      have hin : i < n := by
        rcases hi0 with h | h
        · omega
        · have := (List.getElem?_eq_some_iff.1 h).1
          rw [hml, ← HN.out] at this
          exact this
      obtain ⟨g, hg⟩ : ∃ g, l[i]? = some g := ⟨_, List.getElem?_eq_getElem (by rw [← HN.out]; exact hin)⟩
      have hcm := HR.out.1
      rw [show (Value.slice (some ⟨gw, 0, none⟩) (work' ++ [i]).length cw) = Value.slice (some ⟨gw, 0, none⟩) (work'.length + 1) cw by simp] at hcm
      obtain ⟨b, o, rfl, hb, d0, d1, d2, d3, d4, d5⟩ := gate_at (HC.out.below hcm.below) i g hg
      obtain ⟨a0, a1, a2, hlv, hak⟩ := leansV_form g
      have HLE := hid (fun W => leans_any g W)
      rw [hlv] at HLE
      obtain ⟨cnt, hcnt⟩ : ∃ c, c = (leansOn g).length := ⟨_, rfl⟩
      rw [← hcnt] at HLE
      have hcnt3 : cnt ≤ 3 := by rw [hcnt]; exact leans_len g
      have HCNT := hid hcnt
      have HG := hid hg
      have HAK := hid hak
      have HCM := hid hcm.cut
      have HS0 := hid hs0
      have HI0 := hid hi0
      have hoff := offs_eq hcm.row
      rw [hml, ← HN.out] at hoff
      have HOFF := hid hoff
      have hwl : (work' ++ [i]).length = work'.length + 1 := by simp
      rw [hwl] at hbud
      have hwb : work'.length ≤ 131072 := by omega
      rw [hwl]
      clear hg hlv hak hcnt HR hs0 hi0 hoff hcm hml hwl
      go_wp2_with (go_at_call 47; refine Calls.mono (HLE.out _) ?_; rintro e w1 ⟨rfl, b1⟩; have HC1 : Hid (∀ o, Cm w (w1.alloc o) met (.slice (some ⟨gw, 0, none⟩) work'.length cw) work') := (fun o => (HCM.out.on b1).on ((Below.refl _ _).alloc (Nat.le_refl _) o)); have HR1 : Hid (w.heap.size < w1.heap.size) := Nat.lt_of_lt_of_le (Array.getElem?_eq_some_iff.1 HCM.out.row).1 b1.size; clear b1)
      obtain ⟨Y, hY⟩ : ∃ Y, Y = w1.alloc (Obj.cells #[Value.int IntKind.i64 a0, Value.int IntKind.i64 a1, Value.int IntKind.i64 a2] 79) := ⟨_, rfl⟩
      have HCY : Hid (Cm w Y met (.slice (some ⟨gw, 0, none⟩) work'.length cw) work') := by rw [hY]; exact HC1.out _
      have HRY : Hid (Y.heap[w1.heap.size]? = some (.cells #[Value.int IntKind.i64 a0, Value.int IntKind.i64 a1, Value.int IntKind.i64 a2] 79 (0, 0))) := by rw [hY]; exact heap_alloc_new w1 _
      rw [← hY]
      clear hY HC1 HLE d0 d1 d2 d3 d4 d5 HCM ci
      go_loopw [8, 12] (fun wv tv W => ∃ (t : Nat) (met1 : List Bool) (work1 : List Nat), t ≤ cnt ∧ tv = .int .i64 (t : Int) ∧ 2 * cntF met1 + work1.length ≤ 2 * cntF met + work'.length ∧ Hid (Cm w W met1 wv work1 ∧ Sea l fr ok met1 work1 (PureNet.seen fr ok met1 i t) ∧ (i = fr ∨ met1[i]? = some true) ∧ W.heap[w1.heap.size]? = some (.cells #[Value.int IntKind.i64 a0, Value.int IntKind.i64 a1, Value.int IntKind.i64 a2] 79 (0, 0)))) (fun _ tv _ => cnt - (intOf tv).toNat)
      case atStart => exact ⟨0, met, work', Nat.zero_le _, rfl, Nat.le_refl _, HCY.out, HS0.out, HI0.out, HRY.out⟩
      case round =>
        obtain ⟨t, met1, work1, ht, rfl, hb1, HT⟩ := hrel
        clear HCY HS0 HI0 HRY
        have hml := HT.out.2.1.len
        obtain ⟨sw, cw1, hwv⟩ := HT.out.1.shape
        subst hwv
        have hwb1 : work1.length ≤ 131073 := by omega
        by_cases htl : t < cnt
        · obtain ⟨av, hav⟩ : ∃ a, (leansOn g)[t]? = some a := ⟨_, List.getElem?_eq_getElem (by rw [← HCNT.out]; exact htl)⟩
          obtain ⟨av0, av1⟩ := HP.out i g HG.out av (List.mem_of_getElem? hav)
          obtain ⟨y, rfl⟩ := Int.eq_ofNat_of_zero_le av0
          have hyl : y < l.length := by omega
          have hyn : y < n := by rw [HN.out]; exact hyl
          have HCR : Hid (∀ W : World, W.heap[w1.heap.size]? = some (.cells #[Value.int IntKind.i64 a0, Value.int IntKind.i64 a1, Value.int IntKind.i64 a2] 79 (0, 0)) → W.cell? ⟨w1.heap.size, t, none⟩ = some (.int .i64 (y : Int))) := fun W hW => by
            rw [cell_row hW]
            have := HAK.out t _ hav
            match t, this with
            | 0, h => simp at h; simp [h]
            | 1, h => simp at h; simp [h]
            | 2, h => simp at h; simp [h]
          have car := HCR.out wr HT.out.2.2.2
          have car1 := (Array.getElem?_eq_some_iff.1 HT.out.2.2.2).1
          have HAV := hid hav
          clear hav av1
          by_cases hyf : y = fr
          · have HW : Hid (PureNet.Way l fr fr) := HT.out.2.1.back HG.out HAV.out av0 HT.out.2.2.1 (by simpa using hyf)
            have HB := hid HT.out.1.below
            clear HT
            subst hyf
            go_wp2
            go_ret
            exact ⟨⟨true, rfl, by simp [HW.out]⟩, HB.out⟩
          · have hyfb : ((y : Int) == (fr : Int)) = false := by rw [beq_eq_false_iff_ne]; omega
            obtain ⟨lb, hlb⟩ : ∃ b, left[y]? = some b := ⟨_, List.getElem?_eq_getElem (by rw [HLL.out]; exact hyl)⟩
            obtain ⟨mb, hmb⟩ : ∃ b, met1[y]? = some b := ⟨_, List.getElem?_eq_getElem (by rw [hml]; exact hyl)⟩
            obtain ⟨bl, ol, rfl, hbl, cl0⟩ := bit_at HLF.out y lb hlb
            have cl1 := below_cell HT.out.1.below hbl cl0
            have cl2 : bl < wr.heap.size := Nat.lt_of_lt_of_le hbl HT.out.1.below.size
            obtain ⟨cm, fm⟩ := HT.out.1.cell hmb
            have cml := (Array.getElem?_eq_some_iff.1 HT.out.1.row).1
            have HLB := hid hlb
            have HMB := hid hmb
            clear hlb hmb cl0
            by_cases hgo : lb = true ∧ mb = false
            · obtain ⟨rfl, rfl⟩ := hgo
              have HS2 := hid (HT.out.2.1.meet HG.out HAV.out av0 HT.out.2.2.1 (by simpa using hyf) (by simpa using hyl))
              have HM2 := hid (HT.out.1.mark y)
              have hcf := cntF_set HMB.out
              have HI2 : Hid (i = fr ∨ (met1.set y true)[i]? = some true) := by
                rcases HT.out.2.2.1 with h | h
                · exact .inl h
                · refine .inr ?_
                  rw [List.getElem?_set]
                  by_cases hyi : y = i
                  · rw [if_pos hyi, if_pos (by rw [hml]; exact hyl)]
                  · rw [if_neg hyi]; exact h
              have HR2 : Hid ((wr.setCell ⟨w.heap.size, y, none⟩ (.bool true)).heap[w1.heap.size]? = some (.cells #[Value.int IntKind.i64 a0, Value.int IntKind.i64 a1, Value.int IntKind.i64 a2] 79 (0, 0))) := (Below.heap_setCell _ _ _ _ (show w1.heap.size ≠ w.heap.size by have := HR1.out; omega)).trans HT.out.2.2.2
              have car2 := HCR.out _ HR2.out
              have car2l := (Array.getElem?_eq_some_iff.1 HR2.out).1
              clear HT hyf
              go_wp2_with (first
                | (at_builtin; refine fam_app rfl _ _ rfl HM2.out.fam HM2.out.below 0 _ rfl (y : Int) _ _ (by simp [World.setCell]) rfl rfl (by show work1.length ≤ _; omega) ?_; intro sx2 cx2 w2 hf2 hb2 hk2; have HF2 := hid hf2; have HB2 := hid hb2; have HMR := hid (hk2 _ _ _ _ HM2.out.row (by decide)); have HAR := hid (hk2 _ _ _ _ HR2.out (by decide)); clear hf2 hb2 hk2))
              refine ⟨⟨t + 1, met1.set y true, work1 ++ [y], htl, by go_num, by rw [List.length_append, List.length_singleton]; omega, ⟨HMR.out, ?_, HB2.out⟩, ?_, HI2.out, HAR.out⟩, by simp [intOf]; omega⟩
              · rw [← places_snoc, List.length_append, List.length_singleton]
                exact HF2.out
              · simpa using HS2.out
            · have HS2 := hid (HT.out.2.1.pass HG.out HAV.out (by simpa using hyf) (fun h => by
                rw [HOK.out] at h
                have h2 := of_decide_eq_true h
                simp only [Int.toNat_natCast] at h2 ⊢
                rw [HLB.out] at h2
                cases mb with
                | true => exact HMB.out
                | false => exact absurd ⟨Option.some.inj h2, rfl⟩ hgo))
              have HT2 := hid HT.out
              clear HT
              have hsp : lb = false ∨ (lb = true ∧ mb = true) := by
                cases lb with
                | false => exact .inl rfl
                | true => cases mb with
                  | true => exact .inr ⟨rfl, rfl⟩
                  | false => exact absurd ⟨rfl, rfl⟩ hgo
              clear hgo
              rcases hsp with rfl | ⟨rfl, rfl⟩
              all_goals
                go_wp2
                exact ⟨⟨t + 1, met1, work1, htl, by go_num, hb1, HT2.out.1, HS2.out, HT2.out.2.2.1, HT2.out.2.2.2⟩, by simp [intOf]; omega⟩
        · obtain rfl : t = cnt := by omega
          have HS2 := hid (HT.out.2.1.done HG.out HCNT.out)
          have HCM2 := hid HT.out.1
          have hof := offs_eq HT.out.1.row
          rw [hml, ← HN.out] at hof
          have HOF2 := hid hof
          clear HT hof
          go_wp2
          refine ⟨⟨met1, work1, by omega, HCM2.out, HS2.out⟩, ?_⟩
          rw [HOF2.out, HOFF.out]
          simp only [lenV]
          omega
end Go.Proofs.YtfmmmhcpdinhgaaDoor
/-
  The document's own Circles.
-/
namespace PureNet
set_option maxRecDepth 100000
theorem nodup_few {out : List Nat} {n : Nat} (hnd : out.Nodup) (hlt : ∀ x ∈ out, x < n) : out.length ≤ n := by
  apply Classical.byContradiction
  intro hn
  have hat : ∀ k, k ≤ n → k < out.length := fun k hk => by omega
  obtain ⟨a, b, hab, hb, e⟩ := holes n (fun k => out.getD k 0) (fun k hk => by
    show out.getD k 0 < n
    rw [List.getD_eq_getElem?_getD, List.getElem?_eq_getElem (hat k hk)]
    exact hlt _ (List.getElem_mem _))
  have e2 : out.getD a 0 = out.getD b 0 := e
  rw [List.getD_eq_getElem?_getD, List.getD_eq_getElem?_getD, List.getElem?_eq_getElem (hat a (by omega)), List.getElem?_eq_getElem (hat b hb)] at e2
  have := (List.getElem?_inj (hat a (by omega)) hnd).1 (show out[a]? = out[b]? by rw [List.getElem?_eq_getElem (hat a (by omega)), List.getElem?_eq_getElem (hat b hb)]; exact congrArg some e2)
  omega
theorem nodup_all {out : List Nat} {n : Nat} (hnd : out.Nodup) (hlt : ∀ x ∈ out, x < n) (hlen : out.length = n) : ∀ i, i < n → i ∈ out := by
  intro i hi
  apply Classical.byContradiction
  intro hni
  have h := nodup_few (out := out ++ [i]) (n := n) (by
    rw [List.nodup_append]
    exact ⟨hnd, by simp, fun a ha b hb => by simp at hb; subst hb; rintro rfl; exact hni ha⟩) (fun x hx => by
    rcases List.mem_append.1 hx with h | h
    · exact hlt x h
    · simp at h; omega)
  simp at h
  omega
section
variable {l : List Ga} {out : List Nat} {q : Nat} {D : Nat → Bool}
theorem LayS.behind (h : LayS l out q D) {k i j : Nat} (hk : out[k]? = some i) (hl : Leans l i j) : ∃ m, m < k ∧ out[m]? = some j := by
  obtain ⟨g, hg, hm⟩ := hl
  exact h.ord k i hk j ((ents_mem l j i).2 ⟨g, _, hg, hm, by simp⟩)
theorem LayS.far (h : LayS l out q D) {i j : Nat} (hw : Way l i j) : ∀ k : Nat, out[k]? = some i → ∃ m : Nat, m < k ∧ out[m]? = some j := by
  induction hw using PureNet.Way.ind with
  | one h1 => intro k hk; exact h.behind hk h1
  | more h1 _ ih =>
    intro k hk
    obtain ⟨m, hm, h2⟩ := h.behind hk h1
    obtain ⟨m2, hm2, h3⟩ := ih m h2
    exact ⟨m2, by omega, h3⟩
/-- who has been laid is in no circle. -/
theorem LayS.free (h : LayS l out q D) {i : Nat} (hi : i ∈ out) : ¬ Way l i i := by
  intro hw
  obtain ⟨k, hk, e⟩ := List.getElem_of_mem hi
  have hki : out[k]? = some i := by rw [List.getElem?_eq_getElem hk, e]
  obtain ⟨m, hm, h2⟩ := h.far hw k hki
  have := (List.getElem?_inj hk h.nd).1 (hki.trans h2.symm)
  omega
end
/-- what Circles answers. -/
def CircleIs (l : List Ga) (r : Int) : Prop := (r = -1 ∧ ∀ i, ¬ Way l i i) ∨ ∃ i : Nat, r = (i : Int) ∧ i < l.length ∧ Way l i i ∧ ∀ j, j < i → ¬ Way l j j
end PureNet

namespace Go.Proofs.YtfmmmhcpdinhgaaDoor
open Go.RowKit Go.Deep PureNet ShfKit

theorem bits_set {W : World} {g : Nat} {L : List Bool} (h : W.heap[g]? = some (.cells (bo L).toArray 4 (0, 0))) (y : Nat) (b : Bool) : (W.setCell ⟨g, y, none⟩ (.bool b)).heap[g]? = some (.cells (bo (L.set y b)).toArray 4 (0, 0)) := by
  have := row_set (i := y) (u := .bool b) h
  rw [this]
  congr 2
  apply Array.ext'
  simp [bo, List.map_set]
theorem bits_cell {W : World} {g : Nat} {L : List Bool} (h : W.heap[g]? = some (.cells (bo L).toArray 4 (0, 0))) {y : Nat} {b : Bool} (hy : L[y]? = some b) : W.cell? ⟨g, y, none⟩ = some (.bool b) ∧ W.frozen? ⟨g, y, none⟩ = false ∧ g < W.heap.size := by
  refine ⟨?_, unfrozen_row h y, (Array.getElem?_eq_some_iff.1 h).1⟩
  rw [cell_row h]
  simp [bo, hy]
theorem bits_at {W : World} {g : Nat} {L : List Bool} (h : W.heap[g]? = some (.cells (bo L).toArray 4 (0, 0))) : CellsAt W (some ⟨g, 0, none⟩) (bo L) := ⟨fun k x hx => ⟨g, 0, rfl, (Array.getElem?_eq_some_iff.1 h).1, by rw [cell_row h, Nat.zero_add]; simpa using hx⟩⟩
/-- those that are left: all but the first k of out. -/
def leftL (n : Nat) (out : List Nat) : List Bool := (List.range n).map fun x => !decide (x ∈ out)
theorem leftL_at (n : Nat) (out : List Nat) (x : Nat) (h : x < n) : (leftL n out)[x]? = some (!decide (x ∈ out)) := by simp [leftL, h]
theorem leftL_len (n : Nat) (out : List Nat) : (leftL n out).length = n := by simp [leftL]
theorem leftL_snoc (n : Nat) (out : List Nat) (y : Nat) : (leftL n out).set y false = leftL n (out ++ [y]) := by
  apply List.ext_getElem?
  intro k
  rw [List.getElem?_set]
  by_cases hk : k < n
  · rw [leftL_at n _ k hk, leftL_at n _ k hk]
    by_cases hy : y = k
    · rw [if_pos hy, if_pos (by rw [leftL_len]; omega)]
      simp [hy]
    · rw [if_neg hy]
      have : (k ∈ out ++ [y]) ↔ k ∈ out := by
        simp
        intro e
        exact absurd e.symm hy
      rw [decide_eq_decide.2 this]
  · rw [List.getElem?_eq_none (by rw [leftL_len]; omega), List.getElem?_eq_none (by rw [leftL_len]; omega)]
    split
    · rw [if_neg (by rw [leftL_len]; omega)]
    · rfl

/-- the first i are marked. -/
def upL (n i : Nat) : List Bool := (List.range n).map fun x => decide (x < i)
theorem upL_at (n i x : Nat) (h : x < n) : (upL n i)[x]? = some (decide (x < i)) := by simp [upL, h]
theorem upL_len (n i : Nat) : (upL n i).length = n := by simp [upL]
theorem upL_zero (n : Nat) : upL n 0 = List.replicate n false := by
  apply List.ext_getElem?
  intro k
  by_cases hk : k < n
  · rw [upL_at n 0 k hk]; simp [hk]
  · rw [List.getElem?_eq_none (by rw [upL_len]; omega), List.getElem?_eq_none (by simp; omega)]
theorem upL_all (n : Nat) : upL n n = leftL n [] := by
  unfold upL leftL
  refine List.map_congr_left fun x hx => ?_
  have : x < n := by simpa using hx
  simp [this]
theorem upL_set (n i : Nat) : (upL n i).set i true = upL n (i + 1) := by
  apply List.ext_getElem?
  intro k
  rw [List.getElem?_set]
  by_cases hk : k < n
  · rw [upL_at n _ k hk, upL_at n _ k hk]
    by_cases hy : i = k
    · rw [if_pos hy, if_pos (by rw [upL_len]; omega)]
      simp [hy]
    · rw [if_neg hy]
      have : (k < i) ↔ (k < i + 1) := by omega
      rw [decide_eq_decide.2 this]
  · rw [List.getElem?_eq_none (by rw [upL_len]; omega), List.getElem?_eq_none (by rw [upL_len]; omega)]
    split
    · rw [if_neg (by rw [upL_len]; omega)]
    · rfl
/-- marks, and an order that is kept. -/
structure LfC (w W : World) (L : List Bool) (ov : Value) (out : List Nat) : Prop where
  row : W.heap[w.heap.size]? = some (.cells (bo L).toArray 4 (0, 0))
  below : Below w.heap.size w W
  own : W.ownsRow (w.heap.size + 1) 3 1 ov out.length (placesV out)
theorem LfC.set {w W : World} {L : List Bool} {ov : Value} {out : List Nat} (h : LfC w W L ov out) (y : Nat) (b : Bool) : LfC w (W.setCell ⟨w.heap.size, y, none⟩ (.bool b)) (L.set y b) ov out :=
  ⟨bits_set h.row y b, h.below.setCell (Nat.le_refl _) _, ownsRow_setCell_below h.own (show w.heap.size < w.heap.size + 1 by omega) _⟩
theorem LfC.on {w W W' : World} {L : List Bool} {ov : Value} {out : List Nat} (h : LfC w W L ov out) (hb : Below W.heap.size W W') : LfC w W' L ov out :=
  ⟨(hb.block _ (Array.getElem?_eq_some_iff.1 h.row).1).trans h.row, h.below.trans (hb.mono h.below.size), ownsRow_below h.own hb⟩

set_option maxHeartbeats 1000000 in
set_option maxRecDepth 100000 in
theorem circles_any (l : List Ga) (sg : Option Addr) (cg : Nat) (w : World) (hc : CellsAt w sg (gas l)) (hl : l.length ≤ 65536) (hp : ∀ (i : Nat) (g : Ga), l[i]? = some g → ∀ a ∈ leansOn g, 0 ≤ a ∧ a < (l.length : Int)) :
    Calls Tryd.prog 59 #[.slice sg l.length cg] w fun e w' => (∃ r : Int, e = .returned (.int .i64 r) ∧ CircleIs l r) ∧ Below w.heap.size w w' := by
  obtain ⟨n, hn⟩ : ∃ n, n = l.length := ⟨_, rfl⟩
  have HC := hid hc
  have HP := hid hp
  have HN := hid hn
  have HL := hid hl
  have hmk : ∀ W : World, (Instr.makeSlice 29 (.int .i64 (n : Int)) (.int .i64 (n : Int))).run Tryd.prog W = .ok (.slice (some ⟨W.heap.size, 0, none⟩) n n) (W.alloc (.cells (madeCells #[.bool false] n) 4)) := fun W =>
    run_make_row' (P := Tryd.prog) 29 4 (.bool false) 1 Tryd.underlying29 info4 rfl .i64 .i64 n (by omega) (by omega) W
  have hl' : n ≤ 65536 := by omega
  obtain ⟨X, hX⟩ : ∃ X, X = w.alloc (.cells (madeCells #[.bool false] n) 4) := ⟨_, rfl⟩
  have HLY := hid (layers_any l sg cg X (hc.below (by rw [hX]; exact (Below.refl _ _).alloc (Nat.le_refl _) _)) hl hp)
  have HX : Hid (X.heap[w.heap.size]? = some (.cells (bo (List.replicate n false)).toArray 4 (0, 0)) ∧ Below w.heap.size w X ∧ w.heap.size < X.heap.size) := by
    rw [hX]
    refine ⟨(heap_alloc_new w _).trans ?_, (Below.refl _ _).alloc (Nat.le_refl _) _, by simp⟩
    congr 2
    apply Array.ext'
    rw [toList_madeCells_one]
    simp [bo]
  rw [← hn] at HLY ⊢
  have HXE := hid hX
  clear hc hp hn hl hX
  go_enter Tryd.func59, Tryd.ntmps59
  go_upto_if 18 with (first | (rw [← HXE.out]; go_at_call 86; refine Calls.mono HLY.out ?_; rintro e w1 ⟨v, out, rfl, ho, b1, hls⟩; obtain ⟨so, co, rfl⟩ := own_shape ho; have HO := hid (own_base ho (Nat.succ_le_of_lt HX.out.2.2)); have HLS := hid hls; have HR1 : Hid (w1.heap[w.heap.size]? = some (.cells (bo (List.replicate n false)).toArray 4 (0, 0)) ∧ Below w.heap.size w w1) := ⟨(b1.block _ HX.out.2.2).trans HX.out.1, HX.out.2.1.trans (b1.mono HX.out.2.1.size)⟩; clear ho hls b1))
  have hfew : out.length ≤ n := by
    have := lay_few HLS.out
    rw [← HN.out] at this
    exact this
  clear HLY HX HXE hmk
  by_cases hall : out.length = n
  · have HNO : Hid (CircleIs l (-1)) := by
      refine .inl ⟨rfl, fun i hw => ?_⟩
      have hi := way_lt hw
      exact HLS.out.free (nodup_all HLS.out.nd (fun x hx => HLS.out.lt x hx) (by rw [← HN.out]; exact hall) i hi) hw
    have HB := hid HR1.out.2
    have hbe : ((out.length : Int) == (n : Int)) = true := by rw [hall]; simp
    clear HR1 HO
    go_wp2
    go_ret
    exact ⟨⟨-1, rfl, HNO.out⟩, HB.out⟩
  · have hbe : ((out.length : Int) == (n : Int)) = false := by rw [beq_eq_false_iff_ne]; omega
    clear hall
    go_wp2
    clear hbe
    obtain ⟨bq, hbq⟩ : ∃ bq : Bool, bq = ((out.length : Int) == (n : Int)) := ⟨_, rfl⟩
    rw [← hbq]
    clear hbq
    have HL0 : Hid (LfC w w1 (upL n 0) (.slice so out.length co) out) := ⟨by rw [upL_zero]; exact HR1.out.1, HR1.out.2, HO.out⟩
    clear HR1 HO
    go_loopw [5] (fun iv W => ∃ i : Nat, i ≤ n ∧ iv = .int .i64 (i : Int) ∧ Hid (LfC w W (upL n i) (.slice so out.length co) out)) (fun iv _ => n - (intOf iv).toNat)
    case atStart => exact ⟨0, Nat.zero_le _, rfl, HL0.out⟩
    case round =>
      obtain ⟨i, hi, rfl, HF⟩ := hrel
      clear HL0
      by_cases hlt : i < n
      · obtain ⟨c0, f0, l0⟩ := bits_cell HF.out.row (upL_at n i i hlt)
        have HF2 := hid (HF.out.set i true)
        rw [upL_set] at HF2
        clear HF
        go_wp2
        exact ⟨⟨i + 1, hlt, by go_num, HF2.out⟩, by simp [intOf]; omega⟩
      · obtain rfl : i = n := by omega
        have HL1 := hid HF.out
        rw [upL_all] at HL1
        clear HF
        go_wp2
        go_loopw [6] (fun kv W => ∃ k : Nat, k ≤ out.length ∧ kv = .int .i64 (k : Int) ∧ Hid (LfC w W (leftL i (out.take k)) (.slice so out.length co) out)) (fun kv _ => out.length - (intOf kv).toNat)
        case atStart => exact ⟨0, Nat.zero_le _, rfl, by rw [List.take_zero]; exact HL1.out⟩
        case round =>
          obtain ⟨k, hk, rfl, HF⟩ := hrel
          clear HL1
          by_cases hlt2 : k < out.length
          · obtain ⟨y, hy⟩ : ∃ y, out[k]? = some y := ⟨_, List.getElem?_eq_getElem hlt2⟩
            have hyn : y < i := by rw [HN.out]; exact HLS.out.lt y (List.mem_of_getElem? hy)
            obtain ⟨go, co', hso, _, hgo, cq, _⟩ := own_cell HF.out.own (rowF_at out.length (fun k => (out.getD k 0 : Int)) k hlt2)
            simp only [Value.slice.injEq, true_and] at hso
            obtain ⟨rfl, rfl⟩ := hso
            have hyd : (out.getD k 0 : Int) = (y : Int) := by rw [List.getD_eq_getElem?_getD, hy]; rfl
            rw [hyd] at cq
            obtain ⟨c0, f0, l0⟩ := bits_cell HF.out.row (leftL_at i (out.take k) y hyn)
            have htk : out.take (k + 1) = out.take k ++ [y] := by rw [List.take_add_one, hy]; rfl
            have HF2 := hid (HF.out.set y false)
            rw [leftL_snoc, ← htk] at HF2
            clear HF hyd htk hy
            go_wp2
            exact ⟨⟨k + 1, hlt2, by go_num, HF2.out⟩, by simp [intOf]; omega⟩
          · obtain rfl : k = out.length := by omega
            have HL2 := hid HF.out
            rw [List.take_length] at HL2
            clear HF
            go_wp2
            go_loopw [7] (fun iv W => ∃ j : Nat, j ≤ i ∧ iv = .int .i64 (j : Int) ∧ Hid (LfC w W (leftL i out) (.slice so out.length co) out ∧ ∀ x, x < j → ¬ PureNet.Way l x x)) (fun iv _ => i - (intOf iv).toNat)
            case atStart => exact ⟨0, Nat.zero_le _, rfl, HL2.out, fun x hx => by omega⟩
            case round =>
              obtain ⟨j, hj, rfl, HF⟩ := hrel
              clear HL2
              by_cases hlt3 : j < i
              · obtain ⟨c0, f0, l0⟩ := bits_cell HF.out.1.row (leftL_at i out j hlt3)
                by_cases hjo : j ∈ out
                · have HNX : Hid (LfC w wr (leftL i out) (.slice so out.length co) out ∧ ∀ x, x < j + 1 → ¬ PureNet.Way l x x) := ⟨HF.out.1, fun x hx => by
                    by_cases hxj : x = j
                    · rw [hxj]; exact HLS.out.free hjo
                    · exact HF.out.2 x (by omega)⟩
                  rw [show (!decide (j ∈ out)) = false by simp [hjo]] at c0
                  clear HF
                  go_wp2
                  exact ⟨⟨j + 1, hlt3, by go_num, HNX.out⟩, by simp [intOf]; omega⟩
                · rw [show (!decide (j ∈ out)) = true by simp [hjo]] at c0
                  have HCM := hid (comes_any l (leftL i out) sg (some ⟨w.heap.size, 0, none⟩) cg i j wr (HC.out.below HF.out.1.below) (bits_at HF.out.1.row) (by rw [leftL_len]; exact HN.out) HL.out HP.out (by rw [← HN.out]; exact hlt3) (fun x hx => by
                    have hxl := way_lt hx
                    rw [leftL_at i out x (by rw [HN.out]; exact hxl)]
                    have : x ∉ out := fun h => HLS.out.free h hx
                    simp [this]))
                  rw [← HN.out] at HCM
                  by_cases hway : PureNet.Way l j j
                  · have HW : Hid (CircleIs l (j : Int)) := .inr ⟨j, rfl, by rw [← HN.out]; exact hlt3, hway, HF.out.2⟩
                    have HWY := hid hway
                    clear hway
                    go_wp2_with (go_at_call 87; refine Calls.mono HCM.out ?_; rintro e w2 ⟨⟨bb, rfl, hbb⟩, b2⟩; obtain rfl : bb = true := hbb.2 HWY.out; have HF2 := hid (HF.out.1.on b2); clear hbb b2)
                    go_ret
                    exact ⟨⟨(j : Int), rfl, HW.out⟩, HF2.out.below⟩
                  · have HNX : Hid (∀ x, x < j + 1 → ¬ PureNet.Way l x x) := fun x hx => by
                      by_cases hxj : x = j
                      · rw [hxj]; exact hway
                      · exact HF.out.2 x (by omega)
                    have HWY := hid hway
                    clear hway
                    go_wp2_with (go_at_call 87; refine Calls.mono HCM.out ?_; rintro e w2 ⟨⟨bb, rfl, hbb⟩, b2⟩; obtain rfl : bb = false := (by cases bb with | false => rfl | true => exact absurd (hbb.1 rfl) HWY.out); have HF2 := hid (HF.out.1.on b2); clear hbb b2)
                    exact ⟨⟨j + 1, hlt3, by go_num, HF2.out, HNX.out⟩, by simp [intOf]; omega⟩
              · have HNO : Hid (CircleIs l (-1)) := by
                  refine .inl ⟨rfl, fun x hw => HF.out.2 x ?_ hw⟩
                  have := way_lt hw
                  rw [← HN.out] at this
                  omega
                have HB := hid HF.out.1.below
                clear HF
                go_wp2
                go_ret
                exact ⟨⟨-1, rfl, HNO.out⟩, HB.out⟩
end Go.Proofs.YtfmmmhcpdinhgaaDoor
/-
  The first line that is in a circle, or none.
-/
namespace Go.Proofs.YtfmmmhcpdinhgaaDoor
open Go.RowKit Go.Deep PureNet ShfKit
set_option maxRecDepth 100000

set_option maxHeartbeats 4000000 in
theorem firstInCircle_gen (l : List Ga) (sg : Option Addr) (cg n : Nat) (w : World) (hc : CellsAt w sg (gas l)) (hkd : KindsAt w) (hn : n = l.length) (hfew : n ≤ 65536)
    (hlines : ∀ (i : Nat) (g : Ga), l[i]? = some g → (1 ≤ g.kind ∧ g.kind ≤ 4) ∧ ∀ a ∈ leansOn g, 0 ≤ a ∧ a < (l.length : Int)) :
    Calls Tryd.prog 53 #[.slice sg n cg] w fun e W' => (∃ r, e = .returned (.int .i64 r) ∧ CircleIs l r) ∧ Below w.heap.size w W' := by
  have SD := hid (searched_gen l sg cg n w hc hkd hn hfew hlines)
  have HC := hid hc
  have KD := hid hkd
  have HN := hid hn
  have HL := hid hlines
  clear hc hkd hn hlines
  go_enter Tryd.func53, Tryd.ntmps53
  go_wp2_with (fail)
  refine wp_scope_jumps 0 (fun a' w' => ∃ (i : Nat) (u0 u1 u2 u3 u5 u6 u7 u8 u9 u10 u11 u12 u13 u14 u15 u16 u17 u18 u19 u20 u21 u22 u23 u24 u25 u26 u27 u28 u29 u30 u31 u32 u33 u34 u35 u36 u37 u38 : Value), a' = { tmps := #[u0, u1, u2, u3, .int .i64 (i : Int), u5, u6, u7, u8, u9, u10, u11, u12, u13, u14, u15, u16, u17, u18, u19, u20, u21, u22, u23, u24, u25, u26, u27, u28, u29, u30, u31, u32, u33, u34, u35, u36, u37, u38], defers := [] } ∧ Hid (i < l.length ∧ PureNet.Way l i i ∧ (∀ j, j < i → ¬ PureNet.Way l j j) ∧ Below w.heap.size w w')) (fun _ _ => 0) rfl ?_ ?_
  rotate_left 1
  · rintro a' w' ⟨i, u0, u1, u2, u3, u5, u6, u7, u8, u9, u10, u11, u12, u13, u14, u15, u16, u17, u18, u19, u20, u21, u22, u23, u24, u25, u26, u27, u28, u29, u30, u31, u32, u33, u34, u35, u36, u37, u38, rfl, HJ⟩
    go_wp2
    simp only [Exit.jump]
    refine bodyPost_ret (P := Tryd.prog) (fn := Tryd.f53) (v := .int .i64 (i : Int)) ?_ rfl ⟨⟨_, rfl, .inr ⟨i, rfl, HJ.out.1, HJ.out.2.1, HJ.out.2.2.1⟩⟩, HJ.out.2.2.2⟩
    simp [results, Tryd.results53, go_sem]
  go_wp2_with (first | (go_at_call 64; refine Calls.mono SD.out ?_; rintro e w1 ⟨p, s, mv, rv, pv, wv, tv, ov, rs, rfl, hs1, hsr1, _, hall1⟩; have SE1 := hid hs1; have SR1 := hid hsr1; have HA1 := hid hall1; have c1 := hs1.cell; have hp1 := hs1.size; clear hs1 hsr1 hall1))
  have PC : Hid (∀ x y, Leans l x y → (s.part y = s.part x ↔ (y = x ∨ PureNet.Way l y x))) := fun x y hxy => SR1.out.circle (fun z hz => HA1.out z (by rw [HN.out]; exact hz)) (fun i g hg => (HL.out i g hg).2) hxy
  clear c1 hp1 SD
  go_loopw [14] (fun iv W => ∃ i : Nat, i ≤ n ∧ iv = .int .i64 (i : Int) ∧ Hid ((∀ j, j < i → ¬ PureNet.Way l j j) ∧ Below w1.heap.size w1 W)) (fun iv _ => n - (intOf iv).toNat)
  case atStart => exact ⟨0, Nat.zero_le _, rfl, fun j hj => by omega, Below.refl _ _⟩
  case round =>
    obtain ⟨i, hi, rfl, HB0⟩ := hrel
    have HB := hid HB0.out.2
    have HFR := hid HB0.out.1
    clear HB0
    by_cases hlt : i < n
    · obtain ⟨g, hg⟩ : ∃ g, l[i]? = some g := ⟨_, List.getElem?_eq_getElem (by rw [← HN.out]; exact hlt)⟩
      have bw : Below w.heap.size w wr := SE1.out.below.trans (HB.out.mono SE1.out.below.size)
      obtain ⟨gb, go, rfl, hgb, a0, a1, a2, a3, a4, a5⟩ := gate_at (HC.out.below bw) i g hg
      obtain ⟨gp, cp, hpv, _, hgps, _⟩ := SE1.out.row (i := 2) (by omega) rfl hlt
      subst hpv
      have PL := hid (pleans_any g wr (KD.out.on bw) (HL.out i g hg).1 (fun a ha => ((HL.out i g hg).2 a ha).1))
      have HG := hid hg
      have BW := hid bw
      clear hg bw
      go_wp2_with (first | (go_at_call 81; refine Calls.mono PL.out ?_; rintro e w3 ⟨lv, lr, rfl, hlf, hlo, b3⟩; have LO := hid hlo; have B3 := hid b3; obtain ⟨lq, hlq⟩ : ∃ lq, lq = ((leansOn g).map Int.toNat).length := ⟨_, rfl⟩; obtain ⟨sq, cq, hlv, hlq2, hlr⟩ := hlf; rw [← hlq] at hlv; subst hlv; have LR := hid hlr; have LQ := hid hlq; have hlq3 : lq ≤ 3 := (by rw [hlq, List.length_map]; unfold leansOn; split; (· simp); (· split <;> simp)); clear hlo b3 hlq hlq2 hlr))
      go_loopw [23] (fun kv W => ∃ k : Nat, k ≤ lq ∧ kv = .int .i64 (k : Int) ∧ Hid ((∀ (j y : Nat), j < k → ((leansOn g).map Int.toNat)[j]? = some y → s.part y ≠ s.part i) ∧ Below w3.heap.size w3 W)) (fun kv _ => lq - (intOf kv).toNat)
      case atStart => exact ⟨0, Nat.zero_le _, rfl, fun j y hj => by omega, Below.refl _ _⟩
      case round =>
        obtain ⟨k, hk, rfl, HB9⟩ := hrel
        have HB4 := hid HB9.out.2
        have HNO := hid HB9.out.1
        clear HB9
        by_cases hkl : k < lq
        · obtain ⟨y, hy⟩ : ∃ y, ((leansOn g).map Int.toNat)[k]? = some y := ⟨_, List.getElem?_eq_getElem (by rw [← LQ.out]; exact hkl)⟩
          obtain ⟨gl, kl, rfl, hgl, hrow⟩ := LR.out (fun e => by rw [e] at hy; simp at hy)
          have hly : Leans l i y := by
            refine ⟨g, HG.out, ?_⟩
            have hy2 := hy
            rw [List.getElem?_map, Option.map_eq_some_iff] at hy2
            obtain ⟨a, ha, rfl⟩ := hy2
            have hm := List.mem_of_getElem? ha
            rw [Int.toNat_of_nonneg ((HL.out i g HG.out).2 a hm).1]
            exact hm
          have hyn : y < n := by
            obtain ⟨g2, hg2, hm⟩ := hly
            have := ((HL.out i g2 hg2).2 _ hm).2
            rw [HN.out]
            omega
          have HPI := hid (PC.out i y hly)
          have HLY := hid hly
          have HY := hid hy
          obtain ⟨g5, c5, hv5, _, hg5, hc5, _⟩ := own_cell LO.out (hrow k y hy)
          rw [hv5] at hgl
          cases hgl
          have hcy : wr.cell? ⟨g5, kl + k, none⟩ = some (.int .i64 (y : Int)) := below_cell HB4.out hg5 hc5
          have bx : Below w1.heap.size w1 wr := HB.out.trans ((B3.out.trans (HB4.out.mono B3.out.size)).mono HB.out.size)
          obtain ⟨_, _, e9, _, _, hpy, _⟩ := (SE1.out.on bx).row (i := 2) (by omega) rfl hyn
          simp only [Value.slice.injEq, Option.some.injEq, Addr.mk.injEq, and_true, true_and] at e9
          obtain ⟨rfl, rfl⟩ := e9
          obtain ⟨_, _, e9, _, _, hpi, _⟩ := (SE1.out.on bx).row (i := 2) (by omega) rfl hlt
          simp only [Value.slice.injEq, Option.some.injEq, Addr.mk.injEq, and_true, true_and] at e9
          obtain ⟨rfl, rfl⟩ := e9
          have hgls : g5 < wr.heap.size := Nat.lt_of_lt_of_le hg5 HB4.out.size
          have BX := hid bx
          clear hy hrow hly hv5 hc5 bx
          by_cases hpe : s.part y = s.part i
          · have hpne : (s.part y == s.part i) = true := by rw [hpe]; exact beq_self_eq_true _
            have HPE := hid hpe
            clear hpe
            go_wp2
            refine wp_region_noPanic ?_
            refine wp_region_held_drew (S := fun W => W.cell? ⟨gp, y, none⟩ = some (.int .i64 (s.part y)) ∧ W.cell? ⟨gp, i, none⟩ = some (.int .i64 (s.part i))) (by kernel_rfl) ⟨hpy, hpi⟩ (fun hHeld => ?_)
            refine wpAnyH_take (i := 0) (v := ?_) (by simp only [List.getElem?_toArray, List.getElem?_cons_zero]; rfl) (by kernel_rfl) (by kernel_rfl) (by kernel_rfl) (fun _ _ _ h => h) (Or.inl ⟨by rfl, ?_⟩) (by assumption) ?_
            rotate_left 1
            · intro w hSw; (try dsimp only at hSw); go_simp; (try with_reducible rfl)
            try simp only [Act.put, List.setIfInBounds_toArray, List.set_cons_zero, List.set_cons_succ]
            refine wpAnyH_take (i := 1) (v := ?_) (by simp only [List.getElem?_toArray, List.getElem?_cons_succ, List.getElem?_cons_zero]; rfl) (by kernel_rfl) (by kernel_rfl) (by kernel_rfl) (fun _ _ _ h => h) (Or.inl ⟨by rfl, ?_⟩) (by assumption) ?_
            rotate_left 1
            · intro w hSw; (try dsimp only at hSw); go_simp; (try with_reducible rfl)
            try simp only [Act.put, List.setIfInBounds_toArray, List.set_cons_zero, List.set_cons_succ]
            refine wpAnyH_take (i := 2) (v := .pointer (some ⟨gp, y, none⟩)) (by simp only [List.getElem?_toArray, List.getElem?_cons_succ, List.getElem?_cons_zero]; rfl) (by kernel_rfl) (by kernel_rfl) (by kernel_rfl) (fun _ _ _ h => h) (Or.inl ⟨by rfl, ?_⟩) (by assumption) ?_
            · intro w hSw; (try dsimp only at hSw); (try go_simp); ((try rw [if_pos (by omega)]); (try simp); (try (intro h9; omega)))
            try simp only [Act.put, List.setIfInBounds_toArray, List.set_cons_zero, List.set_cons_succ]
            refine wpAnyH_take (i := 3) (v := ?_) (by simp only [List.getElem?_toArray, List.getElem?_cons_succ, List.getElem?_cons_zero]; rfl) (by kernel_rfl) (by kernel_rfl) (by kernel_rfl) (fun _ _ _ h => h) (Or.inl ⟨by rfl, ?_⟩) (by assumption) ?_
            rotate_left 1
            · intro w hSw; (try dsimp only at hSw); go_simp; (try with_reducible rfl)
            try simp only [Act.put, List.setIfInBounds_toArray, List.set_cons_zero, List.set_cons_succ]
            refine wpAnyH_take (i := 4) (v := ?_) (by simp only [List.getElem?_toArray, List.getElem?_cons_succ, List.getElem?_cons_zero]; rfl) (by kernel_rfl) (by kernel_rfl) (by kernel_rfl) (fun _ _ _ h => h) (Or.inl ⟨by rfl, ?_⟩) (by assumption) ?_
            rotate_left 1
            · intro w hSw; (try dsimp only at hSw); go_simp; (try with_reducible rfl)
            try simp only [Act.put, List.setIfInBounds_toArray, List.set_cons_zero, List.set_cons_succ]
            refine wpAnyH_take (i := 5) (v := ?_) (by simp only [List.getElem?_toArray, List.getElem?_cons_succ, List.getElem?_cons_zero]; rfl) (by kernel_rfl) (by kernel_rfl) (by kernel_rfl) (fun _ _ _ h => h) (Or.inl ⟨by rfl, ?_⟩) (by assumption) ?_
            rotate_left 1
            · intro w hSw; (try dsimp only at hSw); go_simp; (try with_reducible rfl)
            try simp only [Act.put, List.setIfInBounds_toArray, List.set_cons_zero, List.set_cons_succ]
            refine wpAnyH_take (i := 6) (v := .pointer (some ⟨gp, i, none⟩)) (by simp only [List.getElem?_toArray, List.getElem?_cons_succ, List.getElem?_cons_zero]; rfl) (by kernel_rfl) (by kernel_rfl) (by kernel_rfl) (fun _ _ _ h => h) (Or.inl ⟨by rfl, ?_⟩) (by assumption) ?_
            · intro w hSw; (try dsimp only at hSw); (try go_simp); ((try rw [if_pos (by omega)]); (try simp); (try (intro h9; omega)))
            try simp only [Act.put, List.setIfInBounds_toArray, List.set_cons_zero, List.set_cons_succ]
            refine wpAnyH_take (i := 7) (v := ?_) (by simp only [List.getElem?_toArray, List.getElem?_cons_succ, List.getElem?_cons_zero]; rfl) (by kernel_rfl) (by kernel_rfl) (by kernel_rfl) (fun _ _ _ h => h) (Or.inl ⟨by rfl, ?_⟩) (by assumption) ?_
            rotate_left 1
            · intro w hSw; (try dsimp only at hSw); go_simp; (try with_reducible rfl)
            try simp only [Act.put, List.setIfInBounds_toArray, List.set_cons_zero, List.set_cons_succ]
            refine wpAnyH_take (i := 8) (v := .bool true) (by simp only [List.getElem?_toArray, List.getElem?_cons_succ, List.getElem?_cons_zero]; rfl) (by kernel_rfl) (by kernel_rfl) (by kernel_rfl) (fun _ _ _ h => h) (Or.inl ⟨by rfl, ?_⟩) (by assumption) ?_
            · intro w hSw; (try dsimp only at hSw); (try go_simp); ((try rw [hpne]); (try simp))
            try simp only [Act.put, List.setIfInBounds_toArray, List.set_cons_zero, List.set_cons_succ]
            refine wpAnyH_done (by kernel_rfl) ?_ _
            refine NoPanic.normal ?_
            go_wp2
            go_step3
            refine ⟨rfl, i, _, _, _, _, _, _, _, _, _, _, _, _, _, _, _, _, _, _, _, _, _, _, _, _, _, _, _, _, _, _, _, _, _, _, _, _, _, _, rfl, ?_⟩
            refine ⟨by rw [← HN.out]; exact hlt, ?_, HFR.out, ?_⟩
            · rcases HPI.out.1 HPE.out with e | e
              · have := HLY.out
                rw [e] at this
                exact .one this
              · exact .more HLY.out e
            · exact (SE1.out.below.trans (BX.out.mono SE1.out.below.size)).trans (Below.refl _ _).drew
          · have hpne : (s.part y == s.part i) = false := beq_eq_false_iff_ne.2 hpe
            have HPE := hid hpe
            clear hpe
            go_wp2
            refine wp_region_noPanic ?_
            refine wp_region_held_drew (S := fun W => W.cell? ⟨gp, y, none⟩ = some (.int .i64 (s.part y)) ∧ W.cell? ⟨gp, i, none⟩ = some (.int .i64 (s.part i))) (by kernel_rfl) ⟨hpy, hpi⟩ (fun hHeld => ?_)
            refine wpAnyH_take (i := 0) (v := ?_) (by simp only [List.getElem?_toArray, List.getElem?_cons_zero]; rfl) (by kernel_rfl) (by kernel_rfl) (by kernel_rfl) (fun _ _ _ h => h) (Or.inl ⟨by rfl, ?_⟩) (by assumption) ?_
            rotate_left 1
            · intro w hSw; (try dsimp only at hSw); go_simp; (try with_reducible rfl)
            try simp only [Act.put, List.setIfInBounds_toArray, List.set_cons_zero, List.set_cons_succ]
            refine wpAnyH_take (i := 1) (v := ?_) (by simp only [List.getElem?_toArray, List.getElem?_cons_succ, List.getElem?_cons_zero]; rfl) (by kernel_rfl) (by kernel_rfl) (by kernel_rfl) (fun _ _ _ h => h) (Or.inl ⟨by rfl, ?_⟩) (by assumption) ?_
            rotate_left 1
            · intro w hSw; (try dsimp only at hSw); go_simp; (try with_reducible rfl)
            try simp only [Act.put, List.setIfInBounds_toArray, List.set_cons_zero, List.set_cons_succ]
            refine wpAnyH_take (i := 2) (v := .pointer (some ⟨gp, y, none⟩)) (by simp only [List.getElem?_toArray, List.getElem?_cons_succ, List.getElem?_cons_zero]; rfl) (by kernel_rfl) (by kernel_rfl) (by kernel_rfl) (fun _ _ _ h => h) (Or.inl ⟨by rfl, ?_⟩) (by assumption) ?_
            · intro w hSw; (try dsimp only at hSw); (try go_simp); ((try rw [if_pos (by omega)]); (try simp); (try (intro h9; omega)))
            try simp only [Act.put, List.setIfInBounds_toArray, List.set_cons_zero, List.set_cons_succ]
            refine wpAnyH_take (i := 3) (v := ?_) (by simp only [List.getElem?_toArray, List.getElem?_cons_succ, List.getElem?_cons_zero]; rfl) (by kernel_rfl) (by kernel_rfl) (by kernel_rfl) (fun _ _ _ h => h) (Or.inl ⟨by rfl, ?_⟩) (by assumption) ?_
            rotate_left 1
            · intro w hSw; (try dsimp only at hSw); go_simp; (try with_reducible rfl)
            try simp only [Act.put, List.setIfInBounds_toArray, List.set_cons_zero, List.set_cons_succ]
            refine wpAnyH_take (i := 4) (v := ?_) (by simp only [List.getElem?_toArray, List.getElem?_cons_succ, List.getElem?_cons_zero]; rfl) (by kernel_rfl) (by kernel_rfl) (by kernel_rfl) (fun _ _ _ h => h) (Or.inl ⟨by rfl, ?_⟩) (by assumption) ?_
            rotate_left 1
            · intro w hSw; (try dsimp only at hSw); go_simp; (try with_reducible rfl)
            try simp only [Act.put, List.setIfInBounds_toArray, List.set_cons_zero, List.set_cons_succ]
            refine wpAnyH_take (i := 5) (v := ?_) (by simp only [List.getElem?_toArray, List.getElem?_cons_succ, List.getElem?_cons_zero]; rfl) (by kernel_rfl) (by kernel_rfl) (by kernel_rfl) (fun _ _ _ h => h) (Or.inl ⟨by rfl, ?_⟩) (by assumption) ?_
            rotate_left 1
            · intro w hSw; (try dsimp only at hSw); go_simp; (try with_reducible rfl)
            try simp only [Act.put, List.setIfInBounds_toArray, List.set_cons_zero, List.set_cons_succ]
            refine wpAnyH_take (i := 6) (v := .pointer (some ⟨gp, i, none⟩)) (by simp only [List.getElem?_toArray, List.getElem?_cons_succ, List.getElem?_cons_zero]; rfl) (by kernel_rfl) (by kernel_rfl) (by kernel_rfl) (fun _ _ _ h => h) (Or.inl ⟨by rfl, ?_⟩) (by assumption) ?_
            · intro w hSw; (try dsimp only at hSw); (try go_simp); ((try rw [if_pos (by omega)]); (try simp); (try (intro h9; omega)))
            try simp only [Act.put, List.setIfInBounds_toArray, List.set_cons_zero, List.set_cons_succ]
            refine wpAnyH_take (i := 7) (v := ?_) (by simp only [List.getElem?_toArray, List.getElem?_cons_succ, List.getElem?_cons_zero]; rfl) (by kernel_rfl) (by kernel_rfl) (by kernel_rfl) (fun _ _ _ h => h) (Or.inl ⟨by rfl, ?_⟩) (by assumption) ?_
            rotate_left 1
            · intro w hSw; (try dsimp only at hSw); go_simp; (try with_reducible rfl)
            try simp only [Act.put, List.setIfInBounds_toArray, List.set_cons_zero, List.set_cons_succ]
            refine wpAnyH_take (i := 8) (v := .bool false) (by simp only [List.getElem?_toArray, List.getElem?_cons_succ, List.getElem?_cons_zero]; rfl) (by kernel_rfl) (by kernel_rfl) (by kernel_rfl) (fun _ _ _ h => h) (Or.inl ⟨by rfl, ?_⟩) (by assumption) ?_
            · intro w hSw; (try dsimp only at hSw); (try go_simp); ((try rw [hpne]); (try simp))
            try simp only [Act.put, List.setIfInBounds_toArray, List.set_cons_zero, List.set_cons_succ]
            refine wpAnyH_done (by kernel_rfl) ?_ _
            refine NoPanic.normal ?_
            go_wp2
            refine ⟨⟨k + 1, hkl, by go_num, fun j z hj hz => ?_, HB4.out.trans (Below.refl _ _).drew⟩, by simp [intOf]; omega⟩
            by_cases e : j = k
            · rw [e, HY.out] at hz
              rw [← Option.some.inj hz]
              exact HPE.out
            · exact HNO.out j z (by omega) hz
        · have bx : Hid (Below w1.heap.size w1 wr) := HB.out.trans ((B3.out.trans (HB4.out.mono B3.out.size)).mono HB.out.size)
          have HW : Hid (¬ PureNet.Way l i i) := fun hw => by
            obtain ⟨j, hj, hj2⟩ := way_first hw
            have hpj := (PC.out i j hj).2 hj2
            obtain ⟨g2, hg2, hm⟩ := hj
            rw [HG.out] at hg2
            obtain rfl := Option.some.inj hg2
            obtain ⟨q, hq, e⟩ := List.getElem_of_mem hm
            refine HNO.out q j (by have := LQ.out; rw [List.length_map] at this; omega) ?_ hpj
            rw [List.getElem?_map, List.getElem?_eq_getElem hq, e]
            rfl
          go_wp2
          refine ⟨⟨i + 1, hlt, by go_num, fun j hj => ?_, bx.out⟩, by simp [intOf]; omega⟩
          by_cases e : j = i
          · rw [e]; exact HW.out
          · exact HFR.out j (by omega)
    · have bw : Hid (Below w.heap.size w wr) := SE1.out.below.trans (HB.out.mono SE1.out.below.size)
      have HW : Hid (∀ j, ¬ PureNet.Way l j j) := fun j hw => by
        have hj : j < n := by
          obtain ⟨q, hq, _⟩ := way_first hw
          rw [HN.out]
          exact leans_lt hq
        exact HFR.out j (by omega) hw
      go_wp2
      simp only [Exit.jump]
      refine bodyPost_ret (P := Tryd.prog) (fn := Tryd.f53) (v := .int .i64 (-1)) ?_ rfl ⟨⟨_, rfl, .inl ⟨rfl, HW.out⟩⟩, bw.out⟩
      simp [results, Tryd.results53, go_sem]
end Go.Proofs.YtfmmmhcpdinhgaaDoor
