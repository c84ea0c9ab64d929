import Derived.Test.YtdkboifpdodonaaDoorZ07
set_option linter.unusedSimpArgs false
/-
  The document's own printed, Formed, Print.
-/
namespace Go.Proofs.YtdkboifpdodonaaDoor.Doc
open Go.RowKit Go.Deep PureCnf PureForm
set_option maxRecDepth 100000

/-- what printed answers. -/
structure PageOf (f : List Nd) (t : Tr) (w w' : World) (b : Nat) : Prop where
  tree : treeOf f = some t
  few : f.length ≤ 65536
  page : ∃ wk w0 B fv gv bv, Pg wk w0 w' B b fv gv bv t.text 0 (t.need true)
def Printed (f : List Nd) (w : World) (e : Ending) (w' : World) : Prop :=
  (∃ t b, e = .returned (.tuple #[.pointer (some ⟨b, 0, none⟩), .bool true]) ∧ PageOf f t w w' b) ∨
  (e = .returned (.tuple #[.pointer none, .bool false]) ∧ (treeOf f = none ∨ 65536 < f.length))

set_option maxHeartbeats 1000000 in
set_option maxRecDepth 100000 in
theorem printed_any (f : List Nd) (sa : Option Addr) (ca : Nat) (w : World) (hf : NodesAt w sa f) (hl : f.length ≤ 9223372036854775807) :
    Calls Tryd.prog 34 #[.slice sa f.length ca] w fun e w' => Printed f w e w' ∧ Below w.heap.size w w' := by
  by_cases hodd : f.length = 0 ∨ 65536 < f.length
  · have HS := hid (starts_odd f sa ca w (by omega) hodd)
    have HN : Hid (treeOf f = none ∨ 65536 < f.length) := by
      rcases hodd with h | h
      · obtain rfl : f = [] := List.length_eq_zero_iff.1 h
        exact .inl rfl
      · exact .inr h
    clear hodd hf
    go_enter Tryd.func34, Tryd.ntmps34
    go_wp2_with (go_at_call 60; refine HS.out.mono ?_; rintro e w1 ⟨⟨v, rfl⟩, b1⟩; have B1 := hid b1; clear b1)
    exact bodyPost_ret (v := .tuple #[.pointer none, .bool false]) (by simp [results, Tryd.results34, go_sem]) rfl ⟨.inr ⟨rfl, HN.out⟩, B1.out⟩
  · have HS := hid (starts_small f sa ca w hf (by omega) (by omega))
    have hlo : 1 ≤ f.length := by omega
    have hhi : f.length ≤ 65536 := by omega
    have HF := hid hf
    clear hodd hf
    cases ht : treeOf f with
    | none =>
      have HN := hid ht
      have HS2 : Hid (Calls Tryd.prog 60 #[.slice sa f.length ca] w fun e w' => (∃ v, e = .returned (.tuple #[v, .bool false])) ∧ Below w.heap.size w w') := by
        refine HS.out.mono ?_
        rintro e w' ⟨h, hb⟩
        unfold Started at h
        rw [ht] at h
        exact ⟨h, hb⟩
      clear ht HS
      go_enter Tryd.func34, Tryd.ntmps34
      go_wp2_with (go_at_call 60; refine HS2.out.mono ?_; rintro e w1 ⟨⟨v, rfl⟩, b1⟩; have B1 := hid b1; clear b1)
      exact bodyPost_ret (v := .tuple #[.pointer none, .bool false]) (by simp [results, Tryd.results34, go_sem]) rfl ⟨.inr ⟨rfl, .inl HN.out⟩, B1.out⟩
    | some t =>
      have HN := hid ht
      have HS2 : Hid (Calls Tryd.prog 60 #[.slice sa f.length ca] w fun e w' => (e = .returned (.tuple #[.slice (some ⟨w.heap.size, 0, none⟩) f.length f.length, .bool true]) ∧ w'.heap[w.heap.size]? = some (.cells (cn (fromT t 0)).toArray 3 (0, 0))) ∧ Below w.heap.size w w') := by
        refine HS.out.mono ?_
        rintro e w' ⟨h, hb⟩
        unfold Started at h
        rw [ht] at h
        exact ⟨h, hb⟩
      obtain ⟨hg, hp⟩ := treeOf_some ht
      have hpl : t.post.length = f.length := by rw [hp]
      have hpost := post_pos t
      obtain ⟨m, hm⟩ : ∃ m, f.length = m + 1 := ⟨f.length - 1, by omega⟩
      have HSUB := hid (Sub.whole ht)
      have HG := hid hg
      have hlen := text_len t hg 0 true
      have hnd := need_le t true
      have HPL := hid hpl
      have HM := hid hm
      have ht1 : t.text.length ≤ 2097152 := by
        unfold Tr.text
        omega
      have hnd1 : t.need true ≤ 131072 := by omega
      have HOP : Hid (∀ (w1 : World), Below w.heap.size w w1 → w1.heap[w.heap.size]? = some (.cells (cn (fromT t 0)).toArray 3 (0, 0)) →
          Calls Tryd.prog 61 #[.pointer (some ⟨w1.heap.size, 0, none⟩), .int .i64 ((f.length : Int) - 1), .bool false, .bool true] (w1.alloc (Obj.cells #[.slice sa f.length ca, .slice (some ⟨w.heap.size, 0, none⟩) f.length f.length, .slice none 0 0, .int .i64 0, .int .i64 0] 65))
            fun e W' => e = .returned (.tuple #[]) ∧ ∃ wk fv gv bv', Pg wk w1 W' w1.heap.size w1.heap.size fv gv bv' t.text 0 (t.need true)) := fun w1 hb1 hr1 => by
        have c : Ctx w1 w1.heap.size f (fromT t 0) sa w.heap.size := ⟨rfl, HF.out.below hb1, hr1, by rw [fromT_len]; exact HPL.out, hhi⟩
        have hb0 : brk false true t.root.1 = false := by simp [brk]
        have h1 := opr_of (ca := ca) (b := w1.heap.size) c HSUB.out false true (tree_all c _ t 0 (Nat.le_refl _) HG.out HSUB.out _)
        rw [hb0] at h1
        have h2 : Opr m w1 w1.heap.size w1.heap.size (.slice sa f.length ca) (.slice (some ⟨w.heap.size, 0, none⟩) f.length f.length) false true t.text (t.need true) :=
          h1.to (by have := HPL.out; have := HM.out; omega) (by simp only [wrapI, Tr.text, Bool.false_or, Bool.false_eq_true, if_false]) (by simp only [wrapN, Bool.false_or, Bool.false_eq_true, if_false])
        have hpg : Pg w1 w1 (w1.alloc (Obj.cells #[.slice sa f.length ca, .slice (some ⟨w.heap.size, 0, none⟩) f.length f.length, .slice none 0 0, .int .i64 0, .int .i64 0] 65)) w1.heap.size w1.heap.size (.slice sa f.length ca) (.slice (some ⟨w.heap.size, 0, none⟩) f.length f.length) (.slice none 0 0) [] 0 0 :=
          ⟨heap_alloc_new w1 _, World.ownsRowF_nil _ _ _ _, Nat.le_refl _, (Below.refl _ _).alloc (Nat.le_refl _) _, fun k cs t fz e _ _ => (((Below.refl w1.heap.size w1).alloc (Nat.le_refl _) _).block k (Array.getElem?_eq_some_iff.1 e).1).trans e⟩
        have h3 := h2 w1 _ _ [] 0 0 hpg (Nat.le_refl _) (by simp; omega) (by omega)
        rw [show ((m : Nat) : Int) = (f.length : Int) - 1 by have := HM.out; omega] at h3
        refine h3.mono ?_
        rintro e W' ⟨he, bv', hp⟩
        exact ⟨he, _, _, _, bv', hp.to (by simp) (by omega)⟩
      clear ht HS hg hp hpl hlen hnd hpost hm
      go_enter Tryd.func34, Tryd.ntmps34
      go_wp2_with (first
        | (have q := R1; clear q; go_at_call 61; refine (HOP.out _ B1.out R1.out).mono ?_; rintro e w2 ⟨rfl, wk, fv, gv, bv2, m2⟩; have M2 := hid m2; clear m2)
        | (go_at_call 60; refine HS2.out.mono ?_; rintro e w1 ⟨⟨rfl, r1⟩, b1⟩; have B1 := hid b1; have R1 := hid r1; clear b1 r1))
      refine bodyPost_ret (v := .tuple #[.pointer (some ⟨w1.heap.size, 0, none⟩), .bool true]) (by simp [results, Tryd.results34, go_sem]) rfl ⟨.inl ⟨t, w1.heap.size, rfl, HN.out, hhi, ⟨_, _, _, _, _, _, M2.out⟩⟩, ?_⟩
      exact B1.out.trans (M2.out.below.mono B1.out.size)

def PrintC (g : Nat) : Prop := ∀ (f : List Nd) (sa : Option Addr) (ca : Nat) (w : World), NodesAt w sa f → f.length ≤ 9223372036854775807 →
  Calls Tryd.prog g #[.slice sa f.length ca] w fun e w' => e = .returned (printV (printF f)) ∧ Below w.heap.size w w'

set_option maxHeartbeats 1000000 in
set_option maxRecDepth 100000 in
theorem formed_any : FormedC 18 := by
  intro f sa ca w hf hl
  have HP := hid (printed_any f sa ca w hf hl)
  clear hf
  go_enter Tryd.func18, Tryd.ntmps18
  go_wp2_with fail
  refine HP.out.mono ?_
  rintro e w1 ⟨hp, b1⟩
  have B1 := hid b1
  clear b1
  rcases hp with ⟨t, b, rfl, ht⟩ | ⟨rfl, hn⟩
  · obtain ⟨wk, w0, B, fv, gv, bv, hpg⟩ := ht.page
    have c1 := fun j => cell_row hpg.row j
    have hb1 := hpg.size
    by_cases h64 : (t.need true : Int) ≤ 64
    · have HF : Hid (formedF f = true) := by show _ = _; unfold formedF; rw [ht.tree]; exact decide_eq_true ⟨ht.few, by omega⟩
      clear hpg ht
      go_wp2
      go_ret
      rw [HF.out]
      exact ⟨rfl, B1.out⟩
    · have HF : Hid (formedF f = false) := by show _ = _; unfold formedF; rw [ht.tree]; exact decide_eq_false (by intro h; omega)
      clear hpg ht
      go_wp2
      go_ret
      rw [HF.out]
      refine ⟨?_, B1.out⟩
      simp
      omega
  · have HF : Hid (formedF f = false) := by
      show _ = _
      unfold formedF
      rcases hn with hn | hn
      · rw [hn]
      · split
        · exact decide_eq_false (by intro h; omega)
        · rfl
    clear hn
    go_wp2
    go_ret
    rw [HF.out]
    exact ⟨rfl, B1.out⟩

theorem text_pos (t : Tr) : 0 < t.text.length := by
  have key : ∀ (it : PureForm.Item) (l : List PureForm.Item), 0 < it.1.length → 0 < (textOf (it :: l)).length := fun it l h => by rw [textOf_cons, List.length_append]; omega
  unfold Tr.text
  cases t using Tr.cas with
  | lf x =>
    simp only [Tr.its_lf, Tr.its_un, Tr.its_bi, Tr.its_te, sepI, if_true, List.nil_append]
    refine key _ _ ?_
    split
    · unfold constI; split <;> simp
    · simp [varI]
  | un x a =>
    simp only [Tr.its_lf, Tr.its_un, Tr.its_bi, Tr.its_te, sepI, if_true, List.nil_append]
    split
    · split
      · exact key _ _ (by simp [commaI])
      · refine key _ _ ?_
        unfold quantI; split <;> simp
    · exact key _ _ (by simp [notI])
  | bi x a b =>
    simp only [Tr.its_lf, Tr.its_un, Tr.its_bi, Tr.its_te, textOf_append, List.length_append]
    have : 0 < (textOf (signI x.1 :: wrapI (brk (secondB x.1 b.root.1) true b.root.1) (b.its 0 (brk (secondB x.1 b.root.1) true b.root.1 || true)))).length := by
      refine key _ _ ?_
      unfold signI
      split
      · simp
      · split
        · simp
        · split
          · simp
          · split <;> simp
    omega
  | te x a b c =>
    simp only [Tr.its_lf, Tr.its_un, Tr.its_bi, Tr.its_te, sepI, if_true, List.nil_append, List.cons_append]
    exact key _ _ (by simp [iteI])

set_option maxHeartbeats 1000000 in
set_option maxRecDepth 100000 in
theorem print_any : PrintC 17 := by
  intro f sa ca w hf hl
  have HP := hid (printed_any f sa ca w hf hl)
  clear hf
  go_enter Tryd.func17, Tryd.ntmps17
  go_wp2_with fail
  refine HP.out.mono ?_
  rintro e w1 ⟨hp, b1⟩
  have B1 := hid b1
  clear b1
  rcases hp with ⟨t, b, rfl, ht⟩ | ⟨rfl, hn⟩
  · obtain ⟨wk, w0, B, fv, gv, bv, hpg⟩ := ht.page
    obtain ⟨sx, cx, rfl⟩ := own_shapeF hpg.own
    have c1 := fun j => cell_row hpg.row j
    have hb1 := hpg.size
    have htl := text_len t (treeOf_some ht.tree).1 0 true
    rw [(treeOf_some ht.tree).2] at htl
    have htl2 : t.text.length ≤ 2097152 := by have := ht.few; unfold Tr.text; omega
    clear htl
    by_cases h64 : 64 < (t.need true : Int)
    · have HF : Hid (printF f = .error 134) := by show _ = _; unfold printF; rw [ht.tree]; simp only; rw [if_neg (by intro h; omega)]
      clear hpg ht
      go_wp2
      exact bodyPost_ret (v := .tuple #[.string ⟨#[]⟩, .int .i64 134]) (by simp [results, Tryd.results17, go_sem]) rfl ⟨by rw [HF.out]; rfl, B1.out⟩
    · by_cases hlong : 1048576 < (t.text.length : Int)
      · have HF : Hid (printF f = .error 5) := by show _ = _; unfold printF; rw [ht.tree]; simp only; rw [if_pos ⟨ht.few, by omega⟩, if_neg (by omega)]
        clear hpg ht
        go_wp2
        exact bodyPost_ret (v := .tuple #[.string ⟨#[]⟩, .int .i64 5]) (by simp [results, Tryd.results17, go_sem]) rfl ⟨by rw [HF.out]; rfl, B1.out⟩
      · have HF : Hid (printF f = .ok t.text) := by show _ = _; unfold printF; rw [ht.tree]; simp only; rw [if_pos ⟨ht.few, by omega⟩, if_pos (by omega)]
        have hpos := text_pos t
        obtain ⟨g, hsx, hcell⟩ : ∃ g, sx = some ⟨g, 0, none⟩ ∧ ∀ j (hj : j < t.text.length), w1.cell? ((⟨g, 0, none⟩ : Addr).add j) = some (.int .u8 (t.text[j]).toNat) := by
          rcases hpg.own.2 with ⟨hv, h0⟩ | ⟨g, cap, cur, fz, hv, _⟩
          · omega
          · simp only [Value.slice.injEq, true_and] at hv
            refine ⟨g, hv.1, fun j hj => hpg.own.cells (g := g) (by rw [hv.1]; rfl) j _ ?_⟩
            simp [cb, hj]
        subst hsx
        have hc : (convert 50 9 (.slice (some ⟨g, 0, none⟩) t.text.length cx)).run Tryd.prog w1 = .ok (str t.text) w1 :=
          run_convert_bytes_back (P := Tryd.prog) _ 50 9 5 ⟨g, 0, none⟩ cx t.text Tryd.underlying50 Tryd.underlying5 Tryd.underlying9 (fun j hj => hcell j hj)
        clear hpg ht hcell
        go_wp2
        exact bodyPost_ret (v := .tuple #[str t.text, .int .i64 0]) (by simp [results, Tryd.results17, go_sem]) rfl ⟨by rw [HF.out]; rfl, B1.out⟩
  · have HF : Hid (printF f = .error 134) := by
      show _ = _
      unfold printF
      rcases hn with hn | hn
      · rw [hn]
      · split
        · rw [if_neg (by intro h; omega)]
        · rfl
    clear hn
    go_wp2
    exact bodyPost_ret (v := .tuple #[.string ⟨#[]⟩, .int .i64 134]) (by simp [results, Tryd.results17, go_sem]) rfl ⟨by rw [HF.out]; rfl, B1.out⟩
end Go.Proofs.YtdkboifpdodonaaDoor.Doc
/-
  FormulaPrints: the document's own Vars; behind, kept; the law over contracts of the program's Print, Formed, Vars.
-/
namespace Go.Proofs.YtdkboifpdodonaaDoor.Doc
open Go.RowKit Go.Deep PureCnf PureForm
set_option maxRecDepth 100000

set_option maxHeartbeats 1000000 in
set_option maxRecDepth 100000 in
theorem vars_any : VarsC 19 := by
  intro f sa ca w hf hl
  have HF := hid (formed_any f sa ca w hf hl)
  cases hfm : formedF f with
  | false =>
    rw [hfm] at HF
    have HV : Hid (varsV f = .tuple #[.int .i64 0, .int .i64 134]) := by show _ = _; unfold varsV; rw [hfm]; rfl
    clear hf hfm
    go_enter Tryd.func19, Tryd.ntmps19
    go_wp2_with (go_at_call 18; refine HF.out.mono ?_; rintro e w1 ⟨rfl, b1⟩; have B1 := hid b1; clear b1)
    exact bodyPost_ret (v := .tuple #[.int .i64 0, .int .i64 134]) (by simp [results, Tryd.results19, go_sem]) rfl ⟨by rw [HV.out], B1.out⟩
  | true =>
    rw [hfm] at HF
    have HV : Hid (varsV f = .tuple #[.int .i64 (varsN f : Int), .int .i64 0]) := by show _ = _; unfold varsV; rw [hfm]; rfl
    have HGN : Hid (∀ k (hk : k < f.length), (f[k].1 = 2 ∨ f[k].1 = 4 ∨ f[k].1 = 5) → 0 ≤ f[k].2 ∧ f[k].2 < 65536) := fun k hk hv => by
      unfold formedF at hfm
      split at hfm
      · next t ht =>
        obtain ⟨hg, hp⟩ := treeOf_some ht
        exact good_nodes t hg f[k] (by rw [hp]; exact List.getElem_mem hk) hv
      · cases hfm
    have hlen : f.length ≤ 65536 := by
      unfold formedF at hfm
      split at hfm
      · exact (of_decide_eq_true hfm).1
      · cases hfm
    have HN := hid hf
    clear hf hfm
    go_enter Tryd.func19, Tryd.ntmps19
    go_wp2_with (go_at_call 18; refine HF.out.mono ?_; rintro e w1 ⟨rfl, b1⟩; have B1 := hid b1; clear b1)
    go_loopw [5, 6] (fun nv iv W => ∃ i m : Nat, i ≤ f.length ∧ iv = .int .i64 (i : Int) ∧ nv = .int .i64 (m : Int) ∧ m ≤ 65536 ∧ Hid (m = (f.take i).foldl varN 0 ∧ Below w1.heap.size w1 W)) (fun _ iv _ => f.length - (intOf iv).toNat)
    case atStart => exact ⟨0, 0, Nat.zero_le _, rfl, rfl, by omega, by simp, Below.refl _ _⟩
    case round =>
      obtain ⟨i, m, hi, rfl, rfl, hm, HR⟩ := hrel
      obtain ⟨r1, r2⟩ := HR.out
      have HM := hid r1
      have HW := hid r2
      clear HR r1 r2
      by_cases hlt : i < f.length
      · obtain ⟨ga, oa, rfl, hga, a0, a1⟩ := (HN.out.below B1.out).at_ i hlt
        have p0 := below_cell HW.out hga a0
        have p1 := below_cell HW.out hga a1
        obtain ⟨x, hx⟩ : ∃ x, x = f[i] := ⟨_, rfl⟩
        have hgn := HGN.out i hlt
        rw [← hx] at p0 p1 hgn
        have HT : Hid ((f.take (i + 1)).foldl varN 0 = varN m x) := by
          show _ = _
          rw [List.take_succ_eq_append_getElem hlt, List.foldl_append, ← HM.out, ← hx]
          rfl
        obtain ⟨xo, xv⟩ := x
        simp only at p0 p1 hgn
        clear hx a0 a1
        by_cases hv : xo = 2 ∨ xo = 4 ∨ xo = 5
        · obtain ⟨g0, g1⟩ := hgn hv
          obtain ⟨vn, rfl⟩ : ∃ vn : Nat, xv = vn := ⟨xv.toNat, by omega⟩
          have HT2 : Hid ((f.take (i + 1)).foldl varN 0 = max m (vn + 1)) := by
            show _ = _
            rw [HT.out]
            unfold varN
            rw [if_pos hv]
            simp
          clear hgn HT
          rcases Nat.lt_trichotomy m (vn + 1) with hmv | hmv | hmv
          all_goals
            rcases hv with rfl | rfl | rfl
            all_goals
              go_wp2
              first
                | exact ⟨⟨i + 1, vn + 1, hlt, by go_num, by go_num, by omega, by rw [HT2.out]; omega, HW.out⟩, by simp [intOf]; omega⟩
                | exact ⟨⟨i + 1, m, hlt, by go_num, congrArg (Value.int .i64) (by omega), hm, by rw [HT2.out]; omega, HW.out⟩, by simp [intOf]; omega⟩
        · have b2 : (xo == 2) = false := by rw [beq_eq_false_iff_ne]; omega
          have b4 : (xo == 4) = false := by rw [beq_eq_false_iff_ne]; omega
          have b5 : (xo == 5) = false := by rw [beq_eq_false_iff_ne]; omega
          have HT2 : Hid ((f.take (i + 1)).foldl varN 0 = m) := by
            show _ = _
            rw [HT.out]
            unfold varN
            rw [if_neg hv]
          clear hgn HT hv
          go_wp2
          exact ⟨⟨i + 1, m, hlt, by go_num, rfl, hm, HT2.out.symm, HW.out⟩, by simp [intOf]; omega⟩
      · have hin : i = f.length := by omega
        have HE : Hid (m = varsN f) := by show _ = _; rw [HM.out, hin, List.take_length]; rfl
        go_wp2
        exact bodyPost_ret (v := .tuple #[.int .i64 (m : Int), .int .i64 0]) (by simp [results, Tryd.results19, go_sem]) rfl ⟨by rw [HV.out, HE.out], B1.out.trans (HW.out.mono B1.out.size)⟩
end Go.Proofs.YtdkboifpdodonaaDoor.Doc
/-
  FormulaPrints: behind, kept, the law over contracts of the program's Print, Formed, Vars.
-/
namespace Go.Proofs.YtdkboifpdodonaaDoor.Doc
open Go.RowKit Go.Deep PureCnf PureForm
set_option maxRecDepth 100000

/-- a list of nodes in the making. -/
structure NL (w W : World) (v : Value) (l : List Nd) : Prop where
  own : W.ownsRow w.heap.size 54 2 v l.length (nds l)
  below : Below w.heap.size w W
theorem NL.nil (w : World) : NL w w (.slice none 0 0) [] := ⟨World.ownsRow_nil _ _ _ _, Below.refl _ _⟩
theorem NL.on {w W W' : World} {v : Value} {l : List Nd} (h : NL w W v l) (hb : Below W.heap.size W W') : NL w W' v l := ⟨ownsRow_below h.own hb, h.below.trans (hb.mono h.below.size)⟩
theorem nds_append (a b : List Nd) : nds (a ++ b) = nds a ++ nds b := by simp [nds]
theorem nds_one (l : List Nd) : ∀ u ∈ nds l, u.oneCell' = true := by
  intro u hu
  simp only [nds, List.mem_flatMap] at hu
  obtain ⟨p, _, hp⟩ := hu
  simp [nd] at hp
  rcases hp with rfl | rfl <;> rfl
theorem app_nodes {ops : Array Oper} {rest : List Oper} {o : Oper} {a : Act} {Q : Exit → Act → World → Prop} {w W : World} {v : Value} {l : List Nd} (hgd : o.guard = none) (sl y : Operand)
    (ho : o.op = .call { callee := .builtin .append, args := #[sl, y], argTypes := #[36, 36] }) (h : NL w W v l) (g : List Nd) (sg : Option Addr) (cg : Nat) (hg : NodesAt W sg g) (hcg : sg = none → cg = 0) (hs : a.eval sl = v) (hx : a.eval y = .slice sg g.length cg) (hl : l.length + g.length ≤ 8796093022206)
    (hK : ∀ sx cx w', NL w w' (.slice sx (l.length + g.length) cx) (l ++ g) → wpList Tryd.prog ops Q rest (a.put o.dst (.slice sx (l.length + g.length) cx)) w') :
    wpList Tryd.prog ops Q (o :: rest) a W := by
  obtain ⟨i, hi, hz0, hz1, hz2⟩ := info_parts info51
  cases sg with
  | none =>
    have h0 : g = [] := by
      cases g with
      | nil => rfl
      | cons x r =>
        obtain ⟨g', o', e, _⟩ := hg.at_ 0 (by simp)
        cases e
    subst h0
    have hc := hcg rfl
    subst hc
    obtain ⟨sx, cx, hv⟩ := own_shape h.own
    refine wpList_append_own_none hgd sl y 36 ho w.heap.size 54 i 2 Tryd.underlying36 hi v l.length (nds l) hs h.own hx ?_
    have := hK sx cx W (by simpa [← hv] using h)
    simpa [← hv] using this
  | some ad =>
    refine wpList_append_own W hgd sl y 36 ho w.heap.size 54 i _ 2 16 Tryd.underlying36 hi hz0 hz1 hz2 rfl (by decide) v l.length (nds l) hs h.own ad g.length cg (nds g) hx (nds_length g) (fun j u hu => ?_) (nds_one g) (by unfold maxLen; omega) (by omega) h.below.size ?_
    · have hj : j < g.length * 2 := by
        have := (List.getElem?_eq_some_iff.1 hu).1
        rwa [nds_length] at this
      obtain ⟨b, o', e, _, c0, c1⟩ := hg.at_ (j / 2) (by omega)
      cases e
      have hat := nds_at g (j / 2) (j % 2) (by omega) (by omega)
      rw [show j / 2 * 2 + j % 2 = j by omega, hu] at hat
      have hadd : (⟨b, o', none⟩ : Addr).add j = ⟨b, o' + j, none⟩ := by
        by_cases h0 : j = 0
        · subst h0; simp [Addr.add]
        · simp [Addr.add, h0]
      rw [hadd, hat]
      rcases (show j % 2 = 0 ∨ j % 2 = 1 by omega) with h2 | h2
      · rw [h2, show o' + j = o' + j / 2 * 2 by omega, c0]; rfl
      · rw [h2, show o' + j = o' + j / 2 * 2 + 1 by omega, c1]; rfl
    · intro v' w' o' g' _
      have o2 : w'.ownsRow w.heap.size 54 2 v' (l ++ g).length (nds (l ++ g)) := by
        rw [nds_append, List.length_append]
        exact o'
      obtain ⟨sx, cx, rfl⟩ := own_shape o2
      rw [List.length_append] at o2 ⊢
      exact hK sx cx w' ⟨by rw [List.length_append]; exact o2, h.below.grown g' h.below.size (fun j hj => (h.own.lt j hj).1)⟩
theorem app_nodes0 {ops : Array Oper} {rest : List Oper} {o : Oper} {a : Act} {Q : Exit → Act → World → Prop} {w W : World} (hgd : o.guard = none) (sl y : Operand)
    (ho : o.op = .call { callee := .builtin .append, args := #[sl, y], argTypes := #[36, 36] }) (h : NL w W (.slice none 0 0) []) (g : List Nd) (sg : Option Addr) (cg : Nat) (hg : NodesAt W sg g) (hcg : sg = none → cg = 0) (hs : a.eval sl = .slice none 0 0) (hx : a.eval y = .slice sg g.length cg) (hl : g.length ≤ 8796093022206)
    (hK : ∀ sx cx w', NL w w' (.slice sx g.length cx) g → wpList Tryd.prog ops Q rest (a.put o.dst (.slice sx g.length cx)) w') :
    wpList Tryd.prog ops Q (o :: rest) a W := by
  refine app_nodes hgd sl y ho h g sg cg hg hcg hs hx (by simpa using hl) ?_
  intro sx cx w' hn
  simp only [List.length_nil, Nat.zero_add, List.nil_append] at hn ⊢
  exact hK sx cx w' hn

theorem nodes_pre {W : World} {sa : Option Addr} {l m : List Nd} (h : NodesAt W sa (l ++ m)) : NodesAt W sa l := ⟨fun k hk => by
  obtain ⟨g, o, e, hg, c0, c1⟩ := h.at_ k (by simp; omega)
  rw [List.getElem_append_left hk] at c0 c1
  exact ⟨g, o, e, hg, c0, c1⟩⟩

def tailL : List Nd := [(91, 17), (92, 18)]
set_option maxHeartbeats 1000000 in
set_option maxRecDepth 100000 in
theorem behind_any (f : List Nd) (sf : Option Addr) (cf : Nat) (w : World) (hf : NodesAt w sf f) (hcf : sf = none → cf = 0) (hl : f.length ≤ 8796093022206) :
    Calls Tryd.prog 13 #[.slice sf f.length cf] w fun e w' => ∃ g cx, e = .returned (.slice (some ⟨g, 0, none⟩) (f.length + 2) cx) ∧ f.length + 2 ≤ cx ∧ NodesAt w' (some ⟨g, 0, none⟩) (f ++ tailL) ∧ Below w.heap.size w w' := by
  have HF := hid hf
  have HCF := hid hcf
  obtain ⟨i, hi, hz0, hz1, hz2⟩ := info_parts info51
  clear hf hcf
  go_enter Tryd.func13, Tryd.ntmps13
  go_wp2_with (first
    | (have q := N1; clear q; at_builtin; refine wpList_append_own _ rfl _ _ 36 rfl w.heap.size 54 i _ 2 16 Tryd.underlying36 hi hz0 hz1 hz2 rfl (by decide) _ f.length (nds f) rfl (N1.out.on ((Below.refl _ _).alloc (Nat.le_refl _) (Obj.cells #[.int .i64 91, .int .i64 17, .int .i64 92, .int .i64 18] 54))).own ⟨w1.heap.size, 0, none⟩ 2 2 (nds tailL) rfl rfl (fun j u hu => by rw [add_zero_addr, cell_row (heap_alloc_new w1 _)]; simpa [nds, nd, tailL] using hu) (nds_one tailL) (by unfold maxLen; omega) (by omega) (by have := N1.out.below.size; simp; omega) ?_; intro v2 w2 o2 g2 _; have O2 := hid o2; have G2 := hid g2; clear o2 g2)
    | (at_builtin; refine app_nodes0 rfl _ _ rfl (NL.nil w) f sf cf HF.out HCF.out rfl rfl (by omega) ?_; intro s1 c1 w1 n1; have N1 := hid n1; clear n1))
  have o3 : w2.ownsRow w.heap.size 54 2 v2 (f ++ tailL).length (nds (f ++ tailL)) := by
    rw [nds_append, List.length_append]
    exact O2.out
  have hN1 := N1.out.on ((Below.refl _ _).alloc (Nat.le_refl _) (Obj.cells #[.int .i64 91, .int .i64 17, .int .i64 92, .int .i64 18] 54))
  have hbl : Below w.heap.size w w2 := hN1.below.grown G2.out hN1.below.size (fun j hj => (hN1.own.lt j hj).1)
  obtain ⟨sx, cx, hv, hn⟩ := own_nodes o3
  rcases o3.2 with ⟨_, h0⟩ | ⟨g, cap, cur, hv2, _, _, hcap, _⟩
  · simp [tailL] at h0
  · have hlen : (f ++ tailL).length = f.length + 2 := by simp [tailL]
    rw [hlen] at hv2 hcap
    rw [hv2] at hv
    simp only [Value.slice.injEq] at hv
    rw [← hv.1] at hn
    go_ret
    exact ⟨g, cap, congrArg Ending.returned hv2, hcap, hn, hbl⟩

set_option maxHeartbeats 1000000 in
set_option maxRecDepth 100000 in
theorem kept_true (f : List Nd) (sf : Option Addr) (cf g cx : Nat) (w : World) (hf : NodesAt w sf f) (hg : NodesAt w (some ⟨g, 0, none⟩) (f ++ tailL)) (hcx : f.length + 2 ≤ cx) (hl : f.length ≤ 8796093022206) :
    Calls Tryd.prog 20 #[.slice (some ⟨g, 0, none⟩) (f.length + 2) cx, .slice sf f.length cf] w fun e w' => e = .returned (.bool true) ∧ Below w.heap.size w w' := by
  have HS := hid (fun (W : World) (hW : Below w.heap.size w W) (c : Nat) => same_true f (some ⟨g, 0, none⟩) sf c cf W (by omega) (nodes_pre (hg.below hW)) (hf.below hW))
  have HC : Hid (∀ (W : World), Below w.heap.size w W → W.cell? ⟨g, f.length * 2, none⟩ = some (.int .i64 91) ∧ W.cell? ⟨g, f.length * 2 + 1, none⟩ = some (.int .i64 17) ∧ W.cell? ⟨g, (f.length + 1) * 2, none⟩ = some (.int .i64 92) ∧ W.cell? ⟨g, (f.length + 1) * 2 + 1, none⟩ = some (.int .i64 18)) := fun W hW => by
    obtain ⟨g1, o1, e1, _, c0, c1⟩ := (hg.below hW).at_ f.length (by simp [tailL])
    cases e1
    obtain ⟨g2, o2, e2, _, c2, c3⟩ := (hg.below hW).at_ (f.length + 1) (by simp [tailL])
    cases e2
    simp only [Nat.zero_add] at c0 c1 c2 c3
    rw [List.getElem_append_right (Nat.le_refl _)] at c0 c1
    rw [List.getElem_append_right (by omega)] at c2 c3
    simp [tailL] at c0 c1 c2 c3
    exact ⟨c0, c1, c2, c3⟩
  clear hf hg
  go_enter Tryd.func20, Tryd.ntmps20
  go_wp2_with (go_at_call 23; refine (HS.out _ (Below.refl _ _) _).mono ?_; rintro e w1 ⟨rfl, b1⟩; obtain ⟨k0, k1, k2, k3⟩ := HC.out w1 b1; have B1 := hid b1; clear b1)
  go_ret
  exact ⟨rfl, B1.out⟩

theorem print_val (f : List Nd) : ∃ (s : ByteArray) (n : Int), printV (printF f) = .tuple #[.string s, .int .i64 n] := by
  cases printF f with
  | ok T => exact ⟨_, 0, rfl⟩
  | error n => exact ⟨_, n, rfl⟩
theorem vars_val (f : List Nd) : ∃ (a b : Int), varsV f = .tuple #[.int .i64 a, .int .i64 b] := by
  unfold varsV
  split
  · exact ⟨_, _, rfl⟩
  · exact ⟨_, _, rfl⟩

set_option maxHeartbeats 1000000 in
set_option maxRecDepth 100000 in
theorem prints_law (hR : PrintCT 14) (hF : FormedC 15) (hV : VarsC 16) (f : List Nd) (sf : Option Addr) (cf : Nat) (w : World) (hT : Tab w) (hf : NodesAt w sf f) (hcf : sf = none → cf = 0) (hl : f.length ≤ 8796093022206) :
    Calls Tryd.prog 5 #[.slice sf f.length cf] w fun e w' => e = .returned (.bool true) ∧ Below w.heap.size w w' := by
  obtain ⟨s, n, hp⟩ := print_val f
  obtain ⟨va, vb, hv⟩ := vars_val f
  obtain ⟨p, hfm⟩ : ∃ p, p = formedF f := ⟨_, rfl⟩
  have H4 := hid (behind_any f sf cf w hf hcf hl)
  have H5 : Hid (∀ W sa ca, Below w.heap.size w W → NodesAt W sa f → Calls Tryd.prog 14 #[.slice sa f.length ca] W fun e w' => e = .returned (.tuple #[.string s, .int .i64 n]) ∧ Below W.heap.size W w') := fun W sa ca hW h => by
    have := hR f sa ca W (hT.below hW) h (by omega)
    rwa [hp] at this
  have H6 : Hid (∀ W sa ca, NodesAt W sa f → Calls Tryd.prog 15 #[.slice sa f.length ca] W fun e w' => e = .returned (.bool p) ∧ Below W.heap.size W w') := fun W sa ca h => by
    have := hF f sa ca W h (by omega)
    rwa [← hfm] at this
  have H7 : Hid (∀ W sa ca, NodesAt W sa f → Calls Tryd.prog 16 #[.slice sa f.length ca] W fun e w' => e = .returned (.tuple #[.int .i64 va, .int .i64 vb]) ∧ Below W.heap.size W w') := fun W sa ca h => by
    have := hV f sa ca W h (by omega)
    rwa [hv] at this
  have H8 : Hid (∀ W, Below w.heap.size w W → Calls Tryd.prog 17 #[.slice sf f.length cf] W fun e w' => e = .returned (.tuple #[.string s, .int .i64 n]) ∧ Below W.heap.size W w') := fun W h => by
    have := print_any f sf cf W (hf.below h) (by omega)
    rwa [hp] at this
  have H9 : Hid (∀ W, Below w.heap.size w W → Calls Tryd.prog 18 #[.slice sf f.length cf] W fun e w' => e = .returned (.bool p) ∧ Below W.heap.size W w') := fun W h => by
    have := formed_any f sf cf W (hf.below h) (by omega)
    rwa [← hfm] at this
  have H10 : Hid (∀ W, Below w.heap.size w W → Calls Tryd.prog 19 #[.slice sf f.length cf] W fun e w' => e = .returned (.tuple #[.int .i64 va, .int .i64 vb]) ∧ Below W.heap.size W w') := fun W h => by
    have := vars_any f sf cf W (hf.below h) (by omega)
    rwa [hv] at this
  have H11 : Hid (∀ W g cx, Below w.heap.size w W → NodesAt W (some ⟨g, 0, none⟩) (f ++ tailL) → f.length + 2 ≤ cx → Calls Tryd.prog 20 #[.slice (some ⟨g, 0, none⟩) (f.length + 2) cx, .slice sf f.length cf] W fun e w' => e = .returned (.bool true) ∧ Below W.heap.size W w') := fun W g cx h hn hc => kept_true f sf cf g cx W (hf.below h) hn hc hl
  clear hR hF hV hf hcf hp hv hfm hT
  cases p
  all_goals
    go_enter Tryd.func5, Tryd.ntmps5
    go_wp2_with (first
      | (have q := B7; clear q; go_at_call 20; refine (H11.out _ _ _ B7.out N7.out hcx).mono ?_; rintro e w8 ⟨rfl, b8⟩; have B8 := hid (B7.out.trans (b8.mono B7.out.size)); clear b8)
      | (have q := B6; clear q; go_at_call 19; refine (H10.out _ B6.out).mono ?_; rintro e w7 ⟨rfl, b7⟩; have N7 := hid (N6.out.below b7); have B7 := hid (B6.out.trans (b7.mono B6.out.size)); clear b7)
      | (have q := B5; clear q; go_at_call 18; refine (H9.out _ B5.out).mono ?_; rintro e w6 ⟨rfl, b6⟩; have N6 := hid (N5.out.below b6); have B6 := hid (B5.out.trans (b6.mono B5.out.size)); clear b6)
      | (have q := B4; clear q; go_at_call 17; refine (H8.out _ B4.out).mono ?_; rintro e w5 ⟨rfl, b5⟩; have N5 := hid (N4.out.below b5); have B5 := hid (B4.out.trans (b5.mono B4.out.size)); clear b5)
      | (have q := B3; clear q; go_at_call 16; refine (H7.out _ _ _ (nodes_pre N3.out)).mono ?_; rintro e w4 ⟨rfl, b4⟩; have N4 := hid (N3.out.below b4); have B4 := hid (B3.out.trans (b4.mono B3.out.size)); clear b4)
      | (have q := B2; clear q; go_at_call 15; refine (H6.out _ _ _ (nodes_pre N2.out)).mono ?_; rintro e w3 ⟨rfl, b3⟩; have N3 := hid (N2.out.below b3); have B3 := hid (B2.out.trans (b3.mono B2.out.size)); clear b3)
      | (have q := B1; clear q; go_at_call 14; refine (H5.out _ _ _ B1.out (nodes_pre N1.out)).mono ?_; rintro e w2 ⟨rfl, b2⟩; have N2 := hid (N1.out.below b2); have B2 := hid (B1.out.trans (b2.mono B1.out.size)); clear b2)
      | (go_at_call 13; refine H4.out.mono ?_; rintro e w1 ⟨g, cx, rfl, hcx, n1, b1⟩; have N1 := hid n1; have B1 := hid b1; clear n1 b1))
    go_ret
    exact ⟨rfl, B8.out⟩
end Go.Proofs.YtdkboifpdodonaaDoor.Doc
/-
  FormulaPrints: nodes that came in.
-/
namespace Go.Proofs.YtdkboifpdodonaaDoor.Doc
open Go.ChangeShapes Go.WideShapes Go.ChangeAt Go.RowKit Go.Deep PureCnf PureForm
set_option maxRecDepth 100000

theorem cells3 : Tryd.prog.cellsOf 3 = 1 := by kernel_rfl
theorem cells54 : Tryd.prog.cellsOf 54 = 2 := by kernel_rfl
theorem bytes54 : Tryd.prog.bytesOf 54 = 16 := by kernel_rfl
theorem add_plainN (g o k : Nat) : (⟨g, o, none⟩ : Addr).add k = ⟨g, o + k, none⟩ := by
  unfold Addr.add
  split <;> simp_all

section
variable {H : Type} {enc : TypeId × Value → H} {W : World} {spare : Nat → Bool} {held : Bool}

set_option maxRecDepth 100000 in
theorem open_node {n : Nat} {a : Addr} {cs : List Value} {x : DataW H × List MemPlace} (h1 : W.cells? 0 a 2 = some cs) (h2 : DataW.trod enc Tryd.prog W 0 spare held n 54 cs = some x) :
    ∃ p : Nd, a.spot = none ∧ W.cell? a = some (.int .i64 p.1) ∧ W.cell? (a.add 1) = some (.int .i64 p.2) := by
  obtain ⟨xs, k, rfl, rfl, hl, hxs, hf⟩ := DataW.trod_struct Tryd.underlying54 h2
  have hm : (List.range 2).mapM (fun i => W.cell? (a.add i)) = some cs := by
    simpa [World.cells?] using h1
  have g : ∀ i, i < 2 → W.cell? (a.add i) = cs[i]? := fun i hi => mapM_some_get hm i i (by simp [hi])
  rw [cells54] at hl
  match cs, hl with
  | [v0, v1], _ =>
  have g0 := g 0 (by omega)
  have g1 := g 1 (by omega)
  simp at g0 g1
  have hsp := World.cell?_spot g0
  have f0 := hf 0 _ rfl
  have f1 := hf 1 _ rfl
  simp [cells3] at f0 f1
  have hx2 : xs.length = 2 := by simpa using hxs
  rw [List.getElem?_eq_getElem (by omega)] at f0 f1
  obtain ⟨n0, e0, _, _⟩ := DataW.trod_int Tryd.underlying3 f0
  obtain ⟨n1, e1, _, _⟩ := DataW.trod_int Tryd.underlying3 f1
  simp at e0 e1
  subst e0 e1
  exact ⟨(n0, n1), hsp, by simpa [Addr.add] using g0, g1⟩

set_option maxRecDepth 100000 in
/-- nodes that came in. -/
theorem open_nodes {v : Value} {d : DataW H} {ps : List MemPlace} {base : Nat} (hval : Value.okWide Tryd.prog W .any base 36 v) (h : DataW.Trod enc Tryd.prog W 0 spare held 36 v d ps) :
    ∃ (sa : Option Addr) (ca : Nat) (l : List Nd), v = .slice sa l.length ca ∧ NodesAt W sa l ∧ (sa = none → ca = 0) ∧
      ∀ {ts : List TypeId} {ds : List (DataW H)} {j : Nat}, (DataW.weightsEach Tryd.prog ts ds).all (· ≤ reachBytes) = true → ts[j]? = some 36 → ds[j]? = some d → l.length ≤ 8796093022206 := by
  obtain ⟨a0, len, cap, rfl⟩ := okWide_slice Tryd.underlying36 hval
  obtain ⟨fuel, hf⟩ := h
  rcases open_slice Tryd.underlying36 hf with ⟨hcs, hx⟩ | ⟨a, len', cap', m, n, D, Pl, hcs, _, hl, hm, hmm, hx, hall⟩
  · simp [Value.cells] at hcs
    obtain ⟨rfl, rfl, rfl⟩ := hcs
    exact ⟨none, 0, [], rfl, ⟨fun k hk => by simp at hk⟩, fun _ => rfl, fun _ _ _ => Nat.zero_le _⟩
  · simp [Value.cells] at hcs
    obtain ⟨rfl, rfl, rfl⟩ := hcs
    rw [cells54] at hx hall
    obtain ⟨rfl, -⟩ := Prod.mk.inj hx
    have hlm : len ≤ m := by rw [hmm]; split <;> omega
    have each : ∀ i, i < len → ∃ p : Nd, (a.add (i * 2)).spot = none ∧ W.cell? (a.add (i * 2)) = some (.int .i64 p.1) ∧ W.cell? ((a.add (i * 2)).add 1) = some (.int .i64 p.2) := fun i hi => by
      obtain ⟨cs', h1, h2⟩ := hall i (by omega)
      exact open_node h1 h2
    haveI : Inhabited Nd := ⟨(0, 0)⟩
    obtain ⟨f, hf⟩ := choose_lt each
    have hlen : ((List.range len).map f).length = len := by simp
    refine ⟨some a, cap, (List.range len).map f, by rw [hlen], ⟨fun k hk => ?_⟩, (fun e => by cases e), fun {ts ds j} hsz ht hd => ?_⟩
    · rw [hlen] at hk
      obtain ⟨hs0, _, _⟩ := hf 0 (by omega)
      obtain ⟨b, off, spot⟩ := a
      obtain rfl : spot = none := by simpa [Addr.add] using hs0
      obtain ⟨_, c0, c1⟩ := hf k hk
      rw [add_plainN] at c0
      rw [add_plainN, add_plainN] at c1
      refine ⟨b, off, rfl, World.block_lt_of_cell? W _ c0, ?_, ?_⟩
      · simpa using c0
      · simpa using c1
    · rw [hlen]
      have hr : reachBytes = 140737488351232 := by decide
      have hw : (((List.range len).map D).length + ((List.range (m - len)).map fun i => D (len + i)).length) * 16 ∈ (DataW.slice ((List.range len).map D) ((List.range (m - len)).map fun i => D (len + i))).weights Tryd.prog 36 := by
        simp [DataW.weights, Tryd.underlying36, bytes54]
      have := List.all_eq_true.1 hsz _ (DataW.weights_mem_each ht hd _ hw)
      have h3 : (((List.range len).map D).length + ((List.range (m - len)).map fun i => D (len + i)).length) * 16 ≤ reachBytes := by simpa using this
      simp only [List.length_map, List.length_range] at h3
      omega
end
end Go.Proofs.YtdkboifpdodonaaDoor.Doc
/-
  FormulaPrints: the row and its card.
-/

namespace Go.Proofs.YtdkboifpdodonaaDoor
open Go.ChangeShapes Go.WideShapes Go.ChangeAt Go.RowKit Go.Deep PureCnf PureForm

set_option maxRecDepth 100000 in
theorem formulaPrints_contract (H : Type) (enc : TypeId × Value → H) (W : World) (base : Nat) (args : Array Value) (ds gs : List (DataW H)) (before : List MemPlace)
    (hval : ∀ (j : Nat) t v, Tryd.f5.params[j]? = some t → args[j]? = some v → Value.okWide Tryd.prog W .any base t v)
    (hW : DataW.Whole enc Tryd.prog Tryd.f5.params.toList Rows.formulaPrintsSpec.vars false W args.toList ds gs before)
    (hsz0 : (DataW.weightsEach Tryd.prog (Tryd.f5.params.toList ++ (OpenSpec.ofChange Rows.formulaPrintsSpec).bare.plain.varTypes Tryd.prog) (ds ++ gs)).all (· ≤ reachBytes) = true) (hL : laidMetH Tryd.prog Rows.formulaPrintsRow.laid W) :
    Calls Tryd.prog 5 args W fun e W' => ∃ v, e = .returned v ∧ Rows.formulaPrintsSpec.post enc Tryd.prog Tryd.f5 false true false false W args v W' := by
  have hsz := hsz0
  clear hsz0
  have hW' := hW
  obtain ⟨p, q, hA0, hV, rfl, hfz, hnd⟩ := hW
  have hA : DataW.TrodAll enc Tryd.prog W 0 (fun _ => true) true Tryd.f5.params.toList args.toList ds p := hA0
  rw [Tryd.params5] at hA hval hsz
  obtain ⟨v0, vs0, d0, ds0, p0, q0, hargs0, rfl, rfl, h0, r0⟩ := trodAll_cons hA
  obtain ⟨rfl, rfl, rfl⟩ := trodAll_nil r0
  obtain rfl : args = #[v0] := by cases args; simp_all
  obtain ⟨rfl, rfl⟩ := trodVars_none hV
  clear hA0
  simp only [List.append_nil] at hW'
  have hlt : ∀ x ∈ p0, x.block < W.heap.size := fun x hx => by simpa using hW'.lt x (by simpa using hx)
  obtain ⟨sa, ca, l, rfl, hn, hca, hsize⟩ := Doc.open_nodes (hval 0 36 v0 rfl rfl) h0
  have hl := hsize (j := 0) hsz rfl rfl
  refine (Doc.prints_law print14 formed15 vars16 l sa ca W (tab_of_laid hL) hn hca hl).mono fun e W' ⟨he, hnx⟩ => ?_
  subst he
  refine ⟨_, rfl, _, _, _, [], _, [], hW', ?_, trodAll_mk1 (Below.trod laidOut (by kernel_rfl) (of_decide_eq_true (by kernel_rfl)) h0 hnx hlt), rfl, hnx.frame _, fun h => by cases h⟩
  exact trodAll_mk1 (shut_bool Tryd.underlying4 _)

set_option maxRecDepth 100000 in
theorem formulaPrints_lifted (os : Os) (started : os.Started) (H : Type) (enc : TypeId × Value → H) (F : Stop.Interp) :
    ReturnsInHanded {} Tryd.checked os 5 .any ((OpenSpec.ofChange Rows.formulaPrintsSpec).preRow enc Tryd.prog Tryd.f5 Rows.formulaPrintsRow.domain false Rows.formulaPrintsRow.laid) (((OpenSpec.ofChange Rows.formulaPrintsSpec).at F).post enc Tryd.prog Tryd.f5 false true false false) := by
  obtain ⟨lw, hlw⟩ : ∃ lw : World, lw = (fun w0 : World => { w0 with heap := (((w0.heap.modify 5 fun
      | .cells _ t frozen => .cells #[.int .u8 0, .int .u8 1, .int .u8 28, .int .u8 2, .int .u8 29, .int .u8 14, .int .u8 24, .int .u8 3, .int .u8 30, .int .u8 22, .int .u8 20, .int .u8 15, .int .u8 25, .int .u8 17, .int .u8 4, .int .u8 8, .int .u8 31, .int .u8 27, .int .u8 13, .int .u8 23, .int .u8 21, .int .u8 19, .int .u8 16, .int .u8 7, .int .u8 26, .int .u8 12, .int .u8 18, .int .u8 6, .int .u8 11, .int .u8 5, .int .u8 10, .int .u8 9] t frozen
      | o => o).modify 6 fun
      | .cells _ t frozen => .cells #[.int .u8 0, .int .u8 1, .int .u8 56, .int .u8 2, .int .u8 57, .int .u8 49, .int .u8 28, .int .u8 3, .int .u8 61, .int .u8 58, .int .u8 42, .int .u8 50, .int .u8 38, .int .u8 29, .int .u8 17, .int .u8 4, .int .u8 62, .int .u8 47, .int .u8 59, .int .u8 36, .int .u8 45, .int .u8 43, .int .u8 51, .int .u8 22, .int .u8 53, .int .u8 39, .int .u8 33, .int .u8 30, .int .u8 24, .int .u8 18, .int .u8 12, .int .u8 5, .int .u8 63, .int .u8 55, .int .u8 48, .int .u8 27, .int .u8 60, .int .u8 41, .int .u8 37, .int .u8 16, .int .u8 46, .int .u8 35, .int .u8 44, .int .u8 21, .int .u8 52, .int .u8 32, .int .u8 23, .int .u8 11, .int .u8 54, .int .u8 26, .int .u8 40, .int .u8 15, .int .u8 34, .int .u8 20, .int .u8 31, .int .u8 10, .int .u8 25, .int .u8 14, .int .u8 19, .int .u8 9, .int .u8 13, .int .u8 8, .int .u8 7, .int .u8 6] t frozen
      | o => o).modify 2 fun
      | .cells _ t frozen => .cells #[.int .u64 1, .int .u64 10, .int .u64 100, .int .u64 1000, .int .u64 10000, .int .u64 100000, .int .u64 1000000, .int .u64 10000000, .int .u64 100000000, .int .u64 1000000000, .int .u64 10000000000, .int .u64 100000000000, .int .u64 1000000000000, .int .u64 10000000000000, .int .u64 100000000000000, .int .u64 1000000000000000, .int .u64 10000000000000000, .int .u64 100000000000000000, .int .u64 1000000000000000000, .int .u64 10000000000000000000] t frozen
      | o => o) }) (World.holding Tryd.prog os ⟨#[], #[], []⟩) := ⟨_, rfl⟩
  have hos : lw.os = os := by rw [hlw]; rfl
  have hv : (lw.forCall (fun _ _ => 0) ⟨#[], #[.slice none 0 0], []⟩).variablesRefB Tryd.checked.prog = true := by rw [hlw]; kernel_rfl
  have hr : ((lw.forCall (fun _ _ => 0) ⟨#[], #[.slice none 0 0], []⟩).heap.toList.drop Tryd.checked.prog.globals.size).take ((begin Tryd.checked.prog (fun _ _ => 0) default).world.heap.size - Tryd.checked.prog.globals.size) = (begin Tryd.checked.prog (fun _ _ => 0) default).world.heap.toList.drop Tryd.checked.prog.globals.size := by rw [hlw]; kernel_rfl
  have hok : Input.okWideB Tryd.checked.prog (lw.forCall (fun _ _ => 0) ⟨#[], #[.slice none 0 0], []⟩) 5 ⟨#[], #[.slice none 0 0], []⟩ = true := by rw [hlw]; kernel_rfl
  have hx : DataW.whole enc Tryd.prog (lw.forCall (fun _ _ => 0) ⟨#[], #[.slice none 0 0], []⟩).memory Tryd.f5.params.toList Rows.formulaPrintsSpec.vars false #[Value.slice none 0 0].toList 8 = some ([.nil], [], []) := by rw [hlw]; kernel_rfl
  have hlm : laidMet Tryd.prog Rows.formulaPrintsRow.laid (lw.forCall (fun _ _ => 0) ⟨#[], #[.slice none 0 0], []⟩).memory := by rw [hlw]; exact laidMet_of_run' 8 (by kernel_rfl) (by kernel_rfl)
  clear hlw
  refine returnsInHanded_of_row (C := Tryd.checked) (s := OpenSpec.ofChange Rows.formulaPrintsSpec) own started (by kernel_rfl) Tryd.func5
    (witness_row_atRef (enc := enc) (C := Tryd.checked) false lw #[.slice none 0 0] hos hv hr hok
      (OpenSpec.preRow_of_cond 8 hx (by kernel_rfl) (fun k hk => by cases hk) (by kernel_rfl) hlm)) ?_
  intro W base args ds gs before hval hW _ _ hsz hL _ _
  exact formulaPrints_contract H enc W base args ds gs before hval hW hsz hL

theorem formulaPrints_said : Rows.FormulaPrintsSaid :=
  OpenClaim.holds_of_cond 5 Tryd.f5 rfl rfl rfl rfl rfl rfl rfl ⟨rfl, rfl, rfl, rfl, rfl⟩ rfl rfl rfl rfl rfl (by kernel_rfl) Tryd.func5 (by kernel_rfl)
    (of_decide_eq_true (by kernel_rfl)) (by unfold Func.isWrapper; first | (rw [if_pos (by decide +kernel)]; kernel_rfl) | (rw [if_neg (by decide +kernel)]; exact ⟨rfl, rfl⟩))
    (fun os started H enc _ F => by rw [OpenClaim.pre_eq_preRow]; exact formulaPrints_lifted os started H enc F)

/-- no parameter wants a stand-in. -/
theorem formulaPrints_plain (f : FuncId) (fn : Func) (hf : Tryd.pinned.checked.prog.funcNamed "strata/stratalaw13.FormulaPrints" = some f) (hfn : Tryd.pinned.checked.prog.funcs[f]? = some fn) :
    true = Tryd.pinned.checked.prog.looks [] ∧ ∀ (j : Nat) t, fn.params[j]? = some t → Tryd.pinned.checked.prog.wantsStandIn t = false := by
  obtain rfl : f = 5 := Option.some.inj ((show Tryd.prog.funcNamed "strata/stratalaw13.FormulaPrints" = some 5 by kernel_rfl).symm.trans hf) |>.symm
  obtain rfl : fn = Tryd.f5 := (Option.some.inj (Tryd.func5.symm.trans hfn)).symm
  refine ⟨by kernel_rfl, fun j t ht => ?_⟩
  rw [Tryd.params5] at ht
  have hm : t = 36 := by
    have := Array.mem_of_getElem? ht
    simpa using this
  subst hm
  exact (show Tryd.prog.wantsStandIn 36 = false by kernel_rfl)

theorem formulaPrints_holds : Rows.FormulaPrintsCardSaid :=
  Claim7.holds_tied_plain_at .later [] _ _ _ _ formulaPrints_said (fun _ h => by cases h) (by kernel_rfl) (fun _ h => by cases h) formulaPrints_row_tie rfl ⟨rfl, rfl⟩ (by kernel_rfl) rfl formulaPrints_plain (by kernel_rfl)
#print axioms formulaPrints_holds
end Go.Proofs.YtdkboifpdodonaaDoor
