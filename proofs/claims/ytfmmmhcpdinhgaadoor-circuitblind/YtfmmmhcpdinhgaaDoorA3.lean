/-
  The law's values.
-/
import Derived.Test.YtfmmmhcpdinhgaaDoorA2
namespace Go.Proofs.YtfmmmhcpdinhgaaDoor
open Go.RowKit Go.Deep PureNet
set_option maxRecDepth 100000

theorem cnt_take_le (k : Int) (l : List Ga) (i : Nat) : cnt k (l.take i) ≤ cnt k l := by
  unfold cnt
  exact (List.Sublist.filter _ (List.take_sublist i l)).length_le
theorem cnt_take_le_i (k : Int) (l : List Ga) (i : Nat) : cnt k (l.take i) ≤ i := by
  have h1 := List.length_filter_le (fun g : Ga => decide (g.kind = k)) (l.take i)
  simp only [List.length_take] at h1
  unfold cnt
  omega
theorem valsUp_succ {l : List Ga} {ins las : List Bool} {n : Nat} {g : Ga} (hg : l[n]? = some g) : valsUp l ins las (n + 1) = valsUp l ins las n ++ [worth l ins las (valsUp l ins las n) n g] := by rw [valsUp, hg]

theorem tab_1 : ∀ q : Nat, q ≤ 15 → (bits BinOp.and IntKind.i64 (q : Int) 1 == 1) = tab (q : Int) false false := by decide +kernel
theorem tab_2 : ∀ q : Nat, q ≤ 15 → (bits BinOp.and IntKind.i64 ((q : Int) / 2) 1 == 1) = tab (q : Int) false true := by decide +kernel
theorem tab_4 : ∀ q : Nat, q ≤ 15 → (bits BinOp.and IntKind.i64 ((q : Int) / 4) 1 == 1) = tab (q : Int) true false := by decide +kernel
theorem tab_8 : ∀ q : Nat, q ≤ 15 → (bits BinOp.and IntKind.i64 ((q : Int) / 8) 1 == 1) = tab (q : Int) true true := by decide +kernel

set_option maxHeartbeats 4000000 in
set_option maxRecDepth 100000 in
theorem values_any (c : Net) (sg so : Option Addr) (cg co : Nat) (ins las : List Bool) (si sl : Option Addr) (ci cl : Nat) (w : World) (hm : Made c) (hc : CellsAt w sg (gas c.gates)) (hi : CellsAt w si (bo ins)) (hla : CellsAt w sl (bo las))
    (hni : cnt 1 c.gates ≤ ins.length) (hnl : cnt 3 c.gates ≤ las.length) (hli : ins.length ≤ 1048576) (hll : las.length ≤ 1048576) :
    Calls Tryd.prog 14 #[cirV c sg cg so co, .slice si ins.length ci, .slice sl las.length cl] w fun e w' => ∃ v, e = .returned v ∧ Mk w w' 4 1 v c.gates.length (bo (valsUp c.gates ins las c.gates.length)) := by
  have HC := hid hc
  have HI := hid hi
  have HL := hid hla
  have HM := hid hm
  have hfew := hm.few
  have HNI := hid hni
  have HNL := hid hnl
  clear hc hi hla hm hni hnl
  go_enter Tryd.func14, Tryd.ntmps14
  go_wp2
  obtain ⟨x, hx⟩ : ∃ x, x = w.alloc (Obj.cells #[Value.string c.name, Value.slice sg c.gates.length cg, Value.slice so c.outs.length co] 26) := ⟨_, rfl⟩
  have c0 : x.heap[w.heap.size]? = some (.cells #[Value.string c.name, Value.slice sg c.gates.length cg, Value.slice so c.outs.length co] 26 (0, 0)) := by rw [hx]; exact heap_alloc_new w _
  have BX : Hid (Below w.heap.size w x) := by rw [hx]; exact (Below.refl _ _).alloc (Nat.le_refl _) _
  rw [← hx]
  clear hx
  have C0 := hid c0
  clear c0
  go_loopw [7, 8, 9, 10] (fun vv nv mv iv W => ∃ i : Nat, i ≤ c.gates.length ∧ iv = .int .i64 (i : Int) ∧ nv = .int .i64 (cnt 1 (c.gates.take i) : Int) ∧ mv = .int .i64 (cnt 3 (c.gates.take i) : Int) ∧ Hid (Mk x W 4 1 vv i (bo (valsUp c.gates ins las i)))) (fun vv nv mv iv _ => c.gates.length - (intOf iv).toNat)
  case atStart => exact ⟨0, Nat.zero_le _, rfl, rfl, rfl, Mk.nil _ _ _⟩
  case round =>
    obtain ⟨i, hi, rfl, rfl, rfl, HR⟩ := hrel
    have hr := HR.out
    obtain ⟨sv, cv, rfl, hcells, _, hvc, _⟩ := own_cells hr.own
    have c0 := fun j => cell_row ((hr.below.block _ (Array.getElem?_eq_some_iff.1 C0.out).1).trans C0.out) j
    have hb0 : w.heap.size < wr.heap.size := Nat.lt_of_lt_of_le (Array.getElem?_eq_some_iff.1 C0.out).1 hr.below.size
    have HV := hid hcells
    have hwr : Below w.heap.size w wr := BX.out.trans (hr.below.mono BX.out.size)
    have h1le := cnt_take_le_i 1 c.gates i
    have h3le := cnt_take_le_i 3 c.gates i
    clear hcells
    by_cases hlt : i < c.gates.length
    · obtain ⟨g, hg⟩ : ∃ g, c.gates[i]? = some g := ⟨_, List.getElem?_eq_getElem hlt⟩
      obtain ⟨b, o, rfl, hb, d0, d1, d2, d3, d4, d5⟩ := gate_at (HC.out.below hwr) i g hg
      have HS := hid (valsUp_succ (ins := ins) (las := las) hg)
      have HN1 := hid (cnt_take_succ 1 c.gates i hg)
      have HN3 := hid (cnt_take_succ 3 c.gates i hg)
      have hL := (HM.out.lines i g hg).form
      rcases hL with ⟨e, h1, h2, h3, h4⟩ | ⟨e, h1, h2, h3, h4, h5, h6⟩ | ⟨e, h1, h2, h3, h4, h5, h6, h7⟩ | ⟨e, h1, h2, h3, h4, h5, h6, h7⟩
      · have hlt1 : cnt 1 (c.gates.take i) < ins.length := by
          have q1 := cnt_take_le 1 c.gates (i + 1)
          have q2 := HN1.out
          have q3 := HNI.out
          rw [if_pos e] at q2
          omega
        obtain ⟨y, hy⟩ : ∃ y, ins[cnt 1 (c.gates.take i)]? = some y := ⟨_, List.getElem?_eq_getElem hlt1⟩
        obtain ⟨bi, oi, rfl, hbi, di⟩ := bit_at (HI.out.below hwr) _ y hy
        have HW : Hid (worth c.gates ins las (valsUp c.gates ins las i) i g = y) := by show _ = _; unfold worth; rw [if_pos e, List.getD_eq_getElem?_getD, hy]; rfl
        rw [e] at d0
        rw [if_pos e] at HN1
        rw [if_neg (by omega)] at HN3
        obtain ⟨n1, hn1⟩ : ∃ n1, n1 = cnt 1 (c.gates.take i) := ⟨_, rfl⟩
        obtain ⟨n3, hn3⟩ : ∃ n3, n3 = cnt 3 (c.gates.take i) := ⟨_, rfl⟩
        rw [← hn1] at HN1 di hlt1 h1le ⊢
        rw [← hn3] at HN3 h3le ⊢
        clear hg hy hn1 hn3 h1 h2 h3 h4 hr hwr e
        go_wp2_with (at_builtin; refine mk_app rfl _ _ 29 (.bool false) 1 rfl Tryd.underlying29 info4 rfl (by decide) (HR.out.on ((Below.refl _ _).alloc (Nat.le_refl _) _)) [.bool y] 4 _ (by simp) rfl rfl rfl (fun u hu => by simp at hu; subst hu; rfl) (by omega) (by omega) ?_; intro sx cx w2 _ m2; have M2 := hid m2; clear m2)
        exact ⟨⟨i + 1, hlt, by go_num, by rw [HN1.out]; go_num, by rw [HN3.out]; rfl, by show Mk _ _ _ _ _ _ _; rw [HS.out, HW.out, bo, List.map_append]; exact M2.out⟩, by simp [intOf]; omega⟩
      · have hlt3 : cnt 3 (c.gates.take i) < las.length := by
          have q1 := cnt_take_le 3 c.gates (i + 1)
          have q2 := HN3.out
          have q3 := HNL.out
          rw [if_pos e] at q2
          omega
        obtain ⟨y, hy⟩ : ∃ y, las[cnt 3 (c.gates.take i)]? = some y := ⟨_, List.getElem?_eq_getElem hlt3⟩
        obtain ⟨bi, oi, rfl, hbi, di⟩ := bit_at (HL.out.below hwr) _ y hy
        have HW : Hid (worth c.gates ins las (valsUp c.gates ins las i) i g = y) := by show _ = _; unfold worth; rw [if_neg (by omega), if_pos e, List.getD_eq_getElem?_getD, hy]; rfl
        rw [e] at d0
        rw [if_neg (by omega)] at HN1
        rw [if_pos e] at HN3
        obtain ⟨n1, hn1⟩ : ∃ n1, n1 = cnt 1 (c.gates.take i) := ⟨_, rfl⟩
        obtain ⟨n3, hn3⟩ : ∃ n3, n3 = cnt 3 (c.gates.take i) := ⟨_, rfl⟩
        rw [← hn1] at HN1 h1le ⊢
        rw [← hn3] at HN3 di hlt3 h3le ⊢
        clear hg hy hn1 hn3 h1 h2 h3 h4 h5 h6 hr hwr e
        go_wp2_with (at_builtin; refine mk_app rfl _ _ 29 (.bool false) 1 rfl Tryd.underlying29 info4 rfl (by decide) (HR.out.on ((Below.refl _ _).alloc (Nat.le_refl _) _)) [.bool y] 4 _ (by simp) rfl rfl rfl (fun u hu => by simp at hu; subst hu; rfl) (by omega) (by omega) ?_; intro sx cx w2 _ m2; have M2 := hid m2; clear m2)
        exact ⟨⟨i + 1, hlt, by go_num, by rw [HN1.out]; rfl, by rw [HN3.out]; go_num, by show Mk _ _ _ _ _ _ _; rw [HS.out, HW.out, bo, List.map_append]; exact M2.out⟩, by simp [intOf]; omega⟩
      · obtain ⟨a, ha⟩ : ∃ a : Nat, g.a = (a : Int) := ⟨g.a.toNat, by omega⟩
        obtain ⟨p, hp⟩ : ∃ p : Nat, g.b = (p : Int) := ⟨g.b.toNat, by omega⟩
        obtain ⟨q, hq⟩ : ∃ q : Nat, g.c = (q : Int) := ⟨g.c.toNat, by omega⟩
        have hlen := valsUp_len c.gates ins las i hi
        obtain ⟨x1, hx1⟩ : ∃ y, (valsUp c.gates ins las i)[a]? = some y := ⟨_, List.getElem?_eq_getElem (by omega)⟩
        obtain ⟨x2, hx2⟩ : ∃ y, (valsUp c.gates ins las i)[p]? = some y := ⟨_, List.getElem?_eq_getElem (by omega)⟩
        obtain ⟨x3, hx3⟩ : ∃ y, (valsUp c.gates ins las i)[q]? = some y := ⟨_, List.getElem?_eq_getElem (by omega)⟩
        obtain ⟨bv, ov, rfl, hbv, e1⟩ := bit_at HV.out _ x1 hx1
        obtain ⟨bv2, ov2, he2, _, e2⟩ := bit_at HV.out _ x2 hx2
        obtain ⟨bv3, ov3, he3, _, e3⟩ := bit_at HV.out _ x3 hx3
        cases he2
        cases he3
        obtain ⟨y, hyy⟩ : ∃ y, y = (if x1 then x2 else x3) := ⟨_, rfl⟩
        have HW : Hid (worth c.gates ins las (valsUp c.gates ins las i) i g = y) := by
          show _ = _
          unfold worth valAt
          rw [if_neg (by omega), if_neg (by omega), if_pos e, ha, hp, hq]
          simp only [List.getD_eq_getElem?_getD, Int.toNat_natCast, hx1, hx2, hx3, Option.getD_some]
          exact hyy.symm
        rw [e] at d0
        rw [ha] at d3
        rw [hp] at d4
        rw [hq] at d5
        have ha2 : a < i := by omega
        have hp2 : p < i := by omega
        have hq2 : q < i := by omega
        rw [if_neg (by omega)] at HN1
        rw [if_neg (by omega)] at HN3
        obtain ⟨n1, hn1⟩ : ∃ n1, n1 = cnt 1 (c.gates.take i) := ⟨_, rfl⟩
        obtain ⟨n3, hn3⟩ : ∃ n3, n3 = cnt 3 (c.gates.take i) := ⟨_, rfl⟩
        rw [← hn1] at HN1 h1le ⊢
        rw [← hn3] at HN3 h3le ⊢
        clear hg hx1 hx2 hx3 hn1 hn3 h1 h2 h3 h4 h5 h6 h7 hr hwr e ha hp hq hlen
        cases x1
        · cases x3 <;> subst hyy
          · go_wp2_with (at_builtin; refine mk_app rfl _ _ 29 (.bool false) 1 rfl Tryd.underlying29 info4 rfl (by decide) (HR.out.on ((Below.refl _ _).alloc (Nat.le_refl _) _)) [.bool false] 4 _ (by simp) rfl rfl rfl (fun u hu => by simp at hu; subst hu; rfl) (by omega) (by omega) ?_; intro sx cx w2 _ m2; have M2 := hid m2; clear m2)
            exact ⟨⟨i + 1, hlt, by go_num, by rw [HN1.out]; rfl, by rw [HN3.out]; rfl, by show Mk _ _ _ _ _ _ _; rw [HS.out, HW.out, bo, List.map_append]; exact M2.out⟩, by simp [intOf]; omega⟩
          · go_wp2_with (at_builtin; refine mk_app rfl _ _ 29 (.bool false) 1 rfl Tryd.underlying29 info4 rfl (by decide) (HR.out.on ((Below.refl _ _).alloc (Nat.le_refl _) _)) [.bool true] 4 _ (by simp) rfl rfl rfl (fun u hu => by simp at hu; subst hu; rfl) (by omega) (by omega) ?_; intro sx cx w2 _ m2; have M2 := hid m2; clear m2)
            exact ⟨⟨i + 1, hlt, by go_num, by rw [HN1.out]; rfl, by rw [HN3.out]; rfl, by show Mk _ _ _ _ _ _ _; rw [HS.out, HW.out, bo, List.map_append]; exact M2.out⟩, by simp [intOf]; omega⟩
        · cases x2 <;> subst hyy
          · go_wp2_with (at_builtin; refine mk_app rfl _ _ 29 (.bool false) 1 rfl Tryd.underlying29 info4 rfl (by decide) (HR.out.on ((Below.refl _ _).alloc (Nat.le_refl _) _)) [.bool false] 4 _ (by simp) rfl rfl rfl (fun u hu => by simp at hu; subst hu; rfl) (by omega) (by omega) ?_; intro sx cx w2 _ m2; have M2 := hid m2; clear m2)
            exact ⟨⟨i + 1, hlt, by go_num, by rw [HN1.out]; rfl, by rw [HN3.out]; rfl, by show Mk _ _ _ _ _ _ _; rw [HS.out, HW.out, bo, List.map_append]; exact M2.out⟩, by simp [intOf]; omega⟩
          · go_wp2_with (at_builtin; refine mk_app rfl _ _ 29 (.bool false) 1 rfl Tryd.underlying29 info4 rfl (by decide) (HR.out.on ((Below.refl _ _).alloc (Nat.le_refl _) _)) [.bool true] 4 _ (by simp) rfl rfl rfl (fun u hu => by simp at hu; subst hu; rfl) (by omega) (by omega) ?_; intro sx cx w2 _ m2; have M2 := hid m2; clear m2)
            exact ⟨⟨i + 1, hlt, by go_num, by rw [HN1.out]; rfl, by rw [HN3.out]; rfl, by show Mk _ _ _ _ _ _ _; rw [HS.out, HW.out, bo, List.map_append]; exact M2.out⟩, by simp [intOf]; omega⟩
      · obtain ⟨a, ha⟩ : ∃ a : Nat, g.a = (a : Int) := ⟨g.a.toNat, by omega⟩
        obtain ⟨p, hp⟩ : ∃ p : Nat, g.b = (p : Int) := ⟨g.b.toNat, by omega⟩
        obtain ⟨q, hq⟩ : ∃ q : Nat, g.op = (q : Int) := ⟨g.op.toNat, by omega⟩
        have hlen := valsUp_len c.gates ins las i hi
        obtain ⟨x1, hx1⟩ : ∃ y, (valsUp c.gates ins las i)[a]? = some y := ⟨_, List.getElem?_eq_getElem (by omega)⟩
        obtain ⟨x2, hx2⟩ : ∃ y, (valsUp c.gates ins las i)[p]? = some y := ⟨_, List.getElem?_eq_getElem (by omega)⟩
        obtain ⟨bv, ov, rfl, hbv, e1⟩ := bit_at HV.out _ x1 hx1
        obtain ⟨bv2, ov2, he2, _, e2⟩ := bit_at HV.out _ x2 hx2
        cases he2
        obtain ⟨y, hyy⟩ : ∃ y, y = tab (q : Int) x1 x2 := ⟨_, rfl⟩
        have HW : Hid (worth c.gates ins las (valsUp c.gates ins las i) i g = y) := by
          show _ = _
          unfold worth valAt
          rw [if_neg (by omega), if_neg (by omega), if_neg (by omega), ha, hp, hq]
          simp only [List.getD_eq_getElem?_getD, Int.toNat_natCast, hx1, hx2, Option.getD_some]
          exact hyy.symm
        rw [e] at d0
        rw [ha] at d3
        rw [hp] at d4
        rw [hq] at d2
        have ha2 : a < i := by omega
        have hp2 : p < i := by omega
        have hq2 : q ≤ 15 := by omega
        rw [if_neg (by omega)] at HN1
        rw [if_neg (by omega)] at HN3
        obtain ⟨n1, hn1⟩ : ∃ n1, n1 = cnt 1 (c.gates.take i) := ⟨_, rfl⟩
        obtain ⟨n3, hn3⟩ : ∃ n3, n3 = cnt 3 (c.gates.take i) := ⟨_, rfl⟩
        rw [← hn1] at HN1 h1le ⊢
        rw [← hn3] at HN3 h3le ⊢
        clear hg hx1 hx2 hn1 hn3 h1 h2 h3 h4 h5 h6 h7 hr hwr e ha hp hq hlen
        cases x1 <;> cases x2
        · rw [← tab_1 q hq2] at hyy
          have HY := hid hyy
          clear hyy
          go_wp2_with (at_builtin; refine mk_app rfl _ _ 29 (.bool false) 1 rfl Tryd.underlying29 info4 rfl (by decide) (HR.out.on ((Below.refl _ _).alloc (Nat.le_refl _) _)) [.bool (bits BinOp.and IntKind.i64 (q : Int) 1 == 1)] 4 _ (by simp) rfl rfl rfl (fun u hu => by simp at hu; subst hu; rfl) (by omega) (by omega) ?_; intro sx cx w2 _ m2; rw [← HY.out] at m2; have M2 := hid m2; clear m2)
          exact ⟨⟨i + 1, hlt, by go_num, by rw [HN1.out]; rfl, by rw [HN3.out]; rfl, by show Mk _ _ _ _ _ _ _; rw [HS.out, HW.out, bo, List.map_append]; exact M2.out⟩, by simp [intOf]; omega⟩
        · rw [← tab_2 q hq2] at hyy
          have HY := hid hyy
          clear hyy
          go_wp2_with (at_builtin; refine mk_app rfl _ _ 29 (.bool false) 1 rfl Tryd.underlying29 info4 rfl (by decide) (HR.out.on ((Below.refl _ _).alloc (Nat.le_refl _) _)) [.bool (bits BinOp.and IntKind.i64 ((q : Int) / 2) 1 == 1)] 4 _ (by simp) rfl rfl rfl (fun u hu => by simp at hu; subst hu; rfl) (by omega) (by omega) ?_; intro sx cx w2 _ m2; rw [← HY.out] at m2; have M2 := hid m2; clear m2)
          exact ⟨⟨i + 1, hlt, by go_num, by rw [HN1.out]; rfl, by rw [HN3.out]; rfl, by show Mk _ _ _ _ _ _ _; rw [HS.out, HW.out, bo, List.map_append]; exact M2.out⟩, by simp [intOf]; omega⟩
        · rw [← tab_4 q hq2] at hyy
          have HY := hid hyy
          clear hyy
          go_wp2_with (at_builtin; refine mk_app rfl _ _ 29 (.bool false) 1 rfl Tryd.underlying29 info4 rfl (by decide) (HR.out.on ((Below.refl _ _).alloc (Nat.le_refl _) _)) [.bool (bits BinOp.and IntKind.i64 ((q : Int) / 4) 1 == 1)] 4 _ (by simp) rfl rfl rfl (fun u hu => by simp at hu; subst hu; rfl) (by omega) (by omega) ?_; intro sx cx w2 _ m2; rw [← HY.out] at m2; have M2 := hid m2; clear m2)
          exact ⟨⟨i + 1, hlt, by go_num, by rw [HN1.out]; rfl, by rw [HN3.out]; rfl, by show Mk _ _ _ _ _ _ _; rw [HS.out, HW.out, bo, List.map_append]; exact M2.out⟩, by simp [intOf]; omega⟩
        · rw [← tab_8 q hq2] at hyy
          have HY := hid hyy
          clear hyy
          go_wp2_with (at_builtin; refine mk_app rfl _ _ 29 (.bool false) 1 rfl Tryd.underlying29 info4 rfl (by decide) (HR.out.on ((Below.refl _ _).alloc (Nat.le_refl _) _)) [.bool (bits BinOp.and IntKind.i64 ((q : Int) / 8) 1 == 1)] 4 _ (by simp) rfl rfl rfl (fun u hu => by simp at hu; subst hu; rfl) (by omega) (by omega) ?_; intro sx cx w2 _ m2; rw [← HY.out] at m2; have M2 := hid m2; clear m2)
          exact ⟨⟨i + 1, hlt, by go_num, by rw [HN1.out]; rfl, by rw [HN3.out]; rfl, by show Mk _ _ _ _ _ _ _; rw [HS.out, HW.out, bo, List.map_append]; exact M2.out⟩, by simp [intOf]; omega⟩
    · have hin : i = c.gates.length := by omega
      subst hin
      have HF : Hid (Mk w wr 4 1 (Value.slice sv c.gates.length cv) c.gates.length (bo (valsUp c.gates ins las c.gates.length))) := ⟨⟨hr.own.1, hr.own.2.imp id (fun ⟨g, cap, cur, hv, hB, r⟩ => ⟨g, cap, cur, hv, Nat.le_trans BX.out.size hB, r⟩)⟩, hwr⟩
      clear hr hwr
      go_wp2
      go_ret
      exact ⟨_, rfl, HF.out⟩
end Go.Proofs.YtfmmmhcpdinhgaaDoor
