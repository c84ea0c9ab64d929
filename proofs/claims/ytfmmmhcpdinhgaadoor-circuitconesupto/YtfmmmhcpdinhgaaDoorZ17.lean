import Derived.Test.YtfmmmhcpdinhgaaDoorZ16
/-
  The first line that is in a circle, or none.
-/
namespace Go.Proofs.YtfmmmhcpdinhgaaDoor
open Go.RowKit Go.Deep PureNet ShfKit
set_option maxRecDepth 100000

set_option maxHeartbeats 4000000 in
theorem firstInCircle_gen (l : List Ga) (sg : Option Addr) (cg n : Nat) (w : World) (hc : CellsAt w sg (gas l)) (hkd : KindsAt w) (hn : n = l.length) (hfew : n ≤ 65536)
    (hlines : ∀ (i : Nat) (g : Ga), l[i]? = some g → (1 ≤ g.kind ∧ g.kind ≤ 4) ∧ ∀ a ∈ leansOn g, 0 ≤ a ∧ a < (l.length : Int)) :
    Calls Tryd.prog 53 #[.slice sg n cg] w fun e W' => (∃ r, e = .returned (.int .i64 r) ∧ CircleIs l r) ∧ Below w.heap.size w W' := by
  have SD := hid (searched_gen l sg cg n w hc hkd hn hfew hlines)
  have HC := hid hc
  have KD := hid hkd
  have HN := hid hn
  have HL := hid hlines
  clear hc hkd hn hlines
  go_enter Tryd.func53, Tryd.ntmps53
  go_wp2_with (fail)
  refine wp_scope_jumps 0 (fun a' w' => ∃ (i : Nat) (u0 u1 u2 u3 u5 u6 u7 u8 u9 u10 u11 u12 u13 u14 u15 u16 u17 u18 u19 u20 u21 u22 u23 u24 u25 u26 u27 u28 u29 u30 u31 u32 u33 u34 u35 u36 u37 u38 : Value), a' = { tmps := #[u0, u1, u2, u3, .int .i64 (i : Int), u5, u6, u7, u8, u9, u10, u11, u12, u13, u14, u15, u16, u17, u18, u19, u20, u21, u22, u23, u24, u25, u26, u27, u28, u29, u30, u31, u32, u33, u34, u35, u36, u37, u38], defers := [] } ∧ Hid (i < l.length ∧ PureNet.Way l i i ∧ (∀ j, j < i → ¬ PureNet.Way l j j) ∧ Below w.heap.size w w')) (fun _ _ => 0) rfl ?_ ?_
  rotate_left 1
  · rintro a' w' ⟨i, u0, u1, u2, u3, u5, u6, u7, u8, u9, u10, u11, u12, u13, u14, u15, u16, u17, u18, u19, u20, u21, u22, u23, u24, u25, u26, u27, u28, u29, u30, u31, u32, u33, u34, u35, u36, u37, u38, rfl, HJ⟩
    go_wp2
    simp only [Exit.jump]
    refine bodyPost_ret (P := Tryd.prog) (fn := Tryd.f53) (v := .int .i64 (i : Int)) ?_ rfl ⟨⟨_, rfl, .inr ⟨i, rfl, HJ.out.1, HJ.out.2.1, HJ.out.2.2.1⟩⟩, HJ.out.2.2.2⟩
    simp [results, Tryd.results53, go_sem]
  go_wp2_with (first | (go_at_call 64; refine Calls.mono SD.out ?_; rintro e w1 ⟨p, s, mv, rv, pv, wv, tv, ov, rs, rfl, hs1, hsr1, _, hall1⟩; have SE1 := hid hs1; have SR1 := hid hsr1; have HA1 := hid hall1; have c1 := hs1.cell; have hp1 := hs1.size; clear hs1 hsr1 hall1))
  have PC : Hid (∀ x y, Leans l x y → (s.part y = s.part x ↔ (y = x ∨ PureNet.Way l y x))) := fun x y hxy => SR1.out.circle (fun z hz => HA1.out z (by rw [HN.out]; exact hz)) (fun i g hg => (HL.out i g hg).2) hxy
  clear c1 hp1 SD
  go_loopw [14] (fun iv W => ∃ i : Nat, i ≤ n ∧ iv = .int .i64 (i : Int) ∧ Hid ((∀ j, j < i → ¬ PureNet.Way l j j) ∧ Below w1.heap.size w1 W)) (fun iv _ => n - (intOf iv).toNat)
  case atStart => exact ⟨0, Nat.zero_le _, rfl, fun j hj => by omega, Below.refl _ _⟩
  case round =>
    obtain ⟨i, hi, rfl, HB0⟩ := hrel
    have HB := hid HB0.out.2
    have HFR := hid HB0.out.1
    clear HB0
    by_cases hlt : i < n
    · obtain ⟨g, hg⟩ : ∃ g, l[i]? = some g := ⟨_, List.getElem?_eq_getElem (by rw [← HN.out]; exact hlt)⟩
      have bw : Below w.heap.size w wr := SE1.out.below.trans (HB.out.mono SE1.out.below.size)
      obtain ⟨gb, go, rfl, hgb, a0, a1, a2, a3, a4, a5⟩ := gate_at (HC.out.below bw) i g hg
      obtain ⟨gp, cp, hpv, _, hgps, _⟩ := SE1.out.row (i := 2) (by omega) rfl hlt
      subst hpv
      have PL := hid (pleans_any g wr (KD.out.on bw) (HL.out i g hg).1 (fun a ha => ((HL.out i g hg).2 a ha).1))
      have HG := hid hg
      have BW := hid bw
      clear hg bw
      go_wp2_with (first | (go_at_call 81; refine Calls.mono PL.out ?_; rintro e w3 ⟨lv, lr, rfl, hlf, hlo, b3⟩; have LO := hid hlo; have B3 := hid b3; obtain ⟨lq, hlq⟩ : ∃ lq, lq = ((leansOn g).map Int.toNat).length := ⟨_, rfl⟩; obtain ⟨sq, cq, hlv, hlq2, hlr⟩ := hlf; rw [← hlq] at hlv; subst hlv; have LR := hid hlr; have LQ := hid hlq; have hlq3 : lq ≤ 3 := (by rw [hlq, List.length_map]; unfold leansOn; split; (· simp); (· split <;> simp)); clear hlo b3 hlq hlq2 hlr))
      go_loopw [23] (fun kv W => ∃ k : Nat, k ≤ lq ∧ kv = .int .i64 (k : Int) ∧ Hid ((∀ (j y : Nat), j < k → ((leansOn g).map Int.toNat)[j]? = some y → s.part y ≠ s.part i) ∧ Below w3.heap.size w3 W)) (fun kv _ => lq - (intOf kv).toNat)
      case atStart => exact ⟨0, Nat.zero_le _, rfl, fun j y hj => by omega, Below.refl _ _⟩
      case round =>
        obtain ⟨k, hk, rfl, HB9⟩ := hrel
        have HB4 := hid HB9.out.2
        have HNO := hid HB9.out.1
        clear HB9
        by_cases hkl : k < lq
        · obtain ⟨y, hy⟩ : ∃ y, ((leansOn g).map Int.toNat)[k]? = some y := ⟨_, List.getElem?_eq_getElem (by rw [← LQ.out]; exact hkl)⟩
          obtain ⟨gl, kl, rfl, hgl, hrow⟩ := LR.out (fun e => by rw [e] at hy; simp at hy)
          have hly : Leans l i y := by
            refine ⟨g, HG.out, ?_⟩
            have hy2 := hy
            rw [List.getElem?_map, Option.map_eq_some_iff] at hy2
            obtain ⟨a, ha, rfl⟩ := hy2
            have hm := List.mem_of_getElem? ha
            rw [Int.toNat_of_nonneg ((HL.out i g HG.out).2 a hm).1]
            exact hm
          have hyn : y < n := by
            obtain ⟨g2, hg2, hm⟩ := hly
            have := ((HL.out i g2 hg2).2 _ hm).2
            rw [HN.out]
            omega
          have HPI := hid (PC.out i y hly)
          have HLY := hid hly
          have HY := hid hy
          obtain ⟨g5, c5, hv5, _, hg5, hc5, _⟩ := own_cell LO.out (hrow k y hy)
          rw [hv5] at hgl
          cases hgl
          have hcy : wr.cell? ⟨g5, kl + k, none⟩ = some (.int .i64 (y : Int)) := below_cell HB4.out hg5 hc5
          have bx : Below w1.heap.size w1 wr := HB.out.trans ((B3.out.trans (HB4.out.mono B3.out.size)).mono HB.out.size)
          obtain ⟨_, _, e9, _, _, hpy, _⟩ := (SE1.out.on bx).row (i := 2) (by omega) rfl hyn
          simp only [Value.slice.injEq, Option.some.injEq, Addr.mk.injEq, and_true, true_and] at e9
          obtain ⟨rfl, rfl⟩ := e9
          obtain ⟨_, _, e9, _, _, hpi, _⟩ := (SE1.out.on bx).row (i := 2) (by omega) rfl hlt
          simp only [Value.slice.injEq, Option.some.injEq, Addr.mk.injEq, and_true, true_and] at e9
          obtain ⟨rfl, rfl⟩ := e9
          have hgls : g5 < wr.heap.size := Nat.lt_of_lt_of_le hg5 HB4.out.size
          have BX := hid bx
          clear hy hrow hly hv5 hc5 bx
          by_cases hpe : s.part y = s.part i
          · have hpne : (s.part y == s.part i) = true := by rw [hpe]; exact beq_self_eq_true _
            have HPE := hid hpe
            clear hpe
            go_wp2
            refine wp_region_noPanic ?_
            refine wp_region_held_drew (S := fun W => W.cell? ⟨gp, y, none⟩ = some (.int .i64 (s.part y)) ∧ W.cell? ⟨gp, i, none⟩ = some (.int .i64 (s.part i))) (by kernel_rfl) ⟨hpy, hpi⟩ (fun hHeld => ?_)
            refine wpAnyH_take (i := 0) (v := ?_) (by simp only [List.getElem?_toArray, List.getElem?_cons_zero]; rfl) (by kernel_rfl) (by kernel_rfl) (by kernel_rfl) (fun _ _ _ h => h) (Or.inl ⟨by rfl, ?_⟩) (by assumption) ?_
            rotate_left 1
            · intro w hSw; (try dsimp only at hSw); go_simp; (try with_reducible rfl)
            try simp only [Act.put, List.setIfInBounds_toArray, List.set_cons_zero, List.set_cons_succ]
            refine wpAnyH_take (i := 1) (v := ?_) (by simp only [List.getElem?_toArray, List.getElem?_cons_succ, List.getElem?_cons_zero]; rfl) (by kernel_rfl) (by kernel_rfl) (by kernel_rfl) (fun _ _ _ h => h) (Or.inl ⟨by rfl, ?_⟩) (by assumption) ?_
            rotate_left 1
            · intro w hSw; (try dsimp only at hSw); go_simp; (try with_reducible rfl)
            try simp only [Act.put, List.setIfInBounds_toArray, List.set_cons_zero, List.set_cons_succ]
            refine wpAnyH_take (i := 2) (v := .pointer (some ⟨gp, y, none⟩)) (by simp only [List.getElem?_toArray, List.getElem?_cons_succ, List.getElem?_cons_zero]; rfl) (by kernel_rfl) (by kernel_rfl) (by kernel_rfl) (fun _ _ _ h => h) (Or.inl ⟨by rfl, ?_⟩) (by assumption) ?_
            · intro w hSw; (try dsimp only at hSw); (try go_simp); ((try rw [if_pos (by omega)]); (try simp); (try (intro h9; omega)))
            try simp only [Act.put, List.setIfInBounds_toArray, List.set_cons_zero, List.set_cons_succ]
            refine wpAnyH_take (i := 3) (v := ?_) (by simp only [List.getElem?_toArray, List.getElem?_cons_succ, List.getElem?_cons_zero]; rfl) (by kernel_rfl) (by kernel_rfl) (by kernel_rfl) (fun _ _ _ h => h) (Or.inl ⟨by rfl, ?_⟩) (by assumption) ?_
            rotate_left 1
            · intro w hSw; (try dsimp only at hSw); go_simp; (try with_reducible rfl)
            try simp only [Act.put, List.setIfInBounds_toArray, List.set_cons_zero, List.set_cons_succ]
            refine wpAnyH_take (i := 4) (v := ?_) (by simp only [List.getElem?_toArray, List.getElem?_cons_succ, List.getElem?_cons_zero]; rfl) (by kernel_rfl) (by kernel_rfl) (by kernel_rfl) (fun _ _ _ h => h) (Or.inl ⟨by rfl, ?_⟩) (by assumption) ?_
            rotate_left 1
            · intro w hSw; (try dsimp only at hSw); go_simp; (try with_reducible rfl)
            try simp only [Act.put, List.setIfInBounds_toArray, List.set_cons_zero, List.set_cons_succ]
            refine wpAnyH_take (i := 5) (v := ?_) (by simp only [List.getElem?_toArray, List.getElem?_cons_succ, List.getElem?_cons_zero]; rfl) (by kernel_rfl) (by kernel_rfl) (by kernel_rfl) (fun _ _ _ h => h) (Or.inl ⟨by rfl, ?_⟩) (by assumption) ?_
            rotate_left 1
            · intro w hSw; (try dsimp only at hSw); go_simp; (try with_reducible rfl)
            try simp only [Act.put, List.setIfInBounds_toArray, List.set_cons_zero, List.set_cons_succ]
            refine wpAnyH_take (i := 6) (v := .pointer (some ⟨gp, i, none⟩)) (by simp only [List.getElem?_toArray, List.getElem?_cons_succ, List.getElem?_cons_zero]; rfl) (by kernel_rfl) (by kernel_rfl) (by kernel_rfl) (fun _ _ _ h => h) (Or.inl ⟨by rfl, ?_⟩) (by assumption) ?_
            · intro w hSw; (try dsimp only at hSw); (try go_simp); ((try rw [if_pos (by omega)]); (try simp); (try (intro h9; omega)))
            try simp only [Act.put, List.setIfInBounds_toArray, List.set_cons_zero, List.set_cons_succ]
            refine wpAnyH_take (i := 7) (v := ?_) (by simp only [List.getElem?_toArray, List.getElem?_cons_succ, List.getElem?_cons_zero]; rfl) (by kernel_rfl) (by kernel_rfl) (by kernel_rfl) (fun _ _ _ h => h) (Or.inl ⟨by rfl, ?_⟩) (by assumption) ?_
            rotate_left 1
            · intro w hSw; (try dsimp only at hSw); go_simp; (try with_reducible rfl)
            try simp only [Act.put, List.setIfInBounds_toArray, List.set_cons_zero, List.set_cons_succ]
            refine wpAnyH_take (i := 8) (v := .bool true) (by simp only [List.getElem?_toArray, List.getElem?_cons_succ, List.getElem?_cons_zero]; rfl) (by kernel_rfl) (by kernel_rfl) (by kernel_rfl) (fun _ _ _ h => h) (Or.inl ⟨by rfl, ?_⟩) (by assumption) ?_
            · intro w hSw; (try dsimp only at hSw); (try go_simp); ((try rw [hpne]); (try simp))
            try simp only [Act.put, List.setIfInBounds_toArray, List.set_cons_zero, List.set_cons_succ]
            refine wpAnyH_done (by kernel_rfl) ?_ _
            refine NoPanic.normal ?_
            go_wp2
            go_step3
            refine ⟨rfl, i, _, _, _, _, _, _, _, _, _, _, _, _, _, _, _, _, _, _, _, _, _, _, _, _, _, _, _, _, _, _, _, _, _, _, _, _, _, _, rfl, ?_⟩
            refine ⟨by rw [← HN.out]; exact hlt, ?_, HFR.out, ?_⟩
            · rcases HPI.out.1 HPE.out with e | e
              · have := HLY.out
                rw [e] at this
                exact .one this
              · exact .more HLY.out e
            · exact (SE1.out.below.trans (BX.out.mono SE1.out.below.size)).trans (Below.refl _ _).drew
          · have hpne : (s.part y == s.part i) = false := beq_eq_false_iff_ne.2 hpe
            have HPE := hid hpe
            clear hpe
            go_wp2
            refine wp_region_noPanic ?_
            refine wp_region_held_drew (S := fun W => W.cell? ⟨gp, y, none⟩ = some (.int .i64 (s.part y)) ∧ W.cell? ⟨gp, i, none⟩ = some (.int .i64 (s.part i))) (by kernel_rfl) ⟨hpy, hpi⟩ (fun hHeld => ?_)
            refine wpAnyH_take (i := 0) (v := ?_) (by simp only [List.getElem?_toArray, List.getElem?_cons_zero]; rfl) (by kernel_rfl) (by kernel_rfl) (by kernel_rfl) (fun _ _ _ h => h) (Or.inl ⟨by rfl, ?_⟩) (by assumption) ?_
            rotate_left 1
            · intro w hSw; (try dsimp only at hSw); go_simp; (try with_reducible rfl)
            try simp only [Act.put, List.setIfInBounds_toArray, List.set_cons_zero, List.set_cons_succ]
            refine wpAnyH_take (i := 1) (v := ?_) (by simp only [List.getElem?_toArray, List.getElem?_cons_succ, List.getElem?_cons_zero]; rfl) (by kernel_rfl) (by kernel_rfl) (by kernel_rfl) (fun _ _ _ h => h) (Or.inl ⟨by rfl, ?_⟩) (by assumption) ?_
            rotate_left 1
            · intro w hSw; (try dsimp only at hSw); go_simp; (try with_reducible rfl)
            try simp only [Act.put, List.setIfInBounds_toArray, List.set_cons_zero, List.set_cons_succ]
            refine wpAnyH_take (i := 2) (v := .pointer (some ⟨gp, y, none⟩)) (by simp only [List.getElem?_toArray, List.getElem?_cons_succ, List.getElem?_cons_zero]; rfl) (by kernel_rfl) (by kernel_rfl) (by kernel_rfl) (fun _ _ _ h => h) (Or.inl ⟨by rfl, ?_⟩) (by assumption) ?_
            · intro w hSw; (try dsimp only at hSw); (try go_simp); ((try rw [if_pos (by omega)]); (try simp); (try (intro h9; omega)))
            try simp only [Act.put, List.setIfInBounds_toArray, List.set_cons_zero, List.set_cons_succ]
            refine wpAnyH_take (i := 3) (v := ?_) (by simp only [List.getElem?_toArray, List.getElem?_cons_succ, List.getElem?_cons_zero]; rfl) (by kernel_rfl) (by kernel_rfl) (by kernel_rfl) (fun _ _ _ h => h) (Or.inl ⟨by rfl, ?_⟩) (by assumption) ?_
            rotate_left 1
            · intro w hSw; (try dsimp only at hSw); go_simp; (try with_reducible rfl)
            try simp only [Act.put, List.setIfInBounds_toArray, List.set_cons_zero, List.set_cons_succ]
            refine wpAnyH_take (i := 4) (v := ?_) (by simp only [List.getElem?_toArray, List.getElem?_cons_succ, List.getElem?_cons_zero]; rfl) (by kernel_rfl) (by kernel_rfl) (by kernel_rfl) (fun _ _ _ h => h) (Or.inl ⟨by rfl, ?_⟩) (by assumption) ?_
            rotate_left 1
            · intro w hSw; (try dsimp only at hSw); go_simp; (try with_reducible rfl)
            try simp only [Act.put, List.setIfInBounds_toArray, List.set_cons_zero, List.set_cons_succ]
            refine wpAnyH_take (i := 5) (v := ?_) (by simp only [List.getElem?_toArray, List.getElem?_cons_succ, List.getElem?_cons_zero]; rfl) (by kernel_rfl) (by kernel_rfl) (by kernel_rfl) (fun _ _ _ h => h) (Or.inl ⟨by rfl, ?_⟩) (by assumption) ?_
            rotate_left 1
            · intro w hSw; (try dsimp only at hSw); go_simp; (try with_reducible rfl)
            try simp only [Act.put, List.setIfInBounds_toArray, List.set_cons_zero, List.set_cons_succ]
            refine wpAnyH_take (i := 6) (v := .pointer (some ⟨gp, i, none⟩)) (by simp only [List.getElem?_toArray, List.getElem?_cons_succ, List.getElem?_cons_zero]; rfl) (by kernel_rfl) (by kernel_rfl) (by kernel_rfl) (fun _ _ _ h => h) (Or.inl ⟨by rfl, ?_⟩) (by assumption) ?_
            · intro w hSw; (try dsimp only at hSw); (try go_simp); ((try rw [if_pos (by omega)]); (try simp); (try (intro h9; omega)))
            try simp only [Act.put, List.setIfInBounds_toArray, List.set_cons_zero, List.set_cons_succ]
            refine wpAnyH_take (i := 7) (v := ?_) (by simp only [List.getElem?_toArray, List.getElem?_cons_succ, List.getElem?_cons_zero]; rfl) (by kernel_rfl) (by kernel_rfl) (by kernel_rfl) (fun _ _ _ h => h) (Or.inl ⟨by rfl, ?_⟩) (by assumption) ?_
            rotate_left 1
            · intro w hSw; (try dsimp only at hSw); go_simp; (try with_reducible rfl)
            try simp only [Act.put, List.setIfInBounds_toArray, List.set_cons_zero, List.set_cons_succ]
            refine wpAnyH_take (i := 8) (v := .bool false) (by simp only [List.getElem?_toArray, List.getElem?_cons_succ, List.getElem?_cons_zero]; rfl) (by kernel_rfl) (by kernel_rfl) (by kernel_rfl) (fun _ _ _ h => h) (Or.inl ⟨by rfl, ?_⟩) (by assumption) ?_
            · intro w hSw; (try dsimp only at hSw); (try go_simp); ((try rw [hpne]); (try simp))
            try simp only [Act.put, List.setIfInBounds_toArray, List.set_cons_zero, List.set_cons_succ]
            refine wpAnyH_done (by kernel_rfl) ?_ _
            refine NoPanic.normal ?_
            go_wp2
            refine ⟨⟨k + 1, hkl, by go_num, fun j z hj hz => ?_, HB4.out.trans (Below.refl _ _).drew⟩, by simp [intOf]; omega⟩
            by_cases e : j = k
            · rw [e, HY.out] at hz
              rw [← Option.some.inj hz]
              exact HPE.out
            · exact HNO.out j z (by omega) hz
        · have bx : Hid (Below w1.heap.size w1 wr) := HB.out.trans ((B3.out.trans (HB4.out.mono B3.out.size)).mono HB.out.size)
          have HW : Hid (¬ PureNet.Way l i i) := fun hw => by
            obtain ⟨j, hj, hj2⟩ := way_first hw
            have hpj := (PC.out i j hj).2 hj2
            obtain ⟨g2, hg2, hm⟩ := hj
            rw [HG.out] at hg2
            obtain rfl := Option.some.inj hg2
            obtain ⟨q, hq, e⟩ := List.getElem_of_mem hm
            refine HNO.out q j (by have := LQ.out; rw [List.length_map] at this; omega) ?_ hpj
            rw [List.getElem?_map, List.getElem?_eq_getElem hq, e]
            rfl
          go_wp2
          refine ⟨⟨i + 1, hlt, by go_num, fun j hj => ?_, bx.out⟩, by simp [intOf]; omega⟩
          by_cases e : j = i
          · rw [e]; exact HW.out
          · exact HFR.out j (by omega)
    · have bw : Hid (Below w.heap.size w wr) := SE1.out.below.trans (HB.out.mono SE1.out.below.size)
      have HW : Hid (∀ j, ¬ PureNet.Way l j j) := fun j hw => by
        have hj : j < n := by
          obtain ⟨q, hq, _⟩ := way_first hw
          rw [HN.out]
          exact leans_lt hq
        exact HFR.out j (by omega) hw
      go_wp2
      simp only [Exit.jump]
      refine bodyPost_ret (P := Tryd.prog) (fn := Tryd.f53) (v := .int .i64 (-1)) ?_ rfl ⟨⟨_, rfl, .inl ⟨rfl, HW.out⟩⟩, bw.out⟩
      simp [results, Tryd.results53, go_sem]
end Go.Proofs.YtfmmmhcpdinhgaaDoor
/-
  The program's Formed, of any value.
-/
namespace Go.Proofs.YtfmmmhcpdinhgaaDoor
open Go.RowKit Go.Deep PureNet
set_option maxRecDepth 100000

theorem placed_lines {c : Net} (h : placedB c = true) : (∀ (i : Nat) (g : Ga), c.gates[i]? = some g → lineB g c.gates.length = true) ∧ ∀ o ∈ c.outs, 0 ≤ o ∧ o < (c.gates.length : Int) := by
  simp only [placedB, Bool.and_eq_true, List.all_eq_true, belowB, decide_eq_true_eq] at h
  exact ⟨fun i g hg => h.1 g (List.mem_of_getElem? hg), h.2⟩
theorem formed_of {c : Net} (h1 : c.gates.length ≤ 65536 ∧ c.outs.length ≤ 65536) (h2 : NamedIs c) (h3 : placedB c = true) (h4 : ∀ i, ¬ PureNet.Way c.gates i i) : PureNet.Formed c where
  name := h2.name
  few := h1.1
  fewOuts := h1.2
  lines := fun i g hg => ⟨h2.names g (List.mem_of_getElem? hg), (placed_lines h3).1 i g hg⟩
  apart := fun i j g h hi hj e => h2.apart i j g h (List.getElem?_eq_some_iff.1 hi).1 (List.getElem?_eq_some_iff.1 hj).1 hi hj e
  outs := (placed_lines h3).2
  free := h4

set_option maxHeartbeats 2000000 in
theorem formed_gen (c : Net) (sg so : Option Addr) (cg co : Nat) (w : World) (hc : CirAt w c sg so) (hkd : KindsAt w) (hn : c.name.size ≤ 140737488351232) (hns : ∀ g ∈ c.gates, g.name.size ≤ 140737488351232) (hl : c.gates.length ≤ 1099511627776) (hlo : c.outs.length ≤ 1099511627776) :
    Calls Tryd.prog 26 #[cirV c sg cg so co] w fun e w' => FormedSays c e ∧ Below w.heap.size w w' := by
  by_cases hf : PureNet.Formed c
  · refine (formed_ok c sg so cg co w hc hkd hf).mono ?_
    rintro e w' ⟨rfl, hb⟩
    exact ⟨⟨true, rfl, ⟨fun _ => hf, fun _ => rfl⟩⟩, hb⟩
  obtain ⟨x, hx⟩ : ∃ x, x = w.alloc (Obj.cells #[Value.string c.name, Value.slice sg c.gates.length cg, Value.slice so c.outs.length co] 26) := ⟨_, rfl⟩
  have RX : Hid (x.heap[w.heap.size]? = some (.cells #[Value.string c.name, Value.slice sg c.gates.length cg, Value.slice so c.outs.length co] 26 (0, 0))) := by rw [hx]; exact heap_alloc_new w _
  have BX : Hid (Below w.heap.size w x) := by rw [hx]; exact (Below.refl _ _).alloc (Nat.le_refl _) _
  have CE : Hid (∀ W, Below x.heap.size x W → (∀ j, W.cell? ⟨w.heap.size, j, none⟩ = (#[Value.string c.name, Value.slice sg c.gates.length cg, Value.slice so c.outs.length co] : Array Value)[j]?) ∧ w.heap.size < W.heap.size) := fun W hW => by
    have h2 := (hW.block _ (Array.getElem?_eq_some_iff.1 RX.out).1).trans RX.out
    exact ⟨fun j => cell_row h2 j, (Array.getElem?_eq_some_iff.1 h2).1⟩
  have NO := hid (FormedSays.no hf)
  have C1 := hid (pwithin_any c sg so cg co x)
  have C2 : Hid (∀ W, Below x.heap.size x W → _) := fun W hW => named_any c sg so cg co W ((hc.below BX.out).below hW).gates hn hns hl
  have C3 : Hid (∀ W, Below x.heap.size x W → _) := fun W hW => placed_any c sg so cg co W ((hc.below BX.out).below hW) ((hkd.on BX.out).on hW) hl hlo
  have C4 : Hid (c.gates.length ≤ 65536 → placedB c = true → ∀ W, Below x.heap.size x W → _) := fun h1 h3 W hW => firstInCircle_gen c.gates sg cg c.gates.length W ((hc.below BX.out).below hW).gates ((hkd.on BX.out).on hW) rfl h1 (fun i g hg => ⟨lineB_kind ((placed_lines h3).1 i g hg), fun _ ha => lineB_leans ((placed_lines h3).1 i g hg) ha⟩)
  obtain ⟨d0, hb0⟩ := CE.out x (Below.refl _ _)
  have HX := hid hx
  have HNF := hid hf
  clear hx hc hkd hf hn hns hl hlo
  by_cases h1 : c.gates.length ≤ 65536 ∧ c.outs.length ≤ 65536
  rotate_left 1
  · have HB1 : Hid ((decide (c.gates.length ≤ 65536) && decide (c.outs.length ≤ 65536)) = false) := by
      show _ = _
      rw [Bool.eq_false_iff]
      intro h9
      simp only [Bool.and_eq_true, decide_eq_true_eq] at h9
      exact h1 h9
    clear h1 C2 C3 C4
    go_enter Tryd.func26, Tryd.ntmps26
    go_wp2_with (first
      | (rw [← HX.out])
      | (go_at_call 50; refine Calls.mono C1.out ?_; rintro e w1 ⟨rfl, b1⟩; rw [HB1.out]; have B1 : Hid (Below x.heap.size x w1) := b1; obtain ⟨d1, hb1⟩ := CE.out w1 B1.out; clear b1))
    go_ret
    exact ⟨NO.out, BX.out.trans (B1.out.mono BX.out.size)⟩
  have HB1 : Hid ((decide (c.gates.length ≤ 65536) && decide (c.outs.length ≤ 65536)) = true) := by
    show _ = _
    simp only [Bool.and_eq_true, decide_eq_true_eq]
    exact h1
  have H1 := hid h1
  clear h1
  by_cases h2 : NamedIs c
  rotate_left 1
  · have HB2 := hid h2
    clear h2 C3 C4
    go_enter Tryd.func26, Tryd.ntmps26
    go_wp2_with (first
      | (rw [← HX.out])
      | (go_at_call 51; refine Calls.mono (C2.out w1 B1.out) ?_; rintro e w2 ⟨⟨bb, rfl, hbb⟩, b2⟩; obtain rfl : bb = false := (Bool.eq_false_iff.2 fun h9 => HB2.out (hbb.1 h9)); have B2 : Hid (Below x.heap.size x w2) := B1.out.trans (b2.mono B1.out.size); obtain ⟨d2, hb2⟩ := CE.out w2 B2.out; clear b2 hbb)
      | (go_at_call 50; refine Calls.mono C1.out ?_; rintro e w1 ⟨rfl, b1⟩; rw [HB1.out]; have B1 : Hid (Below x.heap.size x w1) := b1; obtain ⟨d1, hb1⟩ := CE.out w1 B1.out; clear b1))
    go_ret
    exact ⟨NO.out, BX.out.trans (B2.out.mono BX.out.size)⟩
  have HB2 := hid h2
  clear h2
  by_cases h3 : placedB c = true
  rotate_left 1
  · have HB3 : Hid (placedB c = false) := Bool.eq_false_iff.2 h3
    clear h3 C4
    go_enter Tryd.func26, Tryd.ntmps26
    go_wp2_with (first
      | (rw [← HX.out])
      | (go_at_call 52; refine Calls.mono (C3.out w2 B2.out) ?_; rintro e w3 ⟨rfl, b3⟩; rw [HB3.out]; have B3 : Hid (Below x.heap.size x w3) := B2.out.trans (b3.mono B2.out.size); obtain ⟨d3, hb3⟩ := CE.out w3 B3.out; clear b3)
      | (go_at_call 51; refine Calls.mono (C2.out w1 B1.out) ?_; rintro e w2 ⟨⟨bb, rfl, hbb⟩, b2⟩; obtain rfl : bb = true := (hbb.2 HB2.out); have B2 : Hid (Below x.heap.size x w2) := B1.out.trans (b2.mono B1.out.size); obtain ⟨d2, hb2⟩ := CE.out w2 B2.out; clear b2 hbb)
      | (go_at_call 50; refine Calls.mono C1.out ?_; rintro e w1 ⟨rfl, b1⟩; rw [HB1.out]; have B1 : Hid (Below x.heap.size x w1) := b1; obtain ⟨d1, hb1⟩ := CE.out w1 B1.out; clear b1))
    go_ret
    exact ⟨NO.out, BX.out.trans (B3.out.mono BX.out.size)⟩
  have HB3 : Hid (placedB c = true) := h3
  have CR : Hid (∀ r, CircleIs c.gates r → (r == -1) = false) := fun r hr => by
    rcases hr with ⟨_, hr⟩ | ⟨i, rfl, _⟩
    · exact absurd (formed_of H1.out HB2.out h3 hr) HNF.out
    · exact beq_eq_false_iff_ne.2 (by omega)
  have C5 := hid (C4.out H1.out.1 h3)
  clear h3 C4
  have hgo : Calls Tryd.prog 26 #[cirV c sg cg so co] w fun e w' => FormedSays c e ∧ Below w.heap.size w w' := by
    go_enter Tryd.func26, Tryd.ntmps26
    go_wp2_with (first
      | (rw [← HX.out])
      | (go_at_call 53; refine Calls.mono (C5.out w3 B3.out) ?_; rintro e w4 ⟨⟨r, rfl, hr⟩, b4⟩; have hr2 : (r == -1) = false := (CR.out r hr); have B4 : Hid (Below x.heap.size x w4) := B3.out.trans (b4.mono B3.out.size); clear b4 hr)
      | (go_at_call 52; refine Calls.mono (C3.out w2 B2.out) ?_; rintro e w3 ⟨rfl, b3⟩; rw [HB3.out]; have B3 : Hid (Below x.heap.size x w3) := B2.out.trans (b3.mono B2.out.size); obtain ⟨d3, hb3⟩ := CE.out w3 B3.out; clear b3)
      | (go_at_call 51; refine Calls.mono (C2.out w1 B1.out) ?_; rintro e w2 ⟨⟨bb, rfl, hbb⟩, b2⟩; obtain rfl : bb = true := (hbb.2 HB2.out); have B2 : Hid (Below x.heap.size x w2) := B1.out.trans (b2.mono B1.out.size); obtain ⟨d2, hb2⟩ := CE.out w2 B2.out; clear b2 hbb)
      | (go_at_call 50; refine Calls.mono C1.out ?_; rintro e w1 ⟨rfl, b1⟩; rw [HB1.out]; have B1 : Hid (Below x.heap.size x w1) := b1; obtain ⟨d1, hb1⟩ := CE.out w1 B1.out; clear b1))
    go_ret
    exact ⟨NO.out, BX.out.trans (B4.out.mono BX.out.size)⟩
  exact hgo
end Go.Proofs.YtfmmmhcpdinhgaaDoor
/-
  A search for all that a line leans on: plain mathematics.
-/
namespace PureNet
set_option maxRecDepth 100000

/-- what is known while a cone is searched. -/
structure Con (l : List Ga) (fr : Nat) (met : List Bool) (work : List Nat) (cur : Nat → List Int → Prop) : Prop where
  len : met.length = l.length
  root : met[fr]? = some true
  reach : ∀ x, met[x]? = some true → x = fr ∨ Way l fr x
  work_ : ∀ x ∈ work, met[x]? = some true
  closed : ∀ x, met[x]? = some true → x ∉ work → ∀ g, l[x]? = some g → cur x (leansOn g) ∨ ∀ a ∈ leansOn g, met[a.toNat]? = some true
/-- one line, of whose operands the first t have been seen. -/
def had (met : List Bool) (i t : Nat) : Nat → List Int → Prop := fun x asx => x = i ∧ ∀ (k : Nat) (a : Int), k < t → asx[k]? = some a → met[a.toNat]? = some true
theorem Con.start {l : List Ga} {fr : Nat} (hfr : fr < l.length) : Con l fr ((List.replicate l.length false).set fr true) [fr] nobody := by
  have hset : ∀ x, ((List.replicate l.length false).set fr true)[x]? = some true → x = fr := fun x h => by
    rw [List.getElem?_set] at h
    by_cases e : fr = x
    · exact e.symm
    · rw [if_neg e, List.getElem?_replicate] at h
      split at h <;> simp at h
  have hroot : ((List.replicate l.length false).set fr true)[fr]? = some true := by rw [List.getElem?_set_self (by simpa using hfr)]
  refine ⟨by simp, hroot, fun x hx => .inl (hset x hx), fun x hx => ?_, fun x hx hw => ?_⟩
  · obtain rfl : x = fr := by simpa using hx
    exact hroot
  · exact absurd (by rw [hset x hx]; simp) hw
theorem Con.pop {l : List Ga} {fr i : Nat} {met : List Bool} {work : List Nat} (h : Con l fr met (work ++ [i]) nobody) : Con l fr met work (had met i 0) ∧ met[i]? = some true := by
  refine ⟨⟨h.len, h.root, h.reach, fun x hx => h.work_ x (List.mem_append_left _ hx), fun x hx hw g hg => ?_⟩, h.work_ i (by simp)⟩
  by_cases hxi : x = i
  · exact .inl ⟨hxi, fun k a hk => by omega⟩
  · rcases h.closed x hx (by simp [hw, hxi]) g hg with h1 | h1
    · exact h1.elim
    · exact .inr h1
theorem Con.pass {l : List Ga} {fr i t : Nat} {met : List Bool} {work : List Nat} (h : Con l fr met work (had met i t)) {g : Ga} {a : Int} (hg : l[i]? = some g) (ha : (leansOn g)[t]? = some a) (hm : met[a.toNat]? = some true) : Con l fr met work (had met i (t + 1)) := by
  refine ⟨h.len, h.root, h.reach, h.work_, fun x hx hw g' hg' => ?_⟩
  rcases h.closed x hx hw g' hg' with ⟨rfl, h1⟩ | h1
  · rw [hg] at hg'
    cases hg'
    refine .inl ⟨rfl, fun k a' hk ha' => ?_⟩
    by_cases hkt : k < t
    · exact h1 k a' hkt ha'
    · obtain rfl : k = t := by omega
      rw [ha] at ha'
      cases ha'
      exact hm
  · exact .inr h1
theorem Con.meet {l : List Ga} {fr i t : Nat} {met : List Bool} {work : List Nat} (h : Con l fr met work (had met i t)) {g : Ga} {a : Int} (hg : l[i]? = some g) (ha : (leansOn g)[t]? = some a) (ha0 : 0 ≤ a) (hi : met[i]? = some true) (hlt : a.toNat < l.length) : Con l fr (met.set a.toNat true) (work ++ [a.toNat]) (had (met.set a.toNat true) i (t + 1)) := by
  have hw : Way l fr a.toNat := by
    have hl : Leans l i a.toNat := ⟨g, hg, by rw [Int.toNat_of_nonneg ha0]; exact List.mem_of_getElem? ha⟩
    rcases h.reach i hi with e | hr
    · rw [← e]; exact .one hl
    · exact way_snoc hr hl
  have hset : ∀ x, (met.set a.toNat true)[x]? = some true ↔ (x = a.toNat ∨ met[x]? = some true) := fun x => by
    rw [List.getElem?_set]
    by_cases hx : a.toNat = x
    · rw [if_pos hx, if_pos (by rw [h.len]; exact hlt)]
      simp [hx]
    · rw [if_neg hx]
      exact ⟨.inr, fun h => h.elim (fun e => absurd e.symm hx) id⟩
  refine ⟨by rw [List.length_set]; exact h.len, (hset fr).2 (.inr h.root), fun x hx => ?_, fun x hx => ?_, fun x hx hnw g' hg' => ?_⟩
  · rcases (hset x).1 hx with e | e
    · rw [e]; exact .inr hw
    · exact h.reach x e
  · rcases List.mem_append.1 hx with hx | hx
    · exact (hset x).2 (.inr (h.work_ x hx))
    · exact (hset x).2 (.inl (by simpa using hx))
  · have hxa : x ≠ a.toNat := fun e => hnw (by simp [e])
    have hxm : met[x]? = some true := ((hset x).1 hx).resolve_left hxa
    rcases h.closed x hxm (fun hm => hnw (List.mem_append_left _ hm)) g' hg' with ⟨rfl, h1⟩ | h1
    · rw [hg] at hg'
      cases hg'
      refine .inl ⟨rfl, fun k a' hk ha' => ?_⟩
      by_cases hkt : k < t
      · exact (hset _).2 (.inr (h1 k a' hkt ha'))
      · obtain rfl : k = t := by omega
        rw [ha] at ha'
        cases ha'
        exact (hset _).2 (.inl rfl)
    · exact .inr fun b hb => (hset _).2 (.inr (h1 b hb))
theorem Con.done {l : List Ga} {fr i t : Nat} {met : List Bool} {work : List Nat} (h : Con l fr met work (had met i t)) {g : Ga} (hg : l[i]? = some g) (ht : t = (leansOn g).length) : Con l fr met work nobody := by
  refine ⟨h.len, h.root, h.reach, h.work_, fun x hx hw g' hg' => .inr ?_⟩
  rcases h.closed x hx hw g' hg' with ⟨rfl, h1⟩ | h1
  · rw [hg] at hg'
    cases hg'
    intro a ha
    obtain ⟨k, hk, e⟩ := List.getElem_of_mem ha
    exact h1 k a (by omega) (by rw [List.getElem?_eq_getElem hk, e])
  · exact h1
theorem Con.fin {l : List Ga} {fr : Nat} {met : List Bool} (h : Con l fr met [] nobody) (x : Nat) : met[x]? = some true ↔ (x < l.length ∧ (x = fr ∨ Way l fr x)) := by
  have step : ∀ i j, Leans l i j → met[i]? = some true → met[j]? = some true := fun i j ⟨g, hg, hm⟩ hi => by
    rcases h.closed i hi (by simp) g hg with h1 | h1
    · exact h1.elim
    · exact h1 _ hm
  have far : ∀ i j, Way l i j → met[i]? = some true → met[j]? = some true := fun i j hw => by
    induction hw using PureNet.Way.ind with
    | one h1 => exact step _ _ h1
    | more h1 _ ih => exact fun hi => ih (step _ _ h1 hi)
  constructor
  · intro hx
    exact ⟨by rw [← h.len]; exact (List.getElem?_eq_some_iff.1 hx).1, h.reach x hx⟩
  · rintro ⟨_, e | hw⟩
    · rw [e]; exact h.root
    · exact far _ _ hw h.root
end PureNet
/-
  The document's own Cone.
-/
namespace Go.Proofs.YtfmmmhcpdinhgaaDoor
open Go.RowKit Go.Deep PureNet ShfKit
set_option maxRecDepth 100000

/-- the places that are marked, of the first k. -/
def markedTo (met : List Bool) (k : Nat) : List Nat := (List.range k).filter fun x => decide (met[x]? = some true)
theorem markedTo_succ (met : List Bool) (k : Nat) : markedTo met (k + 1) = markedTo met k ++ (if met[k]? = some true then [k] else []) := by
  unfold markedTo
  rw [List.range_succ, List.filter_append]
  congr 1
  by_cases h : met[k]? = some true <;> simp [h]
theorem markedTo_len (met : List Bool) (k : Nat) : (markedTo met k).length ≤ k := Nat.le_trans (List.length_filter_le _ _) (by simp)
/-- what Cone answers. -/
def ConeIs (c : Net) (p : Int) (w : World) (e : Ending) (w' : World) : Prop :=
  (¬ PureNet.Formed c ∧ e = .returned (.tuple #[.slice none 0 0, .int .i64 144])) ∨
  (PureNet.Formed c ∧ ¬ (0 ≤ p ∧ p < (c.gates.length : Int)) ∧ e = .returned (.tuple #[.slice none 0 0, .int .i64 1])) ∨
  (PureNet.Formed c ∧ 0 ≤ p ∧ p < (c.gates.length : Int) ∧ ∃ (v : Value) (met : List Bool), met.length = c.gates.length ∧ (∀ x : Nat, met[x]? = some true ↔ (x < c.gates.length ∧ (x = p.toNat ∨ PureNet.Way c.gates p.toNat x))) ∧ e = .returned (.tuple #[v, .int .i64 0]) ∧ w'.ownsRow w.heap.size 3 1 v (markedTo met met.length).length (placesV (markedTo met met.length)))

set_option maxHeartbeats 2000000 in
set_option maxRecDepth 100000 in
theorem rcone_any (c : Net) (sg so : Option Addr) (cg co : Nat) (p : Int) (w : World) (hc : CirAt w c sg so) (hn : c.name.size ≤ 140737488351232) (hns : ∀ g ∈ c.gates, g.name.size ≤ 140737488351232) (hl : c.gates.length ≤ 1099511627776) (hlo : c.outs.length ≤ 1099511627776) :
    Calls Tryd.prog 22 #[cirV c sg cg so co, .int .i64 p] w fun e w' => ConeIs c p w e w' ∧ Below w.heap.size w w' := by
  have HC := hid hc
  obtain ⟨x, hx⟩ : ∃ x, x = w.alloc (Obj.cells #[Value.string c.name, Value.slice sg c.gates.length cg, Value.slice so c.outs.length co] 26) := ⟨_, rfl⟩
  have C0 : Hid (x.heap[w.heap.size]? = some (.cells #[Value.string c.name, Value.slice sg c.gates.length cg, Value.slice so c.outs.length co] 26 (0, 0))) := by rw [hx]; exact heap_alloc_new w _
  have BX : Hid (Below w.heap.size w x) := by rw [hx]; exact (Below.refl _ _).alloc (Nat.le_refl _) _
  have RD : Hid (∀ W, Below x.heap.size x W → (∀ j, W.cell? ⟨w.heap.size, j, none⟩ = (#[Value.string c.name, Value.slice sg c.gates.length cg, Value.slice so c.outs.length co] : Array Value)[j]?) ∧ w.heap.size < W.heap.size) := fun W hW => by
    have h2 := (hW.block _ (Array.getElem?_eq_some_iff.1 C0.out).1).trans C0.out
    exact ⟨fun j => cell_row h2 j, (Array.getElem?_eq_some_iff.1 h2).1⟩
  have FM := hid (formed_any c sg so cg co x (hc.below BX.out) hn hns hl hlo)
  obtain ⟨d0, hb0⟩ := RD.out x (Below.refl _ _)
  have HX := hid hx
  clear hc hx hns
  by_cases hf : PureNet.Formed c
  · have HFD := hid hf
    have hfew := hf.few
    obtain ⟨n, hnn⟩ : ∃ n, n = c.gates.length := ⟨_, rfl⟩
    have HN := hid hnn
    rw [← hnn] at hfew hl
    show Calls Tryd.prog 22 #[.agg #[Value.string c.name, Value.slice sg c.gates.length cg, Value.slice so c.outs.length co], .int .i64 p] w _
    simp only [cirV, ← hnn] at FM RD HX C0 d0 ⊢
    clear hf hnn
    go_enter Tryd.func22, Tryd.ntmps22
    by_cases hp0 : p < 0
    · have HNR : Hid (¬ (0 ≤ p ∧ p < (c.gates.length : Int))) := fun h => by omega
      go_wp2_with (first | (rw [← HX.out]) | (go_at_call 28; refine Calls.mono FM.out ?_; rintro e w1 ⟨⟨bb, rfl, hbb⟩, b1⟩; obtain rfl : bb = true := hbb.2 HFD.out; have B1 := hid b1; obtain ⟨d1, hb1⟩ := RD.out w1 b1; clear hbb b1))
      exact bodyPost_ret (v := .tuple #[.slice none 0 0, .int .i64 1]) (by simp [results, Tryd.results22, go_sem]) rfl ⟨.inr (.inl ⟨HFD.out, HNR.out, rfl⟩), BX.out.trans (B1.out.mono BX.out.size)⟩
    by_cases hpn : (n : Int) ≤ p
    · have HNR : Hid (¬ (0 ≤ p ∧ p < (c.gates.length : Int))) := fun h => by rw [← HN.out] at h; omega
      go_wp2_with (first | (rw [← HX.out]) | (go_at_call 28; refine Calls.mono FM.out ?_; rintro e w1 ⟨⟨bb, rfl, hbb⟩, b1⟩; obtain rfl : bb = true := hbb.2 HFD.out; have B1 := hid b1; obtain ⟨d1, hb1⟩ := RD.out w1 b1; clear hbb b1))
      exact bodyPost_ret (v := .tuple #[.slice none 0 0, .int .i64 1]) (by simp [results, Tryd.results22, go_sem]) rfl ⟨.inr (.inl ⟨HFD.out, HNR.out, rfl⟩), BX.out.trans (B1.out.mono BX.out.size)⟩
    obtain ⟨fr, rfl⟩ : ∃ fr : Nat, p = (fr : Int) := ⟨p.toNat, by omega⟩
    have hfr : fr < n := by omega
    have hmk : ∀ W : World, (Instr.makeSlice 29 (.int .i64 (n : Int)) (.int .i64 (n : Int))).run Tryd.prog W = .ok (.slice (some ⟨W.heap.size, 0, none⟩) n n) (W.alloc (.cells (madeCells #[.bool false] n) 4)) := fun W =>
      run_make_row' (P := Tryd.prog) 29 4 (.bool false) 1 Tryd.underlying29 info4 rfl .i64 .i64 n (by omega) (by omega) W
    have HMD : Hid (∀ W : World, (W.alloc (.cells (madeCells #[.bool false] n) 4)).heap[W.heap.size]? = some (.cells (bo (List.replicate n false)).toArray 4 (0, 0))) := fun W => by
      refine (heap_alloc_new W _).trans ?_
      congr 2
      apply Array.ext'
      rw [toList_madeCells_one]
      simp [bo]
    have HMC : Hid (∀ W : World, (W.alloc (.cells (madeCells #[.bool false] n) 4)).cell? ⟨W.heap.size, fr, none⟩ = some (.bool false) ∧ (W.alloc (.cells (madeCells #[.bool false] n) 4)).frozen? ⟨W.heap.size, fr, none⟩ = false) := fun W => by
      obtain ⟨h1, h2, _⟩ := bits_cell (HMD.out W) (y := fr) (b := false) (by simp [hfr])
      exact ⟨h1, h2⟩
    have hq0 : decide ((fr : Int) < 0) = false := by simp
    have hq1 : decide ((n : Int) ≤ (fr : Int)) = false := by simp; omega
    have hq2 : decide (n ≤ fr) = false := by simp; omega
    clear hp0 hpn
    go_wp2_with (first | (rw [← HX.out]) | (go_at_call 28; refine Calls.mono FM.out ?_; rintro e w1 ⟨⟨bb, rfl, hbb⟩, b1⟩; obtain rfl : bb = true := hbb.2 HFD.out; have B1 := hid b1; obtain ⟨d1, hb1⟩ := RD.out w1 b1; obtain ⟨cw0, fw0⟩ := HMC.out w1; clear hbb b1))
    obtain ⟨X, hX⟩ : ∃ X, X = (w1.alloc (.cells ((madeCells #[.bool false] n).setIfInBounds fr (.bool true)) 4)).alloc (.cells #[.int .i64 (fr : Int)] 3) := ⟨_, rfl⟩
    have HX0 : Hid (Cm w1 X ((List.replicate c.gates.length false).set fr true) (.slice (some ⟨w1.heap.size + 1, 0, none⟩) 1 1) [fr] ∧ Con c.gates fr ((List.replicate c.gates.length false).set fr true) [fr] nobody) := by
      refine ⟨⟨?_, ?_, ?_⟩, Con.start (by rw [← HN.out]; exact hfr)⟩
      · rw [hX, ← HN.out]
        refine (Below.heap_alloc _ _ _ (by simp)).trans ((heap_alloc_new w1 _).trans ?_)
        congr 2
        apply Array.ext'
        rw [Array.toList_setIfInBounds, toList_madeCells_one]
        simp [bo, List.map_set]
      · rw [hX]
        have h1 := (Fam.nil (w1.alloc (.cells ((madeCells #[.bool false] n).setIfInBounds fr (.bool true)) 4)) w1.heap.size 3 1).push (y := (.slice (some ⟨w1.heap.size + 1, 0, none⟩) 1 1, 1, placesV [fr])) ((Below.refl _ _).alloc (Nat.le_refl _) (.cells #[.int .i64 (fr : Int)] 3)) (by
          refine ⟨by simp [placesV, rowF_len], .inr ⟨w1.heap.size + 1, 1, #[.int .i64 (fr : Int)], rfl, by simp, ?_, Nat.le_refl _, by decide, ?_, ?_⟩⟩
          · have := heap_alloc_new (w1.alloc (.cells ((madeCells #[.bool false] n).setIfInBounds fr (.bool true)) 4)) (.cells #[.int .i64 (fr : Int)] 3)
            simpa using this
          · rfl
          · rfl) (by simp)
        exact h1
      · rw [hX]
        exact ((Below.refl _ _).alloc (Nat.le_refl _) _).alloc (by simp) _
    have HBU : Hid (2 * cntF ((List.replicate c.gates.length false).set fr true) + [fr].length ≤ 2 * n + 1) := by
      have h1 := cntF_set (met := List.replicate c.gates.length false) (y := fr) (by simp [← HN.out, hfr])
      have h2 : cntF (List.replicate c.gates.length false) = n := by rw [← HN.out]; simp [cntF]
      show 2 * cntF ((List.replicate c.gates.length false).set fr true) + 1 ≤ 2 * n + 1
      omega
    have HP : Hid (∀ (i : Nat) (g : Ga), c.gates[i]? = some g → ∀ a ∈ leansOn g, 0 ≤ a ∧ a < (c.gates.length : Int)) := fun i g hg a ha => lineB_leans (HFD.out.lines i g hg).2 ha
    rw [← hX]
    clear hX hmk HMD HMC cw0 fw0 hq0 hq1 hq2 d0 hb0 d1 hb1 FM
    go_loopw [8] (fun wv W => ∃ (met : List Bool) (work : List Nat), 2 * cntF met + work.length ≤ 2 * n + 1 ∧ Hid (Cm w1 W met wv work ∧ Con c.gates fr met work nobody)) (fun wv W => 2 * offs W w1.heap.size n + lenV wv)
    case atStart => exact ⟨_, _, HBU.out, HX0.out⟩
    case round =>
      obtain ⟨met, work, hbud, HR⟩ := hrel
      clear HX0 HBU
      have hml := HR.out.2.len
      obtain ⟨sw, cw, hwv⟩ := HR.out.1.shape
      subst hwv
      have BW : Hid (Below x.heap.size x wr) := B1.out.trans (HR.out.1.below.mono B1.out.size)
      obtain ⟨e0, he0⟩ := RD.out wr BW.out
      rcases List.eq_nil_or_concat work with h0 | ⟨work', i, h0⟩
      · subst h0
        have HMT : Hid (∀ x : Nat, met[x]? = some true ↔ (x < c.gates.length ∧ (x = fr ∨ PureNet.Way c.gates fr x))) := fun x => HR.out.2.fin x
        have HML : Hid (met.length = n) := by rw [Hid, hml, HN.out]
        have HM0 : Hid (wr.heap[w1.heap.size]? = some (.cells (bo met).toArray 4 (0, 0)) ∧ Fam wr w1.heap.size 3 1 [(.slice none 0 0, (markedTo met 0).length, placesV (markedTo met 0))] ∧ Below w1.heap.size w1 wr) := by
          refine ⟨HR.out.1.row, ⟨fun i y hy => ?_, fun i j y z g hy hz hij hg => ?_⟩, HR.out.1.below⟩
          · match i with
            | 0 => simp at hy; subst hy; exact World.ownsRow_nil _ _ _ _
            | i + 1 => simp at hy
          · match i with
            | 0 => simp at hy; subst hy; simp [Value.ownBlock] at hg
            | i + 1 => simp at hy
        clear HR hml e0 he0 BW hbud
        go_wp2
        go_loopw [13, 14] (fun ov iv W => ∃ k : Nat, k ≤ n ∧ iv = .int .i64 (k : Int) ∧ Hid (W.heap[w1.heap.size]? = some (.cells (bo met).toArray 4 (0, 0)) ∧ Fam W w1.heap.size 3 1 [(ov, (markedTo met k).length, placesV (markedTo met k))] ∧ Below w1.heap.size w1 W)) (fun ov iv _ => n - (intOf iv).toNat)
        case atStart => exact ⟨0, Nat.zero_le _, rfl, HM0.out⟩
        case round =>
          obtain ⟨k, hk, rfl, HR⟩ := hrel
          clear HM0
          obtain ⟨sv, cv, hsv⟩ := own_shape (HR.out.2.1.own 0 _ rfl)
          simp only at hsv
          subst hsv
          have hkl := markedTo_len met k
          have HNX := hid (markedTo_succ met k)
          obtain ⟨L, hL⟩ : ∃ L, L = markedTo met k := ⟨_, rfl⟩
          by_cases hlt : k < n
          · obtain ⟨b, hb⟩ : ∃ b, met[k]? = some b := ⟨_, List.getElem?_eq_getElem (by rw [HML.out]; exact hlt)⟩
            obtain ⟨c0, f0, l0⟩ := bits_cell HR.out.1 hb
            rw [hb] at HNX
            rw [← hL] at HNX hkl HR ⊢
            clear hL hb
            cases b with
            | true =>
              go_wp2_with (at_builtin; refine fam_app rfl _ _ rfl HR.out.2.1 HR.out.2.2 0 _ rfl (k : Int) _ _ rfl rfl rfl (by show L.length ≤ _; omega) ?_; intro sx2 cx2 w2 hf2 hb2 hk2; have HF2 := hid hf2; have HB2 := hid hb2; have HMR := hid (hk2 _ _ _ _ HR.out.1 (by decide)); clear hf2 hb2 hk2)
              refine ⟨⟨k + 1, hlt, by go_num, HMR.out, ?_, HB2.out⟩, by simp [intOf]; omega⟩
              rw [HNX.out, if_pos trivial, ← places_snoc, List.length_append, List.length_singleton]
              exact HF2.out
            | false =>
              go_wp2
              exact ⟨⟨k + 1, hlt, by go_num, HR.out.1, by rw [HNX.out, if_neg (by simp), List.append_nil]; exact HR.out.2.1, HR.out.2.2⟩, by simp [intOf]; omega⟩
          · obtain rfl : k = n := by omega
            have HFN : Hid (wr.ownsRow w.heap.size 3 1 (.slice sv (markedTo met k).length cv) (markedTo met met.length).length (placesV (markedTo met met.length)) ∧ Below w.heap.size w wr) := by
              have hb : Below w.heap.size w w1 := BX.out.trans (B1.out.mono BX.out.size)
              rw [HML.out]
              exact ⟨own_base (HR.out.2.1.own 0 _ rfl) hb.size, hb.trans (HR.out.2.2.mono hb.size)⟩
            rw [← hL] at HFN hkl HR ⊢
            clear HR hL HNX
            go_wp2
            exact bodyPost_ret (v := .tuple #[.slice sv L.length cv, .int .i64 0]) (by simp [results, Tryd.results22, go_sem]) rfl ⟨.inr (.inr ⟨HFD.out, by omega, by rw [← HN.out]; omega, _, met, by rw [HML.out, HN.out], by simpa using HMT.out, rfl, HFN.out.1⟩), HFN.out.2⟩
      · rw [List.concat_eq_append] at h0
        subst h0
        obtain ⟨gw, cw', hv, hgw, ci, hcap⟩ := HR.out.1.last
        rw [List.length_append, List.length_singleton] at hv
        simp only [Value.slice.injEq, true_and] at hv
        obtain ⟨rfl, rfl⟩ := hv
        obtain ⟨hs0, hi0⟩ := HR.out.2.pop
        have hin : i < n := by
          have := (List.getElem?_eq_some_iff.1 hi0).1
          rw [hml, ← HN.out] at this
          exact this
        obtain ⟨g, hg⟩ : ∃ g, c.gates[i]? = some g := ⟨_, List.getElem?_eq_getElem (by rw [← HN.out]; exact hin)⟩
        have hcm := HR.out.1
        rw [show (Value.slice (some ⟨gw, 0, none⟩) (work' ++ [i]).length cw) = Value.slice (some ⟨gw, 0, none⟩) (work'.length + 1) cw by simp] at hcm
        obtain ⟨b, o, rfl, hb, d0, d1, d2, d3, d4, d5⟩ := gate_at ((HC.out.gates.below BX.out).below BW.out) i g hg
        obtain ⟨a0, a1, a2, hlv, hak⟩ := leansV_form g
        have HLE := hid (fun W => leans_any g W)
        rw [hlv] at HLE
        obtain ⟨cnt, hcnt⟩ : ∃ c, c = (leansOn g).length := ⟨_, rfl⟩
        rw [← hcnt] at HLE
        have hcnt3 : cnt ≤ 3 := by rw [hcnt]; exact leans_len g
        have HCNT := hid hcnt
        have HG := hid hg
        have HAK := hid hak
        have HCM := hid hcm.cut
        have HS0 := hid hs0
        have HI0 := hid hi0
        have hoff := offs_eq hcm.row
        rw [hml, ← HN.out] at hoff
        have HOFF := hid hoff
        have hwl : (work' ++ [i]).length = work'.length + 1 := by simp
        rw [hwl] at hbud
        have hwb : work'.length ≤ 131072 := by omega
        rw [hwl]
        clear hg hlv hak hcnt HR hs0 hi0 hoff hcm hml hwl
        go_wp2_with (go_at_call 47; refine Calls.mono (HLE.out _) ?_; rintro e w2 ⟨rfl, b1⟩; have HC1 : Hid (∀ o, Cm w1 (w2.alloc o) met (.slice (some ⟨gw, 0, none⟩) work'.length cw) work') := (fun o => (HCM.out.on b1).on ((Below.refl _ _).alloc (Nat.le_refl _) o)); have HR1 : Hid (w1.heap.size < w2.heap.size) := Nat.lt_of_lt_of_le (Array.getElem?_eq_some_iff.1 HCM.out.row).1 b1.size; clear b1)
        obtain ⟨Y, hY⟩ : ∃ Y, Y = w2.alloc (Obj.cells #[Value.int IntKind.i64 a0, Value.int IntKind.i64 a1, Value.int IntKind.i64 a2] 79) := ⟨_, rfl⟩
        have HCY : Hid (Cm w1 Y met (.slice (some ⟨gw, 0, none⟩) work'.length cw) work') := by rw [hY]; exact HC1.out _
        have HRY : Hid (Y.heap[w2.heap.size]? = some (.cells #[Value.int IntKind.i64 a0, Value.int IntKind.i64 a1, Value.int IntKind.i64 a2] 79 (0, 0))) := by rw [hY]; exact heap_alloc_new w2 _
        rw [← hY]
        clear hY HC1 HLE d0 d1 d2 d3 d4 d5 HCM ci
        go_loopw [8, 12] (fun wv tv W => ∃ (t : Nat) (met1 : List Bool) (work1 : List Nat), t ≤ cnt ∧ tv = .int .i64 (t : Int) ∧ 2 * cntF met1 + work1.length ≤ 2 * cntF met + work'.length ∧ Hid (Cm w1 W met1 wv work1 ∧ Con c.gates fr met1 work1 (had met1 i t) ∧ met1[i]? = some true ∧ W.heap[w2.heap.size]? = some (.cells #[Value.int IntKind.i64 a0, Value.int IntKind.i64 a1, Value.int IntKind.i64 a2] 79 (0, 0)))) (fun _ tv _ => cnt - (intOf tv).toNat)
        case atStart => exact ⟨0, met, work', Nat.zero_le _, rfl, Nat.le_refl _, HCY.out, HS0.out, HI0.out, HRY.out⟩
        case round =>
          obtain ⟨t, met1, work1, ht, rfl, hb1, HT⟩ := hrel
          clear HCY HS0 HI0 HRY
          have hml := HT.out.2.1.len
          obtain ⟨sw, cw1, hwv⟩ := HT.out.1.shape
          subst hwv
          have hwb1 : work1.length ≤ 131073 := by omega
          by_cases htl : t < cnt
          · obtain ⟨av, hav⟩ : ∃ a, (leansOn g)[t]? = some a := ⟨_, List.getElem?_eq_getElem (by rw [← HCNT.out]; exact htl)⟩
            obtain ⟨av0, av1⟩ := HP.out i g HG.out av (List.mem_of_getElem? hav)
            obtain ⟨y, rfl⟩ := Int.eq_ofNat_of_zero_le av0
            have hyl : y < c.gates.length := by omega
            have hyn : y < n := by rw [HN.out]; exact hyl
            have HCR : Hid (∀ W : World, W.heap[w2.heap.size]? = some (.cells #[Value.int IntKind.i64 a0, Value.int IntKind.i64 a1, Value.int IntKind.i64 a2] 79 (0, 0)) → W.cell? ⟨w2.heap.size, t, none⟩ = some (.int .i64 (y : Int))) := fun W hW => by
              rw [cell_row hW]
              have := HAK.out t _ hav
              match t, this with
              | 0, h => simp at h; simp [h]
              | 1, h => simp at h; simp [h]
              | 2, h => simp at h; simp [h]
            have car := HCR.out wr HT.out.2.2.2
            have car1 := (Array.getElem?_eq_some_iff.1 HT.out.2.2.2).1
            have HAV := hid hav
            clear hav av1
            obtain ⟨mb, hmb⟩ : ∃ b, met1[y]? = some b := ⟨_, List.getElem?_eq_getElem (by rw [hml]; exact hyl)⟩
            obtain ⟨cm, fm⟩ := HT.out.1.cell hmb
            have cml := (Array.getElem?_eq_some_iff.1 HT.out.1.row).1
            have HMB := hid hmb
            clear hmb
            cases mb with
            | false =>
              have HS2 := hid (HT.out.2.1.meet HG.out HAV.out av0 HT.out.2.2.1 (by simpa using hyl))
              have HM2 := hid (HT.out.1.mark y)
              have hcf := cntF_set HMB.out
              have HI2 : Hid ((met1.set y true)[i]? = some true) := by
                rw [Hid, List.getElem?_set]
                by_cases hyi : y = i
                · rw [if_pos hyi, if_pos (by rw [hml]; exact hyl)]
                · rw [if_neg hyi]; exact HT.out.2.2.1
              have HR2 : Hid ((wr.setCell ⟨w1.heap.size, y, none⟩ (.bool true)).heap[w2.heap.size]? = some (.cells #[Value.int IntKind.i64 a0, Value.int IntKind.i64 a1, Value.int IntKind.i64 a2] 79 (0, 0))) := (Below.heap_setCell _ _ _ _ (show w2.heap.size ≠ w1.heap.size by have := HR1.out; omega)).trans HT.out.2.2.2
              have car2 := HCR.out _ HR2.out
              have car2l := (Array.getElem?_eq_some_iff.1 HR2.out).1
              clear HT
              go_wp2_with (first
                | (at_builtin; refine fam_app rfl _ _ rfl HM2.out.fam HM2.out.below 0 _ rfl (y : Int) _ _ (by simp [World.setCell]) rfl rfl (by show work1.length ≤ _; omega) ?_; intro sx2 cx2 w3 hf2 hb2 hk2; have HF2 := hid hf2; have HB2 := hid hb2; have HMR := hid (hk2 _ _ _ _ HM2.out.row (by decide)); have HAR := hid (hk2 _ _ _ _ HR2.out (by decide)); clear hf2 hb2 hk2))
              refine ⟨⟨t + 1, met1.set y true, work1 ++ [y], htl, by go_num, by rw [List.length_append, List.length_singleton]; omega, ⟨HMR.out, ?_, HB2.out⟩, ?_, HI2.out, HAR.out⟩, by simp [intOf]; omega⟩
              · rw [← places_snoc, List.length_append, List.length_singleton]
                exact HF2.out
              · simpa using HS2.out
            | true =>
              have HS2 := hid (HT.out.2.1.pass HG.out HAV.out (by simpa using HMB.out))
              have HT2 := hid HT.out
              clear HT
              go_wp2
              exact ⟨⟨t + 1, met1, work1, htl, by go_num, hb1, HT2.out.1, HS2.out, HT2.out.2.2.1, HT2.out.2.2.2⟩, by simp [intOf]; omega⟩
          · obtain rfl : t = cnt := by omega
            have HS2 := hid (HT.out.2.1.done HG.out HCNT.out)
            have HCM2 := hid HT.out.1
            have hof := offs_eq HT.out.1.row
            rw [hml, ← HN.out] at hof
            have HOF2 := hid hof
            clear HT hof
            go_wp2
            refine ⟨⟨met1, work1, by omega, HCM2.out, HS2.out⟩, ?_⟩
            rw [HOF2.out, HOFF.out]
            simp only [lenV]
            omega
  · have HNF := hid hf
    clear hf
    go_enter Tryd.func22, Tryd.ntmps22
    go_wp2_with (first | (rw [← HX.out]) | (go_at_call 28; refine Calls.mono FM.out ?_; rintro e w1 ⟨⟨bb, rfl, hbb⟩, b1⟩; obtain rfl : bb = false := (by cases bb with | false => rfl | true => exact absurd (hbb.1 rfl) HNF.out); have B1 := hid b1; clear hbb b1))
    exact bodyPost_ret (v := .tuple #[.slice none 0 0, .int .i64 144]) (by simp [results, Tryd.results22, go_sem]) rfl ⟨.inl ⟨HNF.out, rfl⟩, BX.out.trans (B1.out.mono BX.out.size)⟩
end Go.Proofs.YtfmmmhcpdinhgaaDoor
