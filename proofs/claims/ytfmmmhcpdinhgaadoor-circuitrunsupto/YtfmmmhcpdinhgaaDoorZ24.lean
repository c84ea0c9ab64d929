import Derived.Test.YtfmmmhcpdinhgaaDoorZ23
/-
  The first line that is in a circle, or none.
-/
namespace Go.Proofs.YtfmmmhcpdinhgaaDoor
open Go.RowKit Go.Deep PureNet ShfKit
set_option maxRecDepth 100000

set_option maxHeartbeats 4000000 in
theorem firstInCircle_gen (l : List Ga) (sg : Option Addr) (cg n : Nat) (w : World) (hc : CellsAt w sg (gas l)) (hkd : KindsAt w) (hn : n = l.length) (hfew : n ≤ 65536)
    (hlines : ∀ (i : Nat) (g : Ga), l[i]? = some g → (1 ≤ g.kind ∧ g.kind ≤ 4) ∧ ∀ a ∈ leansOn g, 0 ≤ a ∧ a < (l.length : Int)) :
    Calls Tryd.prog 53 #[.slice sg n cg] w fun e W' => (∃ r, e = .returned (.int .i64 r) ∧ CircleIs l r) ∧ Below w.heap.size w W' := by
  have SD := hid (searched_gen l sg cg n w hc hkd hn hfew hlines)
  have HC := hid hc
  have KD := hid hkd
  have HN := hid hn
  have HL := hid hlines
  clear hc hkd hn hlines
  go_enter Tryd.func53, Tryd.ntmps53
  go_wp2_with (fail)
  refine wp_scope_jumps 0 (fun a' w' => ∃ (i : Nat) (u0 u1 u2 u3 u5 u6 u7 u8 u9 u10 u11 u12 u13 u14 u15 u16 u17 u18 u19 u20 u21 u22 u23 u24 u25 u26 u27 u28 u29 u30 u31 u32 u33 u34 u35 u36 u37 u38 : Value), a' = { tmps := #[u0, u1, u2, u3, .int .i64 (i : Int), u5, u6, u7, u8, u9, u10, u11, u12, u13, u14, u15, u16, u17, u18, u19, u20, u21, u22, u23, u24, u25, u26, u27, u28, u29, u30, u31, u32, u33, u34, u35, u36, u37, u38], defers := [] } ∧ Hid (i < l.length ∧ PureNet.Way l i i ∧ (∀ j, j < i → ¬ PureNet.Way l j j) ∧ Below w.heap.size w w')) (fun _ _ => 0) rfl ?_ ?_
  rotate_left 1
  · rintro a' w' ⟨i, u0, u1, u2, u3, u5, u6, u7, u8, u9, u10, u11, u12, u13, u14, u15, u16, u17, u18, u19, u20, u21, u22, u23, u24, u25, u26, u27, u28, u29, u30, u31, u32, u33, u34, u35, u36, u37, u38, rfl, HJ⟩
    go_wp2
    simp only [Exit.jump]
    refine bodyPost_ret (P := Tryd.prog) (fn := Tryd.f53) (v := .int .i64 (i : Int)) ?_ rfl ⟨⟨_, rfl, .inr ⟨i, rfl, HJ.out.1, HJ.out.2.1, HJ.out.2.2.1⟩⟩, HJ.out.2.2.2⟩
    simp [results, Tryd.results53, go_sem]
  go_wp2_with (first | (go_at_call 64; refine Calls.mono SD.out ?_; rintro e w1 ⟨p, s, mv, rv, pv, wv, tv, ov, rs, rfl, hs1, hsr1, _, hall1⟩; have SE1 := hid hs1; have SR1 := hid hsr1; have HA1 := hid hall1; have c1 := hs1.cell; have hp1 := hs1.size; clear hs1 hsr1 hall1))
  have PC : Hid (∀ x y, Leans l x y → (s.part y = s.part x ↔ (y = x ∨ PureNet.Way l y x))) := fun x y hxy => SR1.out.circle (fun z hz => HA1.out z (by rw [HN.out]; exact hz)) (fun i g hg => (HL.out i g hg).2) hxy
  clear c1 hp1 SD
  go_loopw [14] (fun iv W => ∃ i : Nat, i ≤ n ∧ iv = .int .i64 (i : Int) ∧ Hid ((∀ j, j < i → ¬ PureNet.Way l j j) ∧ Below w1.heap.size w1 W)) (fun iv _ => n - (intOf iv).toNat)
  case atStart => exact ⟨0, Nat.zero_le _, rfl, fun j hj => by omega, Below.refl _ _⟩
  case round =>
    obtain ⟨i, hi, rfl, HB0⟩ := hrel
    have HB := hid HB0.out.2
    have HFR := hid HB0.out.1
    clear HB0
    by_cases hlt : i < n
    · obtain ⟨g, hg⟩ : ∃ g, l[i]? = some g := ⟨_, List.getElem?_eq_getElem (by rw [← HN.out]; exact hlt)⟩
      have bw : Below w.heap.size w wr := SE1.out.below.trans (HB.out.mono SE1.out.below.size)
      obtain ⟨gb, go, rfl, hgb, a0, a1, a2, a3, a4, a5⟩ := gate_at (HC.out.below bw) i g hg
      obtain ⟨gp, cp, hpv, _, hgps, _⟩ := SE1.out.row (i := 2) (by omega) rfl hlt
      subst hpv
      have PL := hid (pleans_any g wr (KD.out.on bw) (HL.out i g hg).1 (fun a ha => ((HL.out i g hg).2 a ha).1))
      have HG := hid hg
      have BW := hid bw
      clear hg bw
      go_wp2_with (first | (go_at_call 81; refine Calls.mono PL.out ?_; rintro e w3 ⟨lv, lr, rfl, hlf, hlo, b3⟩; have LO := hid hlo; have B3 := hid b3; obtain ⟨lq, hlq⟩ : ∃ lq, lq = ((leansOn g).map Int.toNat).length := ⟨_, rfl⟩; obtain ⟨sq, cq, hlv, hlq2, hlr⟩ := hlf; rw [← hlq] at hlv; subst hlv; have LR := hid hlr; have LQ := hid hlq; have hlq3 : lq ≤ 3 := (by rw [hlq, List.length_map]; unfold leansOn; split; (· simp); (· split <;> simp)); clear hlo b3 hlq hlq2 hlr))
      go_loopw [23] (fun kv W => ∃ k : Nat, k ≤ lq ∧ kv = .int .i64 (k : Int) ∧ Hid ((∀ (j y : Nat), j < k → ((leansOn g).map Int.toNat)[j]? = some y → s.part y ≠ s.part i) ∧ Below w3.heap.size w3 W)) (fun kv _ => lq - (intOf kv).toNat)
      case atStart => exact ⟨0, Nat.zero_le _, rfl, fun j y hj => by omega, Below.refl _ _⟩
      case round =>
        obtain ⟨k, hk, rfl, HB9⟩ := hrel
        have HB4 := hid HB9.out.2
        have HNO := hid HB9.out.1
        clear HB9
        by_cases hkl : k < lq
        · obtain ⟨y, hy⟩ : ∃ y, ((leansOn g).map Int.toNat)[k]? = some y := ⟨_, List.getElem?_eq_getElem (by rw [← LQ.out]; exact hkl)⟩
          obtain ⟨gl, kl, rfl, hgl, hrow⟩ := LR.out (fun e => by rw [e] at hy; simp at hy)
          have hly : Leans l i y := by
            refine ⟨g, HG.out, ?_⟩
            have hy2 := hy
            rw [List.getElem?_map, Option.map_eq_some_iff] at hy2
            obtain ⟨a, ha, rfl⟩ := hy2
            have hm := List.mem_of_getElem? ha
            rw [Int.toNat_of_nonneg ((HL.out i g HG.out).2 a hm).1]
            exact hm
          have hyn : y < n := by
            obtain ⟨g2, hg2, hm⟩ := hly
            have := ((HL.out i g2 hg2).2 _ hm).2
            rw [HN.out]
            omega
          have HPI := hid (PC.out i y hly)
          have HLY := hid hly
          have HY := hid hy
          obtain ⟨g5, c5, hv5, _, hg5, hc5, _⟩ := own_cell LO.out (hrow k y hy)
          rw [hv5] at hgl
          cases hgl
          have hcy : wr.cell? ⟨g5, kl + k, none⟩ = some (.int .i64 (y : Int)) := below_cell HB4.out hg5 hc5
          have bx : Below w1.heap.size w1 wr := HB.out.trans ((B3.out.trans (HB4.out.mono B3.out.size)).mono HB.out.size)
          obtain ⟨_, _, e9, _, _, hpy, _⟩ := (SE1.out.on bx).row (i := 2) (by omega) rfl hyn
          simp only [Value.slice.injEq, Option.some.injEq, Addr.mk.injEq, and_true, true_and] at e9
          obtain ⟨rfl, rfl⟩ := e9
          obtain ⟨_, _, e9, _, _, hpi, _⟩ := (SE1.out.on bx).row (i := 2) (by omega) rfl hlt
          simp only [Value.slice.injEq, Option.some.injEq, Addr.mk.injEq, and_true, true_and] at e9
          obtain ⟨rfl, rfl⟩ := e9
          have hgls : g5 < wr.heap.size := Nat.lt_of_lt_of_le hg5 HB4.out.size
          have BX := hid bx
          clear hy hrow hly hv5 hc5 bx
          by_cases hpe : s.part y = s.part i
          · have hpne : (s.part y == s.part i) = true := by rw [hpe]; exact beq_self_eq_true _
            have HPE := hid hpe
            clear hpe
            go_wp2
            refine wp_region_noPanic ?_
            refine wp_region_held_drew (S := fun W => W.cell? ⟨gp, y, none⟩ = some (.int .i64 (s.part y)) ∧ W.cell? ⟨gp, i, none⟩ = some (.int .i64 (s.part i))) (by kernel_rfl) ⟨hpy, hpi⟩ (fun hHeld => ?_)
            refine wpAnyH_take (i := 0) (v := ?_) (by simp only [List.getElem?_toArray, List.getElem?_cons_zero]; rfl) (by kernel_rfl) (by kernel_rfl) (by kernel_rfl) (fun _ _ _ h => h) (Or.inl ⟨by rfl, ?_⟩) (by assumption) ?_
            rotate_left 1
            · intro w hSw; (try dsimp only at hSw); go_simp; (try with_reducible rfl)
            try simp only [Act.put, List.setIfInBounds_toArray, List.set_cons_zero, List.set_cons_succ]
            refine wpAnyH_take (i := 1) (v := ?_) (by simp only [List.getElem?_toArray, List.getElem?_cons_succ, List.getElem?_cons_zero]; rfl) (by kernel_rfl) (by kernel_rfl) (by kernel_rfl) (fun _ _ _ h => h) (Or.inl ⟨by rfl, ?_⟩) (by assumption) ?_
            rotate_left 1
            · intro w hSw; (try dsimp only at hSw); go_simp; (try with_reducible rfl)
            try simp only [Act.put, List.setIfInBounds_toArray, List.set_cons_zero, List.set_cons_succ]
            refine wpAnyH_take (i := 2) (v := .pointer (some ⟨gp, y, none⟩)) (by simp only [List.getElem?_toArray, List.getElem?_cons_succ, List.getElem?_cons_zero]; rfl) (by kernel_rfl) (by kernel_rfl) (by kernel_rfl) (fun _ _ _ h => h) (Or.inl ⟨by rfl, ?_⟩) (by assumption) ?_
            · intro w hSw; (try dsimp only at hSw); (try go_simp); ((try rw [if_pos (by omega)]); (try simp); (try (intro h9; omega)))
            try simp only [Act.put, List.setIfInBounds_toArray, List.set_cons_zero, List.set_cons_succ]
            refine wpAnyH_take (i := 3) (v := ?_) (by simp only [List.getElem?_toArray, List.getElem?_cons_succ, List.getElem?_cons_zero]; rfl) (by kernel_rfl) (by kernel_rfl) (by kernel_rfl) (fun _ _ _ h => h) (Or.inl ⟨by rfl, ?_⟩) (by assumption) ?_
            rotate_left 1
            · intro w hSw; (try dsimp only at hSw); go_simp; (try with_reducible rfl)
            try simp only [Act.put, List.setIfInBounds_toArray, List.set_cons_zero, List.set_cons_succ]
            refine wpAnyH_take (i := 4) (v := ?_) (by simp only [List.getElem?_toArray, List.getElem?_cons_succ, List.getElem?_cons_zero]; rfl) (by kernel_rfl) (by kernel_rfl) (by kernel_rfl) (fun _ _ _ h => h) (Or.inl ⟨by rfl, ?_⟩) (by assumption) ?_
            rotate_left 1
            · intro w hSw; (try dsimp only at hSw); go_simp; (try with_reducible rfl)
            try simp only [Act.put, List.setIfInBounds_toArray, List.set_cons_zero, List.set_cons_succ]
            refine wpAnyH_take (i := 5) (v := ?_) (by simp only [List.getElem?_toArray, List.getElem?_cons_succ, List.getElem?_cons_zero]; rfl) (by kernel_rfl) (by kernel_rfl) (by kernel_rfl) (fun _ _ _ h => h) (Or.inl ⟨by rfl, ?_⟩) (by assumption) ?_
            rotate_left 1
            · intro w hSw; (try dsimp only at hSw); go_simp; (try with_reducible rfl)
            try simp only [Act.put, List.setIfInBounds_toArray, List.set_cons_zero, List.set_cons_succ]
            refine wpAnyH_take (i := 6) (v := .pointer (some ⟨gp, i, none⟩)) (by simp only [List.getElem?_toArray, List.getElem?_cons_succ, List.getElem?_cons_zero]; rfl) (by kernel_rfl) (by kernel_rfl) (by kernel_rfl) (fun _ _ _ h => h) (Or.inl ⟨by rfl, ?_⟩) (by assumption) ?_
            · intro w hSw; (try dsimp only at hSw); (try go_simp); ((try rw [if_pos (by omega)]); (try simp); (try (intro h9; omega)))
            try simp only [Act.put, List.setIfInBounds_toArray, List.set_cons_zero, List.set_cons_succ]
            refine wpAnyH_take (i := 7) (v := ?_) (by simp only [List.getElem?_toArray, List.getElem?_cons_succ, List.getElem?_cons_zero]; rfl) (by kernel_rfl) (by kernel_rfl) (by kernel_rfl) (fun _ _ _ h => h) (Or.inl ⟨by rfl, ?_⟩) (by assumption) ?_
            rotate_left 1
            · intro w hSw; (try dsimp only at hSw); go_simp; (try with_reducible rfl)
            try simp only [Act.put, List.setIfInBounds_toArray, List.set_cons_zero, List.set_cons_succ]
            refine wpAnyH_take (i := 8) (v := .bool true) (by simp only [List.getElem?_toArray, List.getElem?_cons_succ, List.getElem?_cons_zero]; rfl) (by kernel_rfl) (by kernel_rfl) (by kernel_rfl) (fun _ _ _ h => h) (Or.inl ⟨by rfl, ?_⟩) (by assumption) ?_
            · intro w hSw; (try dsimp only at hSw); (try go_simp); ((try rw [hpne]); (try simp))
            try simp only [Act.put, List.setIfInBounds_toArray, List.set_cons_zero, List.set_cons_succ]
            refine wpAnyH_done (by kernel_rfl) ?_ _
            refine NoPanic.normal ?_
            go_wp2
            go_step3
            refine ⟨rfl, i, _, _, _, _, _, _, _, _, _, _, _, _, _, _, _, _, _, _, _, _, _, _, _, _, _, _, _, _, _, _, _, _, _, _, _, _, _, _, rfl, ?_⟩
            refine ⟨by rw [← HN.out]; exact hlt, ?_, HFR.out, ?_⟩
            · rcases HPI.out.1 HPE.out with e | e
              · have := HLY.out
                rw [e] at this
                exact .one this
              · exact .more HLY.out e
            · exact (SE1.out.below.trans (BX.out.mono SE1.out.below.size)).trans (Below.refl _ _).drew
          · have hpne : (s.part y == s.part i) = false := beq_eq_false_iff_ne.2 hpe
            have HPE := hid hpe
            clear hpe
            go_wp2
            refine wp_region_noPanic ?_
            refine wp_region_held_drew (S := fun W => W.cell? ⟨gp, y, none⟩ = some (.int .i64 (s.part y)) ∧ W.cell? ⟨gp, i, none⟩ = some (.int .i64 (s.part i))) (by kernel_rfl) ⟨hpy, hpi⟩ (fun hHeld => ?_)
            refine wpAnyH_take (i := 0) (v := ?_) (by simp only [List.getElem?_toArray, List.getElem?_cons_zero]; rfl) (by kernel_rfl) (by kernel_rfl) (by kernel_rfl) (fun _ _ _ h => h) (Or.inl ⟨by rfl, ?_⟩) (by assumption) ?_
            rotate_left 1
            · intro w hSw; (try dsimp only at hSw); go_simp; (try with_reducible rfl)
            try simp only [Act.put, List.setIfInBounds_toArray, List.set_cons_zero, List.set_cons_succ]
            refine wpAnyH_take (i := 1) (v := ?_) (by simp only [List.getElem?_toArray, List.getElem?_cons_succ, List.getElem?_cons_zero]; rfl) (by kernel_rfl) (by kernel_rfl) (by kernel_rfl) (fun _ _ _ h => h) (Or.inl ⟨by rfl, ?_⟩) (by assumption) ?_
            rotate_left 1
            · intro w hSw; (try dsimp only at hSw); go_simp; (try with_reducible rfl)
            try simp only [Act.put, List.setIfInBounds_toArray, List.set_cons_zero, List.set_cons_succ]
            refine wpAnyH_take (i := 2) (v := .pointer (some ⟨gp, y, none⟩)) (by simp only [List.getElem?_toArray, List.getElem?_cons_succ, List.getElem?_cons_zero]; rfl) (by kernel_rfl) (by kernel_rfl) (by kernel_rfl) (fun _ _ _ h => h) (Or.inl ⟨by rfl, ?_⟩) (by assumption) ?_
            · intro w hSw; (try dsimp only at hSw); (try go_simp); ((try rw [if_pos (by omega)]); (try simp); (try (intro h9; omega)))
            try simp only [Act.put, List.setIfInBounds_toArray, List.set_cons_zero, List.set_cons_succ]
            refine wpAnyH_take (i := 3) (v := ?_) (by simp only [List.getElem?_toArray, List.getElem?_cons_succ, List.getElem?_cons_zero]; rfl) (by kernel_rfl) (by kernel_rfl) (by kernel_rfl) (fun _ _ _ h => h) (Or.inl ⟨by rfl, ?_⟩) (by assumption) ?_
            rotate_left 1
            · intro w hSw; (try dsimp only at hSw); go_simp; (try with_reducible rfl)
            try simp only [Act.put, List.setIfInBounds_toArray, List.set_cons_zero, List.set_cons_succ]
            refine wpAnyH_take (i := 4) (v := ?_) (by simp only [List.getElem?_toArray, List.getElem?_cons_succ, List.getElem?_cons_zero]; rfl) (by kernel_rfl) (by kernel_rfl) (by kernel_rfl) (fun _ _ _ h => h) (Or.inl ⟨by rfl, ?_⟩) (by assumption) ?_
            rotate_left 1
            · intro w hSw; (try dsimp only at hSw); go_simp; (try with_reducible rfl)
            try simp only [Act.put, List.setIfInBounds_toArray, List.set_cons_zero, List.set_cons_succ]
            refine wpAnyH_take (i := 5) (v := ?_) (by simp only [List.getElem?_toArray, List.getElem?_cons_succ, List.getElem?_cons_zero]; rfl) (by kernel_rfl) (by kernel_rfl) (by kernel_rfl) (fun _ _ _ h => h) (Or.inl ⟨by rfl, ?_⟩) (by assumption) ?_
            rotate_left 1
            · intro w hSw; (try dsimp only at hSw); go_simp; (try with_reducible rfl)
            try simp only [Act.put, List.setIfInBounds_toArray, List.set_cons_zero, List.set_cons_succ]
            refine wpAnyH_take (i := 6) (v := .pointer (some ⟨gp, i, none⟩)) (by simp only [List.getElem?_toArray, List.getElem?_cons_succ, List.getElem?_cons_zero]; rfl) (by kernel_rfl) (by kernel_rfl) (by kernel_rfl) (fun _ _ _ h => h) (Or.inl ⟨by rfl, ?_⟩) (by assumption) ?_
            · intro w hSw; (try dsimp only at hSw); (try go_simp); ((try rw [if_pos (by omega)]); (try simp); (try (intro h9; omega)))
            try simp only [Act.put, List.setIfInBounds_toArray, List.set_cons_zero, List.set_cons_succ]
            refine wpAnyH_take (i := 7) (v := ?_) (by simp only [List.getElem?_toArray, List.getElem?_cons_succ, List.getElem?_cons_zero]; rfl) (by kernel_rfl) (by kernel_rfl) (by kernel_rfl) (fun _ _ _ h => h) (Or.inl ⟨by rfl, ?_⟩) (by assumption) ?_
            rotate_left 1
            · intro w hSw; (try dsimp only at hSw); go_simp; (try with_reducible rfl)
            try simp only [Act.put, List.setIfInBounds_toArray, List.set_cons_zero, List.set_cons_succ]
            refine wpAnyH_take (i := 8) (v := .bool false) (by simp only [List.getElem?_toArray, List.getElem?_cons_succ, List.getElem?_cons_zero]; rfl) (by kernel_rfl) (by kernel_rfl) (by kernel_rfl) (fun _ _ _ h => h) (Or.inl ⟨by rfl, ?_⟩) (by assumption) ?_
            · intro w hSw; (try dsimp only at hSw); (try go_simp); ((try rw [hpne]); (try simp))
            try simp only [Act.put, List.setIfInBounds_toArray, List.set_cons_zero, List.set_cons_succ]
            refine wpAnyH_done (by kernel_rfl) ?_ _
            refine NoPanic.normal ?_
            go_wp2
            refine ⟨⟨k + 1, hkl, by go_num, fun j z hj hz => ?_, HB4.out.trans (Below.refl _ _).drew⟩, by simp [intOf]; omega⟩
            by_cases e : j = k
            · rw [e, HY.out] at hz
              rw [← Option.some.inj hz]
              exact HPE.out
            · exact HNO.out j z (by omega) hz
        · have bx : Hid (Below w1.heap.size w1 wr) := HB.out.trans ((B3.out.trans (HB4.out.mono B3.out.size)).mono HB.out.size)
          have HW : Hid (¬ PureNet.Way l i i) := fun hw => by
            obtain ⟨j, hj, hj2⟩ := way_first hw
            have hpj := (PC.out i j hj).2 hj2
            obtain ⟨g2, hg2, hm⟩ := hj
            rw [HG.out] at hg2
            obtain rfl := Option.some.inj hg2
            obtain ⟨q, hq, e⟩ := List.getElem_of_mem hm
            refine HNO.out q j (by have := LQ.out; rw [List.length_map] at this; omega) ?_ hpj
            rw [List.getElem?_map, List.getElem?_eq_getElem hq, e]
            rfl
          go_wp2
          refine ⟨⟨i + 1, hlt, by go_num, fun j hj => ?_, bx.out⟩, by simp [intOf]; omega⟩
          by_cases e : j = i
          · rw [e]; exact HW.out
          · exact HFR.out j (by omega)
    · have bw : Hid (Below w.heap.size w wr) := SE1.out.below.trans (HB.out.mono SE1.out.below.size)
      have HW : Hid (∀ j, ¬ PureNet.Way l j j) := fun j hw => by
        have hj : j < n := by
          obtain ⟨q, hq, _⟩ := way_first hw
          rw [HN.out]
          exact leans_lt hq
        exact HFR.out j (by omega) hw
      go_wp2
      simp only [Exit.jump]
      refine bodyPost_ret (P := Tryd.prog) (fn := Tryd.f53) (v := .int .i64 (-1)) ?_ rfl ⟨⟨_, rfl, .inl ⟨rfl, HW.out⟩⟩, bw.out⟩
      simp [results, Tryd.results53, go_sem]
end Go.Proofs.YtfmmmhcpdinhgaaDoor
/-
  The program's Formed, of any value.
-/
namespace Go.Proofs.YtfmmmhcpdinhgaaDoor
open Go.RowKit Go.Deep PureNet
set_option maxRecDepth 100000

theorem placed_lines {c : Net} (h : placedB c = true) : (∀ (i : Nat) (g : Ga), c.gates[i]? = some g → lineB g c.gates.length = true) ∧ ∀ o ∈ c.outs, 0 ≤ o ∧ o < (c.gates.length : Int) := by
  simp only [placedB, Bool.and_eq_true, List.all_eq_true, belowB, decide_eq_true_eq] at h
  exact ⟨fun i g hg => h.1 g (List.mem_of_getElem? hg), h.2⟩
theorem formed_of {c : Net} (h1 : c.gates.length ≤ 65536 ∧ c.outs.length ≤ 65536) (h2 : NamedIs c) (h3 : placedB c = true) (h4 : ∀ i, ¬ PureNet.Way c.gates i i) : PureNet.Formed c where
  name := h2.name
  few := h1.1
  fewOuts := h1.2
  lines := fun i g hg => ⟨h2.names g (List.mem_of_getElem? hg), (placed_lines h3).1 i g hg⟩
  apart := fun i j g h hi hj e => h2.apart i j g h (List.getElem?_eq_some_iff.1 hi).1 (List.getElem?_eq_some_iff.1 hj).1 hi hj e
  outs := (placed_lines h3).2
  free := h4

set_option maxHeartbeats 2000000 in
theorem formed_gen (c : Net) (sg so : Option Addr) (cg co : Nat) (w : World) (hc : CirAt w c sg so) (hkd : KindsAt w) (hn : c.name.size ≤ 140737488351232) (hns : ∀ g ∈ c.gates, g.name.size ≤ 140737488351232) (hl : c.gates.length ≤ 1099511627776) (hlo : c.outs.length ≤ 1099511627776) :
    Calls Tryd.prog 26 #[cirV c sg cg so co] w fun e w' => FormedSays c e ∧ Below w.heap.size w w' := by
  by_cases hf : PureNet.Formed c
  · refine (formed_ok c sg so cg co w hc hkd hf).mono ?_
    rintro e w' ⟨rfl, hb⟩
    exact ⟨⟨true, rfl, ⟨fun _ => hf, fun _ => rfl⟩⟩, hb⟩
  obtain ⟨x, hx⟩ : ∃ x, x = w.alloc (Obj.cells #[Value.string c.name, Value.slice sg c.gates.length cg, Value.slice so c.outs.length co] 26) := ⟨_, rfl⟩
  have RX : Hid (x.heap[w.heap.size]? = some (.cells #[Value.string c.name, Value.slice sg c.gates.length cg, Value.slice so c.outs.length co] 26 (0, 0))) := by rw [hx]; exact heap_alloc_new w _
  have BX : Hid (Below w.heap.size w x) := by rw [hx]; exact (Below.refl _ _).alloc (Nat.le_refl _) _
  have CE : Hid (∀ W, Below x.heap.size x W → (∀ j, W.cell? ⟨w.heap.size, j, none⟩ = (#[Value.string c.name, Value.slice sg c.gates.length cg, Value.slice so c.outs.length co] : Array Value)[j]?) ∧ w.heap.size < W.heap.size) := fun W hW => by
    have h2 := (hW.block _ (Array.getElem?_eq_some_iff.1 RX.out).1).trans RX.out
    exact ⟨fun j => cell_row h2 j, (Array.getElem?_eq_some_iff.1 h2).1⟩
  have NO := hid (FormedSays.no hf)
  have C1 := hid (pwithin_any c sg so cg co x)
  have C2 : Hid (∀ W, Below x.heap.size x W → _) := fun W hW => named_any c sg so cg co W ((hc.below BX.out).below hW).gates hn hns hl
  have C3 : Hid (∀ W, Below x.heap.size x W → _) := fun W hW => placed_any c sg so cg co W ((hc.below BX.out).below hW) ((hkd.on BX.out).on hW) hl hlo
  have C4 : Hid (c.gates.length ≤ 65536 → placedB c = true → ∀ W, Below x.heap.size x W → _) := fun h1 h3 W hW => firstInCircle_gen c.gates sg cg c.gates.length W ((hc.below BX.out).below hW).gates ((hkd.on BX.out).on hW) rfl h1 (fun i g hg => ⟨lineB_kind ((placed_lines h3).1 i g hg), fun _ ha => lineB_leans ((placed_lines h3).1 i g hg) ha⟩)
  obtain ⟨d0, hb0⟩ := CE.out x (Below.refl _ _)
  have HX := hid hx
  have HNF := hid hf
  clear hx hc hkd hf hn hns hl hlo
  by_cases h1 : c.gates.length ≤ 65536 ∧ c.outs.length ≤ 65536
  rotate_left 1
  · have HB1 : Hid ((decide (c.gates.length ≤ 65536) && decide (c.outs.length ≤ 65536)) = false) := by
      show _ = _
      rw [Bool.eq_false_iff]
      intro h9
      simp only [Bool.and_eq_true, decide_eq_true_eq] at h9
      exact h1 h9
    clear h1 C2 C3 C4
    go_enter Tryd.func26, Tryd.ntmps26
    go_wp2_with (first
      | (rw [← HX.out])
      | (go_at_call 50; refine Calls.mono C1.out ?_; rintro e w1 ⟨rfl, b1⟩; rw [HB1.out]; have B1 : Hid (Below x.heap.size x w1) := b1; obtain ⟨d1, hb1⟩ := CE.out w1 B1.out; clear b1))
    go_ret
    exact ⟨NO.out, BX.out.trans (B1.out.mono BX.out.size)⟩
  have HB1 : Hid ((decide (c.gates.length ≤ 65536) && decide (c.outs.length ≤ 65536)) = true) := by
    show _ = _
    simp only [Bool.and_eq_true, decide_eq_true_eq]
    exact h1
  have H1 := hid h1
  clear h1
  by_cases h2 : NamedIs c
  rotate_left 1
  · have HB2 := hid h2
    clear h2 C3 C4
    go_enter Tryd.func26, Tryd.ntmps26
    go_wp2_with (first
      | (rw [← HX.out])
      | (go_at_call 51; refine Calls.mono (C2.out w1 B1.out) ?_; rintro e w2 ⟨⟨bb, rfl, hbb⟩, b2⟩; obtain rfl : bb = false := (Bool.eq_false_iff.2 fun h9 => HB2.out (hbb.1 h9)); have B2 : Hid (Below x.heap.size x w2) := B1.out.trans (b2.mono B1.out.size); obtain ⟨d2, hb2⟩ := CE.out w2 B2.out; clear b2 hbb)
      | (go_at_call 50; refine Calls.mono C1.out ?_; rintro e w1 ⟨rfl, b1⟩; rw [HB1.out]; have B1 : Hid (Below x.heap.size x w1) := b1; obtain ⟨d1, hb1⟩ := CE.out w1 B1.out; clear b1))
    go_ret
    exact ⟨NO.out, BX.out.trans (B2.out.mono BX.out.size)⟩
  have HB2 := hid h2
  clear h2
  by_cases h3 : placedB c = true
  rotate_left 1
  · have HB3 : Hid (placedB c = false) := Bool.eq_false_iff.2 h3
    clear h3 C4
    go_enter Tryd.func26, Tryd.ntmps26
    go_wp2_with (first
      | (rw [← HX.out])
      | (go_at_call 52; refine Calls.mono (C3.out w2 B2.out) ?_; rintro e w3 ⟨rfl, b3⟩; rw [HB3.out]; have B3 : Hid (Below x.heap.size x w3) := B2.out.trans (b3.mono B2.out.size); obtain ⟨d3, hb3⟩ := CE.out w3 B3.out; clear b3)
      | (go_at_call 51; refine Calls.mono (C2.out w1 B1.out) ?_; rintro e w2 ⟨⟨bb, rfl, hbb⟩, b2⟩; obtain rfl : bb = true := (hbb.2 HB2.out); have B2 : Hid (Below x.heap.size x w2) := B1.out.trans (b2.mono B1.out.size); obtain ⟨d2, hb2⟩ := CE.out w2 B2.out; clear b2 hbb)
      | (go_at_call 50; refine Calls.mono C1.out ?_; rintro e w1 ⟨rfl, b1⟩; rw [HB1.out]; have B1 : Hid (Below x.heap.size x w1) := b1; obtain ⟨d1, hb1⟩ := CE.out w1 B1.out; clear b1))
    go_ret
    exact ⟨NO.out, BX.out.trans (B3.out.mono BX.out.size)⟩
  have HB3 : Hid (placedB c = true) := h3
  have CR : Hid (∀ r, CircleIs c.gates r → (r == -1) = false) := fun r hr => by
    rcases hr with ⟨_, hr⟩ | ⟨i, rfl, _⟩
    · exact absurd (formed_of H1.out HB2.out h3 hr) HNF.out
    · exact beq_eq_false_iff_ne.2 (by omega)
  have C5 := hid (C4.out H1.out.1 h3)
  clear h3 C4
  have hgo : Calls Tryd.prog 26 #[cirV c sg cg so co] w fun e w' => FormedSays c e ∧ Below w.heap.size w w' := by
    go_enter Tryd.func26, Tryd.ntmps26
    go_wp2_with (first
      | (rw [← HX.out])
      | (go_at_call 53; refine Calls.mono (C5.out w3 B3.out) ?_; rintro e w4 ⟨⟨r, rfl, hr⟩, b4⟩; have hr2 : (r == -1) = false := (CR.out r hr); have B4 : Hid (Below x.heap.size x w4) := B3.out.trans (b4.mono B3.out.size); clear b4 hr)
      | (go_at_call 52; refine Calls.mono (C3.out w2 B2.out) ?_; rintro e w3 ⟨rfl, b3⟩; rw [HB3.out]; have B3 : Hid (Below x.heap.size x w3) := B2.out.trans (b3.mono B2.out.size); obtain ⟨d3, hb3⟩ := CE.out w3 B3.out; clear b3)
      | (go_at_call 51; refine Calls.mono (C2.out w1 B1.out) ?_; rintro e w2 ⟨⟨bb, rfl, hbb⟩, b2⟩; obtain rfl : bb = true := (hbb.2 HB2.out); have B2 : Hid (Below x.heap.size x w2) := B1.out.trans (b2.mono B1.out.size); obtain ⟨d2, hb2⟩ := CE.out w2 B2.out; clear b2 hbb)
      | (go_at_call 50; refine Calls.mono C1.out ?_; rintro e w1 ⟨rfl, b1⟩; rw [HB1.out]; have B1 : Hid (Below x.heap.size x w1) := b1; obtain ⟨d1, hb1⟩ := CE.out w1 B1.out; clear b1))
    go_ret
    exact ⟨NO.out, BX.out.trans (B4.out.mono BX.out.size)⟩
  exact hgo
end Go.Proofs.YtfmmmhcpdinhgaaDoor
/-
  What stays while one list is written and grown.
-/
namespace Go.Proofs.YtfmmmhcpdinhgaaDoor
open Go.RowKit Go.Deep PureNet ShfKit
set_option maxRecDepth 100000

/-- append of one, in the text's order, told where it lies. -/
theorem wpl_one {ops : Array Oper} {rest : List Oper} {o : Oper} {a : Act} {Q : Exit → Act → World → Prop} {W : World} (hg : o.guard = none) (s x : Operand) (t : TypeId) (hop : o.op = Op.call { callee := Callee.builtin Builtin.append, args := #[s, x], argTypes := #[t, t] })
    (B : Nat) (e : TypeId) (z : Value) (size bytes : Nat) (ht : Tryd.prog.underlying t = some (.slice e)) (hinf : (Tryd.prog.info? e).map (fun i => (i.zero, i.size, i.bytes)) = some (some z, size, bytes))
    (hzs : z.cells.size = size) (hsz : 0 < size) (v : Value) (n : Nat) (xs : List Value) (hs : a.eval s = v) (hown : W.ownsRow B e size v n xs) (news : List Value) (u : TypeId) (ad : Nat) (had : ad = W.heap.size) (hx : a.eval x = .slice (some ⟨ad, 0, none⟩) 1 1) (hl : news.length = size) (h1 : ∀ u ∈ news, u.oneCell' = true) (hn : n ≤ 1099511627776) (hby : (n + 1) * bytes ≤ 140737488355328) (hbase : B ≤ W.heap.size)
    (hK : ∀ v' w', w'.ownsRow B e size v' (n + 1) (xs ++ news) → Far (W.alloc (.cells news.toArray u)) w' v v' → wpList Tryd.prog ops Q rest (a.put o.dst v') w') :
    wpList Tryd.prog ops Q (o :: rest) a (W.alloc (.cells news.toArray u)) := by
  subst had
  exact wpl_cells _ hg s x t hop B e z size bytes ht hinf hzs hsz v n xs hs (ownsRow_below hown ((Below.refl _ _).alloc (Nat.le_refl _) _)) (some ⟨W.heap.size, 0, none⟩) 1 1 news hx (by rw [hl, Nat.one_mul]) ⟨fun k u hu => ⟨W.heap.size, 0, rfl, by simp, by rw [Nat.zero_add, cell_row (heap_alloc_new W _)]; simpa using hu⟩⟩ (fun e => by cases e) h1 (by unfold maxLen; omega) hby (by simp; omega) hK
end Go.Proofs.YtfmmmhcpdinhgaaDoor
/-
  The law's own flipped, flip.
-/
namespace Go.Proofs.YtfmmmhcpdinhgaaDoor
open Go.RowKit Go.Deep PureNet ShfKit
set_option maxRecDepth 100000

set_option maxHeartbeats 1000000 in
set_option maxRecDepth 100000 in
theorem flipped_any (l : List Bool) (sa : Option Addr) (ca : Nat) (w : World) (ha : CellsAt w sa (bo l)) (hl : l.length ≤ 140737488351232) :
    Calls Tryd.prog 35 #[.slice sa l.length ca] w fun e w' => ∃ v, e = .returned v ∧ Mk w w' 4 1 v l.length (bo (l.map not)) := by
  have HA := hid ha
  clear ha
  go_enter Tryd.func35, Tryd.ntmps35
  go_wp2
  go_loopw [3, 4] (fun ov iv W => ∃ i : Nat, i ≤ l.length ∧ iv = .int .i64 (i : Int) ∧ Hid (Mk w W 4 1 ov i (bo ((l.map not).take i)))) (fun ov iv _ => l.length - (intOf iv).toNat)
  case atStart => exact ⟨0, Nat.zero_le _, rfl, Mk.nil _ _ _⟩
  case round =>
    obtain ⟨i, hi, rfl, HR⟩ := hrel
    obtain ⟨sv, cv, rfl⟩ := own_shape HR.out.own
    by_cases hlt : i < l.length
    · obtain ⟨b, hb⟩ : ∃ b, l[i]? = some b := ⟨_, List.getElem?_eq_getElem hlt⟩
      obtain ⟨g, o, rfl, hg, c0⟩ := bit_at (HA.out.below HR.out.below) i b hb
      have HTK : Hid (bo ((l.map not).take (i + 1)) = bo ((l.map not).take i) ++ [.bool (!b)]) := by
        show _ = _
        rw [List.take_add_one]
        simp [bo, hb]
      clear hb
      go_wp2_with (at_builtin; refine mk_app rfl _ _ 29 (.bool false) 1 rfl Tryd.underlying29 info4 rfl (by decide) HR.out [.bool (!b)] 4 _ rfl rfl rfl rfl (fun u hu => by simp at hu; subst hu; rfl) (by omega) (by omega) ?_; intro sx cx w2 _ m2; have M2 := hid m2; clear m2)
      exact ⟨⟨i + 1, hlt, by go_num, by rw [HTK.out]; exact M2.out⟩, by simp [intOf]; omega⟩
    · have HF : Hid (Mk w wr 4 1 (.slice sv i cv) l.length (bo (l.map not))) := by
        have h := HR.out
        rw [List.take_of_length_le (by simp; omega), show i = l.length by omega] at h
        rw [show i = l.length by omega]
        exact h
      clear HR
      go_wp2
      go_ret
      exact ⟨_, rfl, HF.out⟩

/-- the first i turned. -/
def bturn (l : List Bool) (i : Nat) : List Bool := (l.take i).map not ++ l.drop i
theorem bturn_at (l : List Bool) (i : Nat) (b : Bool) (h : l[i]? = some b) : (bturn l i)[i]? = some b := by
  have hi := (List.getElem?_eq_some_iff.1 h).1
  unfold bturn
  rw [List.getElem?_append_right (by simp; omega), List.getElem?_drop]
  simp
  rw [show i + (i - min i l.length) = i by omega]
  exact h
theorem bturn_set (l : List Bool) (i : Nat) (b : Bool) (h : l[i]? = some b) : (bturn l i).set i (!b) = bturn l (i + 1) := by
  have hi := (List.getElem?_eq_some_iff.1 h).1
  have hb := (List.getElem?_eq_some_iff.1 h).2
  unfold bturn
  have hlen : ((l.take i).map not).length = i := by simp; omega
  rw [List.set_append_right _ _ (by omega), hlen, Nat.sub_self, List.take_add_one, h, List.drop_eq_getElem_cons hi, hb]
  simp
set_option maxHeartbeats 1000000 in
set_option maxRecDepth 100000 in
theorem flip_any (l : List Bool) (s : Option Addr) (ca B : Nat) (w : World) (ho : w.ownsRow B 4 1 (.slice s l.length ca) l.length (bo l)) (hl : l.length ≤ 140737488351232) :
    Calls Tryd.prog 34 #[.slice s l.length ca] w fun e w' => (∃ u, e = .returned u) ∧ w'.ownsRow B 4 1 (.slice s l.length ca) l.length (bo (l.map not)) ∧ w.grownBy w' (Value.slice s l.length ca).ownBlock := by
  have HR0 : Hid (w.ownsRow B 4 1 (.slice s l.length ca) l.length (bo (bturn l 0)) ∧ w.grownBy w (Value.slice s l.length ca).ownBlock) := ⟨by simpa [bturn] using ho, World.grownBy.refl _ _⟩
  clear ho
  go_enter Tryd.func34, Tryd.ntmps34
  go_wp2
  go_loopw [2] (fun iv W => ∃ i : Nat, i ≤ l.length ∧ iv = .int .i64 (i : Int) ∧ Hid (W.ownsRow B 4 1 (.slice s l.length ca) l.length (bo (bturn l i)) ∧ w.grownBy W (Value.slice s l.length ca).ownBlock)) (fun iv _ => l.length - (intOf iv).toNat)
  case atStart => exact ⟨0, Nat.zero_le _, rfl, HR0.out⟩
  case round =>
    obtain ⟨i, hi, rfl, HR⟩ := hrel
    clear HR0
    by_cases hlt : i < l.length
    · obtain ⟨b, hb⟩ : ∃ b, l[i]? = some b := ⟨_, List.getElem?_eq_getElem hlt⟩
      obtain ⟨g, c, hv, _, hg, hc0, hf0⟩ := own_cell HR.out.1 (j := i) (x := .bool b) (by simp [bo, bturn_at l i b hb])
      have hv2 := hv
      simp only [Value.slice.injEq, true_and] at hv
      obtain ⟨rfl, rfl⟩ := hv
      obtain ⟨h1, h2⟩ := own_set HR.out.1 (j := i) hv2 (.bool (!b))
      have HR2 : Hid ((wr.setCell ⟨g, i, none⟩ (.bool (!b))).ownsRow B 4 1 (.slice (some ⟨g, 0, none⟩) l.length ca) l.length (bo (bturn l (i + 1))) ∧ w.grownBy (wr.setCell ⟨g, i, none⟩ (.bool (!b))) (Value.slice (some ⟨g, 0, none⟩) l.length ca).ownBlock) := by
        refine ⟨?_, grown_trans HR.out.2 h2⟩
        rw [← bturn_set l i b hb]
        have e : bo ((bturn l i).set i (!b)) = (bo (bturn l i)).set i (.bool (!b)) := by simp [bo, List.map_set]
        rw [e]
        exact h1
      clear hb hv2 h1 h2 HR
      go_wp2
      exact ⟨⟨i + 1, hlt, by go_num, HR2.out⟩, by simp [intOf]; omega⟩
    · have HF : Hid (wr.ownsRow B 4 1 (.slice s l.length ca) l.length (bo (l.map not)) ∧ w.grownBy wr (Value.slice s l.length ca).ownBlock) := by
        have h := HR.out
        have e : bturn l i = l.map not := by unfold bturn; rw [List.take_of_length_le (by omega), List.drop_of_length_le (by omega), List.append_nil]
        rw [e] at h
        exact h
      clear HR
      go_wp2
      first | go_end0 | refine bodyPost_end (results_none rfl _ _ _) rfl ?_
      exact ⟨⟨_, rfl⟩, HF.out⟩
end Go.Proofs.YtfmmmhcpdinhgaaDoor
/-
  The law's own grown.
-/
namespace Go.Proofs.YtfmmmhcpdinhgaaDoor
open Go.RowKit Go.Deep PureNet ShfKit
set_option maxRecDepth 100000

def gbit (v : Int) (i : Nat) : Bool := bits BinOp.and IntKind.i64 (v / 2 ^ (i % 16)) 1 == 1
def gbits (v : Int) (i : Nat) : List Bool := (List.range i).map (gbit v)
theorem gbits_succ (v : Int) (i : Nat) : gbits v (i + 1) = gbits v i ++ [gbit v i] := by simp [gbits, List.range_succ]
theorem bo_app (a b : List Bool) : bo (a ++ b) = bo a ++ bo b := by simp [bo]
/-- one block may turn, and what is new. -/
theorem grown_far {w W W' : World} {b0 : Option Nat} {u u' : Value} (h : w.grownBy W b0) (hf : Far W W' u u') (hu : ∀ k, u.ownBlock = some k → b0 = some k ∨ w.heap.size ≤ k) : w.grownBy W' b0 ∧ ∀ k, u'.ownBlock = some k → b0 = some k ∨ w.heap.size ≤ k := by
  rcases hf with ⟨e, hg⟩ | ⟨hn, hg⟩
  · refine ⟨⟨hg.os.trans h.os, hg.tape.trans h.tape, hg.output.trans h.output, Nat.le_trans h.size hg.size, fun k hk hne => ?_⟩, fun k hk => hu k (e ▸ hk)⟩
    rw [hg.block k (Nat.lt_of_lt_of_le hk h.size) (fun e2 => ?_), h.block k hk hne]
    rcases hu k e2.symm with h1 | h1
    · exact hne h1.symm
    · omega
  · refine ⟨⟨hg.os.trans h.os, hg.tape.trans h.tape, hg.output.trans h.output, Nat.le_trans h.size hg.size, fun k hk hne => ?_⟩, fun k hk => .inr (Nat.le_trans h.size (hn k hk))⟩
    rw [hg.block k (Nat.lt_of_lt_of_le hk h.size) (fun e2 => by cases e2), h.block k hk hne]
theorem grown_on {w W W' : World} {b0 : Option Nat} (h : w.grownBy W b0) (hb : Below W.heap.size W W') : w.grownBy W' b0 := grown_below h hb

set_option maxHeartbeats 2000000 in
theorem grown_any (v : Int) (s : Option Addr) (n ca B : Nat) (A : List Value) (w : World) (ho : w.ownsRow B 4 1 (.slice s n ca) n A) (hB : B ≤ w.heap.size) (hn : n ≤ 1099511000000) :
    Calls Tryd.prog 63 #[.slice s n ca, .int .i64 v] w fun e w' => ∃ u, e = .returned u ∧ Pair w' B 4 1 (.slice s n ca) n A u (n + 64) (A ++ bo (gbits v 64)) ∧ w.grownBy w' (Value.slice s n ca).ownBlock ∧ ∀ k, u.ownBlock = some k → (Value.slice s n ca).ownBlock = some k ∨ w.heap.size ≤ k := by
  have HO := hid ho
  clear ho
  go_enter Tryd.func63, Tryd.ntmps63
  go_wp2
  go_loopg [0, 5] 64 (fun k lv iv W => ∃ (i : Nat) (sx : Option Addr) (cx : Nat), i ≤ 64 ∧ k = 64 - i ∧ iv = .int .i64 (i : Int) ∧ lv = .slice sx (n + i) cx ∧ Hid (Pair W B 4 1 (.slice s n ca) n A (.slice sx (n + i) cx) (n + i) (A ++ bo (gbits v i)) ∧ w.grownBy W (Value.slice s n ca).ownBlock ∧ ∀ k, (Value.slice sx (n + i) cx).ownBlock = some k → (Value.slice s n ca).ownBlock = some k ∨ w.heap.size ≤ k))
  case atStart => exact ⟨0, s, ca, Nat.zero_le _, rfl, rfl, rfl, by show Pair _ _ _ _ _ _ _ _ _ (A ++ []); rw [List.append_nil]; exact Pair.start HO.out, World.grownBy.refl _ _, fun k hk => .inl hk⟩
  case round =>
    clear HO
    obtain ⟨i, sx, cx, hi, hgk, rfl, rfl, HR1⟩ := hrel
    subst hgk
    by_cases hlt : i < 64
    · go_wp2_with (at_builtin; refine wpl_one rfl _ _ 29 rfl B 4 _ 1 1 Tryd.underlying29 info4 rfl (by decide) (.slice sx (n + i) cx) (n + i) _ rfl HR1.out.1.own [.bool (gbit v i)] 4 _ rfl rfl rfl (fun u hu => by simp at hu; subst hu; rfl) (by omega) (by omega) (Nat.le_trans hB HR1.out.2.1.size) ?_; intro v8 w8 o8 f8; obtain ⟨sy, cy, rfl⟩ := own_shape o8; have p1 := HR1.out.1.kept (W' := wr.alloc (.cells #[.bool (gbit v i)] 4)) (by simp) (fun k hk => Below.heap_alloc _ _ _ (HR1.out.1.blk hk).2); have p2 := p1.grow o8 f8; have g2 := grown_far (grown_on HR1.out.2.1 ((Below.refl _ _).alloc (Nat.le_refl _) _)) f8 HR1.out.2.2; rw [List.append_assoc, show bo (gbits v i) ++ [Value.bool (gbit v i)] = bo (gbits v (i + 1)) from (by rw [gbits_succ, bo_app]; rfl)] at p2; have P2 := hid p2.1; have G2 := hid g2; clear o8 f8 p1 p2 g2)
      go_roundg (64 - (i + 1))
      case measure => omega
      case rel => exact ⟨i + 1, _, _, hlt, rfl, by go_num, rfl, P2.out, G2.out.1, G2.out.2⟩
    · obtain rfl : i = 64 := by omega
      go_wp2
      go_ret
      exact ⟨_, rfl, HR1.out.1, HR1.out.2.1, HR1.out.2.2⟩
end Go.Proofs.YtfmmmhcpdinhgaaDoor
/-
  The law's own alone: what it keeps.
-/
namespace Go.Proofs.YtfmmmhcpdinhgaaDoor
open Go.RowKit Go.Deep PureNet ShfKit
set_option maxRecDepth 100000

/-- a list that was handed out, and what was grown out of it. -/
structure Pr where
  v : Value
  A : List Bool
  u : Value
  M : List Bool
/-- such lists, no two in one block. -/
structure PF (W : World) (B : Nat) (L : List Pr) : Prop where
  pair : ∀ (i : Nat) (x : Pr), L[i]? = some x → Pair W B 4 1 x.v x.A.length (bo x.A) x.u x.M.length (bo x.M)
  apart : ∀ (i j : Nat) (x y : Pr) (k : Nat), L[i]? = some x → L[j]? = some y → i ≠ j → InB x.v x.u k → InB y.v y.u k → False
/-- a block of none of them. -/
def Free (L : List Pr) (s : Option Addr) (xs : List Value) : Prop := xs ≠ [] → ∀ b o sp, s = some ⟨b, o, sp⟩ → ∀ x ∈ L, ¬ InB x.v x.u b
theorem PF.below {W W' : World} {B : Nat} {L : List Pr} (h : PF W B L) (hb : Below W.heap.size W W') : PF W' B L :=
  ⟨fun i x hx => (h.pair i x hx).kept hb.size fun k hk => hb.block k ((h.pair i x hx).blk hk).2, h.apart⟩
/-- one of them turns, in a block of its own or a new one. -/
theorem PF.turn {W W' : World} {B : Nat} {L : List Pr} {i : Nat} {x y : Pr} {b : Option Nat} (h : PF W B L) (hx : L[i]? = some x) (hp : Pair W' B 4 1 y.v y.A.length (bo y.A) y.u y.M.length (bo y.M)) (hg : W.grownBy W' b) (hb : ∀ k, b = some k → InB x.v x.u k) (hy : ∀ k, InB y.v y.u k → InB x.v x.u k ∨ W.heap.size ≤ k) : PF W' B (L.set i y) := by
  have hi := (List.getElem?_eq_some_iff.1 hx).1
  have old : ∀ (j : Nat) (z : Pr), j ≠ i → L[j]? = some z → Pair W' B 4 1 z.v z.A.length (bo z.A) z.u z.M.length (bo z.M) := fun j z hj hz =>
    (h.pair j z hz).kept hg.size fun k hk => hg.block k ((h.pair j z hz).blk hk).2 (fun e => h.apart j i z x k hz hx hj hk (hb k e.symm))
  have get : ∀ (j : Nat) (z : Pr), (L.set i y)[j]? = some z → (j = i ∧ z = y) ∨ (j ≠ i ∧ L[j]? = some z) := fun j z hz => by
    rw [List.getElem?_set] at hz
    by_cases e : i = j
    · rw [if_pos e, if_pos (by omega)] at hz
      exact .inl ⟨e.symm, (Option.some.inj hz).symm⟩
    · rw [if_neg e] at hz
      exact .inr ⟨fun e2 => e e2.symm, hz⟩
  have cross : ∀ (j : Nat) (z : Pr) (k : Nat), j ≠ i → L[j]? = some z → InB z.v z.u k → InB y.v y.u k → False := fun j z k hj hz hk hk2 => by
    rcases hy k hk2 with h1 | h1
    · exact h.apart j i z x k hz hx hj hk h1
    · have := ((h.pair j z hz).blk hk).2
      omega
  refine ⟨fun j z hz => ?_, fun j m z u k hz hu hjm hk hk2 => ?_⟩
  · rcases get j z hz with ⟨rfl, rfl⟩ | ⟨hj, hz⟩
    · exact hp
    · exact old j z hj hz
  · rcases get j z hz with ⟨rfl, rfl⟩ | ⟨hj, _⟩
    · rcases get m u hu with ⟨e1, e2⟩ | ⟨hm, hu⟩
      · exact hjm e1.symm
      · exact cross m u k hm hu hk2 hk
    · rename_i hz9
      rcases get m u hu with ⟨e1, e2⟩ | ⟨hm, hu⟩
      · exact cross j z k hj hz9 hk (e2 ▸ hk2)
      · exact h.apart j m z u k hz9 hu hjm hk hk2
/-- what else lies there stays. -/
theorem free_cells {W W' : World} {L : List Pr} {i : Nat} {x : Pr} {b : Option Nat} {s : Option Addr} {xs : List Value} (hc : CellsAt W s xs) (hf : Free L s xs) (hx : L[i]? = some x) (hg : W.grownBy W' b) (hb : ∀ k, b = some k → InB x.v x.u k) : CellsAt W' s xs := ⟨fun k u hu => by
  obtain ⟨g, o, e, hlt, hce⟩ := hc.at_ k u hu
  refine ⟨g, o, e, Nat.lt_of_lt_of_le hlt hg.size, ?_⟩
  have hbk := hg.block g hlt (fun e2 => hf (fun e3 => by rw [e3] at hu; simp at hu) g o none e x (List.mem_of_getElem? hx) (hb g e2.symm))
  rw [World.cell?_of_block (w := W) hbk]
  exact hce⟩
/-- what stays free. -/
theorem Free.turn {W : World} {L : List Pr} {i : Nat} {x y : Pr} {s : Option Addr} {xs : List Value} (h : Free L s xs) (hc : CellsAt W s xs) (hx : L[i]? = some x) (hy : ∀ k, InB y.v y.u k → InB x.v x.u k ∨ W.heap.size ≤ k) : Free (L.set i y) s xs := fun hxs b o sp e z hz hk => by
  rcases List.mem_or_eq_of_mem_set hz with hz | rfl
  · exact h hxs b o sp e z hz hk
  · rcases hy b hk with h1 | h1
    · exact h hxs b o sp e x (List.mem_of_getElem? hx) h1
    · obtain ⟨u, hu⟩ : ∃ u, xs[0]? = some u := by
        cases xs with
        | nil => exact absurd rfl hxs
        | cons u r => exact ⟨u, rfl⟩
      obtain ⟨g, o2, e2, hlt, _⟩ := hc.at_ 0 u hu
      rw [e] at e2
      cases e2
      omega
/-- a want: a list that can be read. -/
def Wnt (W : World) (L : List Pr) (x : Value × List Bool) : Prop := ∃ s c, x.1 = .slice s x.2.length c ∧ CellsAt W s (bo x.2) ∧ Free L s (bo x.2)
/-- what alone has in hand. -/
structure Al (W : World) (B : Nat) (sl sw : Option Addr) (L : List Pr) (Wn : List (Value × List Bool)) : Prop where
  lists : CellsAt W sl (L.map Pr.v)
  offL : Free L sl (L.map Pr.v)
  wants : CellsAt W sw (Wn.map Prod.fst)
  offW : Free L sw (Wn.map Prod.fst)
  pf : PF W B L
  want : ∀ x ∈ Wn, Wnt W L x
theorem Wnt.below {W W' : World} {L : List Pr} {x : Value × List Bool} (h : Wnt W L x) (hb : Below W.heap.size W W') : Wnt W' L x := by
  obtain ⟨s, c, e, hc, hf⟩ := h
  exact ⟨s, c, e, hc.below hb, hf⟩
theorem Al.below {W W' : World} {B : Nat} {sl sw : Option Addr} {L : List Pr} {Wn : List (Value × List Bool)} (h : Al W B sl sw L Wn) (hb : Below W.heap.size W W') : Al W' B sl sw L Wn :=
  ⟨h.lists.below hb, h.offL, h.wants.below hb, h.offW, h.pf.below hb, fun x hx => (h.want x hx).below hb⟩
theorem set_map_v {L : List Pr} {i : Nat} {x y : Pr} (hx : L[i]? = some x) (hv : y.v = x.v) : (L.set i y).map Pr.v = L.map Pr.v := by
  rw [List.map_set]
  have hi := (List.getElem?_eq_some_iff.1 hx).1
  have : (L.map Pr.v)[i]? = some y.v := by rw [List.getElem?_map, hx, hv]; rfl
  have hi2 : i < (L.map Pr.v).length := by simpa using hi
  have h2 := List.set_getElem_self hi2
  rw [(List.getElem?_eq_some_iff.1 this).2] at h2
  exact h2
theorem Al.turn {W W' : World} {B : Nat} {sl sw : Option Addr} {L : List Pr} {Wn : List (Value × List Bool)} {i : Nat} {x y : Pr} {b : Option Nat} (h : Al W B sl sw L Wn) (hx : L[i]? = some x) (hv : y.v = x.v) (hp : Pair W' B 4 1 y.v y.A.length (bo y.A) y.u y.M.length (bo y.M)) (hg : W.grownBy W' b) (hb : ∀ k, b = some k → InB x.v x.u k) (hy : ∀ k, InB y.v y.u k → InB x.v x.u k ∨ W.heap.size ≤ k) : Al W' B sl sw (L.set i y) Wn := by
  refine ⟨by rw [set_map_v hx hv]; exact free_cells h.lists h.offL hx hg hb, by rw [set_map_v hx hv]; exact h.offL.turn h.lists hx hy, free_cells h.wants h.offW hx hg hb, h.offW.turn h.wants hx hy, h.pf.turn hx hp hg hb hy, fun z hz => ?_⟩
  obtain ⟨s, c, e, hc, hf⟩ := h.want z hz
  exact ⟨s, c, e, free_cells hc hf hx hg hb, hf.turn hc hx hy⟩
end Go.Proofs.YtfmmmhcpdinhgaaDoor
/-
  The law's own alone.
-/
namespace Go.Proofs.YtfmmmhcpdinhgaaDoor
open Go.RowKit Go.Deep PureNet ShfKit
set_option maxRecDepth 100000

theorem own_cells4 {W : World} {B n c : Nat} {s : Option Addr} {xs : List Value} (h : W.ownsRow B 4 1 (.slice s n c) n xs) : CellsAt W s xs := by
  obtain ⟨sa, c', hv, hc, _⟩ := own_cells h
  cases hv
  exact hc
/-- the list that was handed out, read. -/
theorem pair_cells {W : World} {B n m : Nat} {v u : Value} {A M : List Value} (h : Pair W B 4 1 v n A u m M) : ∃ sa c, v = .slice sa n c ∧ CellsAt W sa A := by
  obtain ⟨sa, c, hv⟩ := h.shape
  refine ⟨sa, c, hv, ⟨fun k x hx => ?_⟩⟩
  obtain ⟨hk, e⟩ := List.getElem?_eq_some_iff.1 hx
  obtain ⟨g, c2, hv2, _, hlt, hce⟩ := h.rd k hk
  rw [hv] at hv2
  simp only [Value.slice.injEq] at hv2
  exact ⟨g, 0, hv2.1, hlt, by rw [Nat.zero_add, ← e]; exact hce⟩
/-- the state of alone: i have been flipped, k have been grown. -/
structure As (W : World) (B : Nat) (sl sw : Option Addr) (P : List Pr) (Wn : List (Value × List Bool)) (m i k : Nat) : Prop where
  al : Al W B sl sw P Wn
  len : P.length = m
  wlen : Wn.length = m
  one : ∀ (j : Nat) (x : Pr) (wn : Value × List Bool), P[j]? = some x → Wn[j]? = some wn → x.A = (if j < i then wn.2.map not else wn.2) ∧ (j < k → x.M = x.A ++ gbits ((j : Int) + 1) 64) ∧ (k ≤ j → x.u = x.v ∧ x.M = x.A)
theorem As.below {W W' : World} {B m i k : Nat} {sl sw : Option Addr} {P : List Pr} {Wn : List (Value × List Bool)} (h : As W B sl sw P Wn m i k) (hb : Below W.heap.size W W') : As W' B sl sw P Wn m i k := ⟨h.al.below hb, h.len, h.wlen, h.one⟩
/-- what stands at a place. -/
theorem As.at_ {W : World} {B m i k j : Nat} {gl ol gw ow : Nat} {P : List Pr} {Wn : List (Value × List Bool)} (h : As W B (some ⟨gl, ol, none⟩) (some ⟨gw, ow, none⟩) P Wn m i k) (hj : j < m) :
    ∃ (x : Pr) (wn : Value × List Bool) (sv : Option Addr) (cv : Nat) (sn : Option Addr) (cn : Nat), P[j]? = some x ∧ Wn[j]? = some wn ∧ x.v = .slice sv x.A.length cv ∧ wn.1 = .slice sn wn.2.length cn ∧ CellsAt W sv (bo x.A) ∧ CellsAt W sn (bo wn.2) ∧ W.cell? ⟨gl, ol + j, none⟩ = some (.slice sv x.A.length cv) ∧ W.cell? ⟨gw, ow + j, none⟩ = some (.slice sn wn.2.length cn) ∧ gl < W.heap.size ∧ gw < W.heap.size := by
  obtain ⟨x, hx⟩ : ∃ x, P[j]? = some x := ⟨_, List.getElem?_eq_getElem (by rw [h.len]; exact hj)⟩
  obtain ⟨wn, hw⟩ : ∃ wn, Wn[j]? = some wn := ⟨_, List.getElem?_eq_getElem (by rw [h.wlen]; exact hj)⟩
  obtain ⟨sv, cv, hv, hc⟩ := pair_cells (h.al.pf.pair j x hx)
  obtain ⟨sn, cn, hn, hcn, _⟩ := h.al.want wn (List.mem_of_getElem? hw)
  obtain ⟨_, _, e1, hl1, c1⟩ := h.al.lists.at_ j x.v (by rw [List.getElem?_map, hx]; rfl)
  obtain ⟨_, _, e2, hl2, c2⟩ := h.al.wants.at_ j wn.1 (by rw [List.getElem?_map, hw]; rfl)
  cases e1
  cases e2
  rw [hv] at c1
  rw [hn] at c2
  exact ⟨x, wn, sv, cv, sn, cn, hx, hw, hv, hn, hc, hcn, c1, c2, hl1, hl2⟩

/-- a row of lists grows, above all that was there. -/
theorem Al.push {wS W W' : World} {B n : Nat} {sl sw : Option Addr} {P PS : List Pr} {Wn : List (Value × List Bool)} {mv mv' : Value} {ys : List Value} (hS : Al wS B sl sw PS Wn) (h : Al W B sl sw P Wn) (hv : P.map Pr.v = PS.map Pr.v) (hSW : wS.heap.size ≤ W.heap.size) (ho : W.ownsRow wS.heap.size 29 1 mv n ys) (hf : Far W W' mv mv') : Al W' B sl sw P Wn := by
  have hb : Below wS.heap.size W W' := hf.below (Below.refl _ _) hSW (fun g hg => (ShfKit.own_block ho hg).1)
  have keep : ∀ {s : Option Addr} {xs : List Value}, CellsAt wS s xs → CellsAt W s xs → CellsAt W' s xs := fun {s xs} h1 h2 => ⟨fun k u hu => by
    obtain ⟨g, o, e, hlt, _⟩ := h1.at_ k u hu
    obtain ⟨g2, o2, e2, hlt2, hce⟩ := h2.at_ k u hu
    rw [e] at e2
    cases e2
    exact ⟨g, o, e, Nat.lt_of_lt_of_le hlt2 hb.size, (hb.cell (p := ⟨g, o + k, none⟩) hlt).trans hce⟩⟩
  refine ⟨keep (by rw [hv]; exact hS.lists) h.lists, h.offL, keep hS.wants h.wants, h.offW, ⟨fun i x hx => ?_, h.pf.apart⟩, fun x hx => ?_⟩
  · refine (h.pf.pair i x hx).kept hb.size fun k hk => ?_
    obtain ⟨y, hy, e⟩ : ∃ y, PS[i]? = some y ∧ y.v = x.v := by
      have h1 : (PS.map Pr.v)[i]? = some x.v := by rw [← hv, List.getElem?_map, hx]; rfl
      rw [List.getElem?_map, Option.map_eq_some_iff] at h1
      obtain ⟨y, hy, e⟩ := h1
      exact ⟨y, hy, e⟩
    rcases hk with hk | hk
    · exact hb.block k ((hS.pf.pair i y hy).lo k (by rw [e]; exact hk)).2
    · have hu := (h.pf.pair i x hx).own
      have hlt := (ShfKit.own_block hu hk).2
      rcases hf with ⟨_, hg⟩ | ⟨_, hg⟩
      · refine hg.block k hlt (fun e2 => ?_)
        obtain ⟨c1, f1, k1⟩ := Lib.ownsRow_kind hu k hk
        exact own_ne ho k1 (by decide) e2.symm
      · exact hg.block k hlt (fun e2 => by cases e2)
  · obtain ⟨s, c, e, hc, hfr⟩ := h.want x hx
    obtain ⟨s2, c2, e2, hc2, _⟩ := hS.want x hx
    rw [e] at e2
    simp only [Value.slice.injEq] at e2
    refine ⟨s, c, e, keep ?_ hc, hfr⟩
    rw [e2.1]
    exact hc2
theorem take_set_u {P : List Pr} {i : Nat} {y : Pr} (hi : i < P.length) : ((P.set i y).take (i + 1)).map Pr.u = (P.take i).map Pr.u ++ [y.u] := by
  have h1 : (P.set i y)[i]? = some y := by rw [List.getElem?_set_self hi]
  have h2 : (P.set i y).take i = P.take i := by rw [List.take_set, List.set_eq_of_length_le (by simp; omega)]
  rw [List.take_add_one, h1, h2]
  simp

end Go.Proofs.YtfmmmhcpdinhgaaDoor
