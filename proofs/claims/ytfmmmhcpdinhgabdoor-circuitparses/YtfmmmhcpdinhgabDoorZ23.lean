import Derived.Test.YtfmmmhcpdinhgabDoorZ22
/-
  The first line that is in a circle, or none.
-/
namespace Go.Proofs.YtfmmmhcpdinhgabDoor
open Go.RowKit Go.Deep PureNet ShfKit
set_option maxRecDepth 100000

set_option maxHeartbeats 4000000 in
theorem firstInCircle_gen (l : List Ga) (sg : Option Addr) (cg n : Nat) (w : World) (hc : CellsAt w sg (gas l)) (hkd : KindsAt w) (hn : n = l.length) (hfew : n ≤ 65536)
    (hlines : ∀ (i : Nat) (g : Ga), l[i]? = some g → (1 ≤ g.kind ∧ g.kind ≤ 4) ∧ ∀ a ∈ leansOn g, 0 ≤ a ∧ a < (l.length : Int)) :
    Calls Tryd.prog 37 #[.slice sg n cg] w fun e W' => (∃ r, e = .returned (.int .i64 r) ∧ CircleIs l r) ∧ Below w.heap.size w W' := by
  have SD := hid (searched_gen l sg cg n w hc hkd hn hfew hlines)
  have HC := hid hc
  have KD := hid hkd
  have HN := hid hn
  have HL := hid hlines
  clear hc hkd hn hlines
  go_enter Tryd.func37, Tryd.ntmps37
  go_wp2_with (fail)
  refine wp_scope_jumps 0 (fun a' w' => ∃ (i : Nat) (u0 u1 u2 u3 u5 u6 u7 u8 u9 u10 u11 u12 u13 u14 u15 u16 u17 u18 u19 u20 u21 u22 u23 u24 u25 u26 u27 u28 u29 u30 u31 u32 u33 u34 u35 u36 u37 u38 : Value), a' = { tmps := #[u0, u1, u2, u3, .int .i64 (i : Int), u5, u6, u7, u8, u9, u10, u11, u12, u13, u14, u15, u16, u17, u18, u19, u20, u21, u22, u23, u24, u25, u26, u27, u28, u29, u30, u31, u32, u33, u34, u35, u36, u37, u38], defers := [] } ∧ Hid (i < l.length ∧ PureNet.Way l i i ∧ (∀ j, j < i → ¬ PureNet.Way l j j) ∧ Below w.heap.size w w')) (fun _ _ => 0) rfl ?_ ?_
  rotate_left 1
  · rintro a' w' ⟨i, u0, u1, u2, u3, u5, u6, u7, u8, u9, u10, u11, u12, u13, u14, u15, u16, u17, u18, u19, u20, u21, u22, u23, u24, u25, u26, u27, u28, u29, u30, u31, u32, u33, u34, u35, u36, u37, u38, rfl, HJ⟩
    go_wp2
    simp only [Exit.jump]
    refine bodyPost_ret (P := Tryd.prog) (fn := Tryd.f37) (v := .int .i64 (i : Int)) ?_ rfl ⟨⟨_, rfl, .inr ⟨i, rfl, HJ.out.1, HJ.out.2.1, HJ.out.2.2.1⟩⟩, HJ.out.2.2.2⟩
    simp [results, Tryd.results37, go_sem]
  go_wp2_with (first | (go_at_call 56; refine Calls.mono SD.out ?_; rintro e w1 ⟨p, s, mv, rv, pv, wv, tv, ov, rs, rfl, hs1, hsr1, _, hall1⟩; have SE1 := hid hs1; have SR1 := hid hsr1; have HA1 := hid hall1; have c1 := hs1.cell; have hp1 := hs1.size; clear hs1 hsr1 hall1))
  have PC : Hid (∀ x y, Leans l x y → (s.part y = s.part x ↔ (y = x ∨ PureNet.Way l y x))) := fun x y hxy => SR1.out.circle (fun z hz => HA1.out z (by rw [HN.out]; exact hz)) (fun i g hg => (HL.out i g hg).2) hxy
  clear c1 hp1 SD
  go_loopw [14] (fun iv W => ∃ i : Nat, i ≤ n ∧ iv = .int .i64 (i : Int) ∧ Hid ((∀ j, j < i → ¬ PureNet.Way l j j) ∧ Below w1.heap.size w1 W)) (fun iv _ => n - (intOf iv).toNat)
  case atStart => exact ⟨0, Nat.zero_le _, rfl, fun j hj => by omega, Below.refl _ _⟩
  case round =>
    obtain ⟨i, hi, rfl, HB0⟩ := hrel
    have HB := hid HB0.out.2
    have HFR := hid HB0.out.1
    clear HB0
    by_cases hlt : i < n
    · obtain ⟨g, hg⟩ : ∃ g, l[i]? = some g := ⟨_, List.getElem?_eq_getElem (by rw [← HN.out]; exact hlt)⟩
      have bw : Below w.heap.size w wr := SE1.out.below.trans (HB.out.mono SE1.out.below.size)
      obtain ⟨gb, go, rfl, hgb, a0, a1, a2, a3, a4, a5⟩ := gate_at (HC.out.below bw) i g hg
      obtain ⟨gp, cp, hpv, _, hgps, _⟩ := SE1.out.row (i := 2) (by omega) rfl hlt
      subst hpv
      have PL := hid (pleans_any g wr (KD.out.on bw) (HL.out i g hg).1 (fun a ha => ((HL.out i g hg).2 a ha).1))
      have HG := hid hg
      have BW := hid bw
      clear hg bw
      go_wp2_with (first | (go_at_call 57; refine Calls.mono PL.out ?_; rintro e w3 ⟨lv, lr, rfl, hlf, hlo, b3⟩; have LO := hid hlo; have B3 := hid b3; obtain ⟨lq, hlq⟩ : ∃ lq, lq = ((leansOn g).map Int.toNat).length := ⟨_, rfl⟩; obtain ⟨sq, cq, hlv, hlq2, hlr⟩ := hlf; rw [← hlq] at hlv; subst hlv; have LR := hid hlr; have LQ := hid hlq; have hlq3 : lq ≤ 3 := (by rw [hlq, List.length_map]; unfold leansOn; split; (· simp); (· split <;> simp)); clear hlo b3 hlq hlq2 hlr))
      go_loopw [23] (fun kv W => ∃ k : Nat, k ≤ lq ∧ kv = .int .i64 (k : Int) ∧ Hid ((∀ (j y : Nat), j < k → ((leansOn g).map Int.toNat)[j]? = some y → s.part y ≠ s.part i) ∧ Below w3.heap.size w3 W)) (fun kv _ => lq - (intOf kv).toNat)
      case atStart => exact ⟨0, Nat.zero_le _, rfl, fun j y hj => by omega, Below.refl _ _⟩
      case round =>
        obtain ⟨k, hk, rfl, HB9⟩ := hrel
        have HB4 := hid HB9.out.2
        have HNO := hid HB9.out.1
        clear HB9
        by_cases hkl : k < lq
        · obtain ⟨y, hy⟩ : ∃ y, ((leansOn g).map Int.toNat)[k]? = some y := ⟨_, List.getElem?_eq_getElem (by rw [← LQ.out]; exact hkl)⟩
          obtain ⟨gl, kl, rfl, hgl, hrow⟩ := LR.out (fun e => by rw [e] at hy; simp at hy)
          have hly : Leans l i y := by
            refine ⟨g, HG.out, ?_⟩
            have hy2 := hy
            rw [List.getElem?_map, Option.map_eq_some_iff] at hy2
            obtain ⟨a, ha, rfl⟩ := hy2
            have hm := List.mem_of_getElem? ha
            rw [Int.toNat_of_nonneg ((HL.out i g HG.out).2 a hm).1]
            exact hm
          have hyn : y < n := by
            obtain ⟨g2, hg2, hm⟩ := hly
            have := ((HL.out i g2 hg2).2 _ hm).2
            rw [HN.out]
            omega
          have HPI := hid (PC.out i y hly)
          have HLY := hid hly
          have HY := hid hy
          obtain ⟨g5, c5, hv5, _, hg5, hc5, _⟩ := own_cell LO.out (hrow k y hy)
          rw [hv5] at hgl
          cases hgl
          have hcy : wr.cell? ⟨g5, kl + k, none⟩ = some (.int .i64 (y : Int)) := below_cell HB4.out hg5 hc5
          have bx : Below w1.heap.size w1 wr := HB.out.trans ((B3.out.trans (HB4.out.mono B3.out.size)).mono HB.out.size)
          obtain ⟨_, _, e9, _, _, hpy, _⟩ := (SE1.out.on bx).row (i := 2) (by omega) rfl hyn
          simp only [Value.slice.injEq, Option.some.injEq, Addr.mk.injEq, and_true, true_and] at e9
          obtain ⟨rfl, rfl⟩ := e9
          obtain ⟨_, _, e9, _, _, hpi, _⟩ := (SE1.out.on bx).row (i := 2) (by omega) rfl hlt
          simp only [Value.slice.injEq, Option.some.injEq, Addr.mk.injEq, and_true, true_and] at e9
          obtain ⟨rfl, rfl⟩ := e9
          have hgls : g5 < wr.heap.size := Nat.lt_of_lt_of_le hg5 HB4.out.size
          have BX := hid bx
          clear hy hrow hly hv5 hc5 bx
          by_cases hpe : s.part y = s.part i
          · have hpne : (s.part y == s.part i) = true := by rw [hpe]; exact beq_self_eq_true _
            have HPE := hid hpe
            clear hpe
            go_wp2
            refine wp_region_noPanic ?_
            refine wp_region_held_drew (S := fun W => W.cell? ⟨gp, y, none⟩ = some (.int .i64 (s.part y)) ∧ W.cell? ⟨gp, i, none⟩ = some (.int .i64 (s.part i))) (by kernel_rfl) ⟨hpy, hpi⟩ (fun hHeld => ?_)
            refine wpAnyH_take (i := 0) (v := ?_) (by simp only [List.getElem?_toArray, List.getElem?_cons_zero]; rfl) (by kernel_rfl) (by kernel_rfl) (by kernel_rfl) (fun _ _ _ h => h) (Or.inl ⟨by rfl, ?_⟩) (by assumption) ?_
            rotate_left 1
            · intro w hSw; (try dsimp only at hSw); go_simp; (try with_reducible rfl)
            try simp only [Act.put, List.setIfInBounds_toArray, List.set_cons_zero, List.set_cons_succ]
            refine wpAnyH_take (i := 1) (v := ?_) (by simp only [List.getElem?_toArray, List.getElem?_cons_succ, List.getElem?_cons_zero]; rfl) (by kernel_rfl) (by kernel_rfl) (by kernel_rfl) (fun _ _ _ h => h) (Or.inl ⟨by rfl, ?_⟩) (by assumption) ?_
            rotate_left 1
            · intro w hSw; (try dsimp only at hSw); go_simp; (try with_reducible rfl)
            try simp only [Act.put, List.setIfInBounds_toArray, List.set_cons_zero, List.set_cons_succ]
            refine wpAnyH_take (i := 2) (v := .pointer (some ⟨gp, y, none⟩)) (by simp only [List.getElem?_toArray, List.getElem?_cons_succ, List.getElem?_cons_zero]; rfl) (by kernel_rfl) (by kernel_rfl) (by kernel_rfl) (fun _ _ _ h => h) (Or.inl ⟨by rfl, ?_⟩) (by assumption) ?_
            · intro w hSw; (try dsimp only at hSw); (try go_simp); ((try rw [if_pos (by omega)]); (try simp); (try (intro h9; omega)))
            try simp only [Act.put, List.setIfInBounds_toArray, List.set_cons_zero, List.set_cons_succ]
            refine wpAnyH_take (i := 3) (v := ?_) (by simp only [List.getElem?_toArray, List.getElem?_cons_succ, List.getElem?_cons_zero]; rfl) (by kernel_rfl) (by kernel_rfl) (by kernel_rfl) (fun _ _ _ h => h) (Or.inl ⟨by rfl, ?_⟩) (by assumption) ?_
            rotate_left 1
            · intro w hSw; (try dsimp only at hSw); go_simp; (try with_reducible rfl)
            try simp only [Act.put, List.setIfInBounds_toArray, List.set_cons_zero, List.set_cons_succ]
            refine wpAnyH_take (i := 4) (v := ?_) (by simp only [List.getElem?_toArray, List.getElem?_cons_succ, List.getElem?_cons_zero]; rfl) (by kernel_rfl) (by kernel_rfl) (by kernel_rfl) (fun _ _ _ h => h) (Or.inl ⟨by rfl, ?_⟩) (by assumption) ?_
            rotate_left 1
            · intro w hSw; (try dsimp only at hSw); go_simp; (try with_reducible rfl)
            try simp only [Act.put, List.setIfInBounds_toArray, List.set_cons_zero, List.set_cons_succ]
            refine wpAnyH_take (i := 5) (v := ?_) (by simp only [List.getElem?_toArray, List.getElem?_cons_succ, List.getElem?_cons_zero]; rfl) (by kernel_rfl) (by kernel_rfl) (by kernel_rfl) (fun _ _ _ h => h) (Or.inl ⟨by rfl, ?_⟩) (by assumption) ?_
            rotate_left 1
            · intro w hSw; (try dsimp only at hSw); go_simp; (try with_reducible rfl)
            try simp only [Act.put, List.setIfInBounds_toArray, List.set_cons_zero, List.set_cons_succ]
            refine wpAnyH_take (i := 6) (v := .pointer (some ⟨gp, i, none⟩)) (by simp only [List.getElem?_toArray, List.getElem?_cons_succ, List.getElem?_cons_zero]; rfl) (by kernel_rfl) (by kernel_rfl) (by kernel_rfl) (fun _ _ _ h => h) (Or.inl ⟨by rfl, ?_⟩) (by assumption) ?_
            · intro w hSw; (try dsimp only at hSw); (try go_simp); ((try rw [if_pos (by omega)]); (try simp); (try (intro h9; omega)))
            try simp only [Act.put, List.setIfInBounds_toArray, List.set_cons_zero, List.set_cons_succ]
            refine wpAnyH_take (i := 7) (v := ?_) (by simp only [List.getElem?_toArray, List.getElem?_cons_succ, List.getElem?_cons_zero]; rfl) (by kernel_rfl) (by kernel_rfl) (by kernel_rfl) (fun _ _ _ h => h) (Or.inl ⟨by rfl, ?_⟩) (by assumption) ?_
            rotate_left 1
            · intro w hSw; (try dsimp only at hSw); go_simp; (try with_reducible rfl)
            try simp only [Act.put, List.setIfInBounds_toArray, List.set_cons_zero, List.set_cons_succ]
            refine wpAnyH_take (i := 8) (v := .bool true) (by simp only [List.getElem?_toArray, List.getElem?_cons_succ, List.getElem?_cons_zero]; rfl) (by kernel_rfl) (by kernel_rfl) (by kernel_rfl) (fun _ _ _ h => h) (Or.inl ⟨by rfl, ?_⟩) (by assumption) ?_
            · intro w hSw; (try dsimp only at hSw); (try go_simp); ((try rw [hpne]); (try simp))
            try simp only [Act.put, List.setIfInBounds_toArray, List.set_cons_zero, List.set_cons_succ]
            refine wpAnyH_done (by kernel_rfl) ?_ _
            refine NoPanic.normal ?_
            go_wp2
            go_step3
            refine ⟨rfl, i, _, _, _, _, _, _, _, _, _, _, _, _, _, _, _, _, _, _, _, _, _, _, _, _, _, _, _, _, _, _, _, _, _, _, _, _, _, _, rfl, ?_⟩
            refine ⟨by rw [← HN.out]; exact hlt, ?_, HFR.out, ?_⟩
            · rcases HPI.out.1 HPE.out with e | e
              · have := HLY.out
                rw [e] at this
                exact .one this
              · exact .more HLY.out e
            · exact (SE1.out.below.trans (BX.out.mono SE1.out.below.size)).trans (Below.refl _ _).drew
          · have hpne : (s.part y == s.part i) = false := beq_eq_false_iff_ne.2 hpe
            have HPE := hid hpe
            clear hpe
            go_wp2
            refine wp_region_noPanic ?_
            refine wp_region_held_drew (S := fun W => W.cell? ⟨gp, y, none⟩ = some (.int .i64 (s.part y)) ∧ W.cell? ⟨gp, i, none⟩ = some (.int .i64 (s.part i))) (by kernel_rfl) ⟨hpy, hpi⟩ (fun hHeld => ?_)
            refine wpAnyH_take (i := 0) (v := ?_) (by simp only [List.getElem?_toArray, List.getElem?_cons_zero]; rfl) (by kernel_rfl) (by kernel_rfl) (by kernel_rfl) (fun _ _ _ h => h) (Or.inl ⟨by rfl, ?_⟩) (by assumption) ?_
            rotate_left 1
            · intro w hSw; (try dsimp only at hSw); go_simp; (try with_reducible rfl)
            try simp only [Act.put, List.setIfInBounds_toArray, List.set_cons_zero, List.set_cons_succ]
            refine wpAnyH_take (i := 1) (v := ?_) (by simp only [List.getElem?_toArray, List.getElem?_cons_succ, List.getElem?_cons_zero]; rfl) (by kernel_rfl) (by kernel_rfl) (by kernel_rfl) (fun _ _ _ h => h) (Or.inl ⟨by rfl, ?_⟩) (by assumption) ?_
            rotate_left 1
            · intro w hSw; (try dsimp only at hSw); go_simp; (try with_reducible rfl)
            try simp only [Act.put, List.setIfInBounds_toArray, List.set_cons_zero, List.set_cons_succ]
            refine wpAnyH_take (i := 2) (v := .pointer (some ⟨gp, y, none⟩)) (by simp only [List.getElem?_toArray, List.getElem?_cons_succ, List.getElem?_cons_zero]; rfl) (by kernel_rfl) (by kernel_rfl) (by kernel_rfl) (fun _ _ _ h => h) (Or.inl ⟨by rfl, ?_⟩) (by assumption) ?_
            · intro w hSw; (try dsimp only at hSw); (try go_simp); ((try rw [if_pos (by omega)]); (try simp); (try (intro h9; omega)))
            try simp only [Act.put, List.setIfInBounds_toArray, List.set_cons_zero, List.set_cons_succ]
            refine wpAnyH_take (i := 3) (v := ?_) (by simp only [List.getElem?_toArray, List.getElem?_cons_succ, List.getElem?_cons_zero]; rfl) (by kernel_rfl) (by kernel_rfl) (by kernel_rfl) (fun _ _ _ h => h) (Or.inl ⟨by rfl, ?_⟩) (by assumption) ?_
            rotate_left 1
            · intro w hSw; (try dsimp only at hSw); go_simp; (try with_reducible rfl)
            try simp only [Act.put, List.setIfInBounds_toArray, List.set_cons_zero, List.set_cons_succ]
            refine wpAnyH_take (i := 4) (v := ?_) (by simp only [List.getElem?_toArray, List.getElem?_cons_succ, List.getElem?_cons_zero]; rfl) (by kernel_rfl) (by kernel_rfl) (by kernel_rfl) (fun _ _ _ h => h) (Or.inl ⟨by rfl, ?_⟩) (by assumption) ?_
            rotate_left 1
            · intro w hSw; (try dsimp only at hSw); go_simp; (try with_reducible rfl)
            try simp only [Act.put, List.setIfInBounds_toArray, List.set_cons_zero, List.set_cons_succ]
            refine wpAnyH_take (i := 5) (v := ?_) (by simp only [List.getElem?_toArray, List.getElem?_cons_succ, List.getElem?_cons_zero]; rfl) (by kernel_rfl) (by kernel_rfl) (by kernel_rfl) (fun _ _ _ h => h) (Or.inl ⟨by rfl, ?_⟩) (by assumption) ?_
            rotate_left 1
            · intro w hSw; (try dsimp only at hSw); go_simp; (try with_reducible rfl)
            try simp only [Act.put, List.setIfInBounds_toArray, List.set_cons_zero, List.set_cons_succ]
            refine wpAnyH_take (i := 6) (v := .pointer (some ⟨gp, i, none⟩)) (by simp only [List.getElem?_toArray, List.getElem?_cons_succ, List.getElem?_cons_zero]; rfl) (by kernel_rfl) (by kernel_rfl) (by kernel_rfl) (fun _ _ _ h => h) (Or.inl ⟨by rfl, ?_⟩) (by assumption) ?_
            · intro w hSw; (try dsimp only at hSw); (try go_simp); ((try rw [if_pos (by omega)]); (try simp); (try (intro h9; omega)))
            try simp only [Act.put, List.setIfInBounds_toArray, List.set_cons_zero, List.set_cons_succ]
            refine wpAnyH_take (i := 7) (v := ?_) (by simp only [List.getElem?_toArray, List.getElem?_cons_succ, List.getElem?_cons_zero]; rfl) (by kernel_rfl) (by kernel_rfl) (by kernel_rfl) (fun _ _ _ h => h) (Or.inl ⟨by rfl, ?_⟩) (by assumption) ?_
            rotate_left 1
            · intro w hSw; (try dsimp only at hSw); go_simp; (try with_reducible rfl)
            try simp only [Act.put, List.setIfInBounds_toArray, List.set_cons_zero, List.set_cons_succ]
            refine wpAnyH_take (i := 8) (v := .bool false) (by simp only [List.getElem?_toArray, List.getElem?_cons_succ, List.getElem?_cons_zero]; rfl) (by kernel_rfl) (by kernel_rfl) (by kernel_rfl) (fun _ _ _ h => h) (Or.inl ⟨by rfl, ?_⟩) (by assumption) ?_
            · intro w hSw; (try dsimp only at hSw); (try go_simp); ((try rw [hpne]); (try simp))
            try simp only [Act.put, List.setIfInBounds_toArray, List.set_cons_zero, List.set_cons_succ]
            refine wpAnyH_done (by kernel_rfl) ?_ _
            refine NoPanic.normal ?_
            go_wp2
            refine ⟨⟨k + 1, hkl, by go_num, fun j z hj hz => ?_, HB4.out.trans (Below.refl _ _).drew⟩, by simp [intOf]; omega⟩
            by_cases e : j = k
            · rw [e, HY.out] at hz
              rw [← Option.some.inj hz]
              exact HPE.out
            · exact HNO.out j z (by omega) hz
        · have bx : Hid (Below w1.heap.size w1 wr) := HB.out.trans ((B3.out.trans (HB4.out.mono B3.out.size)).mono HB.out.size)
          have HW : Hid (¬ PureNet.Way l i i) := fun hw => by
            obtain ⟨j, hj, hj2⟩ := way_first hw
            have hpj := (PC.out i j hj).2 hj2
            obtain ⟨g2, hg2, hm⟩ := hj
            rw [HG.out] at hg2
            obtain rfl := Option.some.inj hg2
            obtain ⟨q, hq, e⟩ := List.getElem_of_mem hm
            refine HNO.out q j (by have := LQ.out; rw [List.length_map] at this; omega) ?_ hpj
            rw [List.getElem?_map, List.getElem?_eq_getElem hq, e]
            rfl
          go_wp2
          refine ⟨⟨i + 1, hlt, by go_num, fun j hj => ?_, bx.out⟩, by simp [intOf]; omega⟩
          by_cases e : j = i
          · rw [e]; exact HW.out
          · exact HFR.out j (by omega)
    · have bw : Hid (Below w.heap.size w wr) := SE1.out.below.trans (HB.out.mono SE1.out.below.size)
      have HW : Hid (∀ j, ¬ PureNet.Way l j j) := fun j hw => by
        have hj : j < n := by
          obtain ⟨q, hq, _⟩ := way_first hw
          rw [HN.out]
          exact leans_lt hq
        exact HFR.out j (by omega) hw
      go_wp2
      simp only [Exit.jump]
      refine bodyPost_ret (P := Tryd.prog) (fn := Tryd.f37) (v := .int .i64 (-1)) ?_ rfl ⟨⟨_, rfl, .inl ⟨rfl, HW.out⟩⟩, bw.out⟩
      simp [results, Tryd.results37, go_sem]
end Go.Proofs.YtfmmmhcpdinhgabDoor
/-
  The reader refuses a circle.
-/
namespace Go.Proofs.YtfmmmhcpdinhgabDoor
open Go.RowKit Go.Deep PureNet PureRd ShfKit
set_option maxRecDepth 100000

theorem own_cells2 {W : World} {B e size n : Nat} {sa : Option Addr} {c : Nat} {xs : List Value} (h : W.ownsRow B e size (.slice sa n c) n xs) : CellsAt W sa xs := by
  rcases h.2 with ⟨hv, h0⟩ | ⟨g, cap, cur, hv, hb, hr, hnc, hcm, hcs, htk⟩
  · have : xs = [] := List.eq_nil_of_length_eq_zero (by have := h.1; rw [h0] at this; omega)
    subst this
    exact ⟨fun k x hx => by simp at hx⟩
  · simp only [Value.slice.injEq] at hv
    obtain ⟨rfl, _, _⟩ := hv
    refine ⟨fun k x hx => ⟨g, 0, rfl, (Array.getElem?_eq_some_iff.1 hr).1, ?_⟩⟩
    rw [cell_row hr]
    rw [← htk, List.getElem?_take] at hx
    split at hx
    · simpa using hx
    · cases hx
/-- a name's first byte. -/
theorem Cn.nameAt {w W : World} {B b : Nat} {text : List UInt8} {s : Rs} {x : Bx} {gv ov : Value} {gs : List Ga} {os : List Int} (h : Cn w W b text s x gv ov gs os) (r : Rt w B b text s x) {i : Nat} (hi : i < s.names.length) : ∃ g c, x.nv = .slice (some ⟨g, 0, none⟩) s.names.length c ∧ s.names.length ≤ c ∧ g < W.heap.size ∧ W.cell? ⟨g, i, none⟩ = some (.int .i64 ((s.names.getD i 0 : Nat) : Int)) ∧ s.names.getD i 0 ≤ text.length := by
  rcases r.names.2 with ⟨_, h0⟩ | ⟨g, cap, cur, hv, hb, hr, hnc, hcm, hcs, htk⟩
  · omega
  · have hW := h.same r hr (fun c fz e => by simp only [Obj.cells.injEq] at e; exact absurd e.2.1 (by decide))
    have e : s.names.getD i 0 = s.names[i] := by simp [List.getD_eq_getElem?_getD, List.getElem?_eq_getElem hi]
    refine ⟨g, cap, hv, hnc, (Array.getElem?_eq_some_iff.1 hW).1, ?_, by rw [e]; exact r.inn _ (List.getElem_mem hi)⟩
    have h1 : (nats s.names)[i]? = some (.int .i64 ((s.names.getD i 0 : Nat) : Int)) := by rw [e]; simp [nats, hi]
    rw [cell_row hW]
    rw [← htk, List.getElem?_take] at h1
    split at h1
    · simpa using h1
    · cases h1
/-- what the reader says of circles. -/
def circF (s : Rs) (r : Int) : Rs := if r = -1 then s else refuse s 143 (s.names.getD r.toNat 0)

set_option maxHeartbeats 4000000 in
theorem circle_any (B b : Nat) (text : List UInt8) (s : Rs) (x : Bx) (gv ov : Value) (gs : List Ga) (os : List Int) (w0 w : World) (r : Rt w0 B b text s x) (h : Cn w0 w b text s x gv ov gs os) (hf : s.fault = none) (hkd : KindsAt w) (hn : gs.length ≤ 65536) (hnm : gs.length ≤ s.names.length)
    (hlines : ∀ (i : Nat) (g : Ga), gs[i]? = some g → (1 ≤ g.kind ∧ g.kind ≤ 4) ∧ ∀ a ∈ leansOn g, 0 ≤ a ∧ a < (gs.length : Int)) :
    Calls Tryd.prog 18 #[.pointer (some ⟨b, 0, none⟩)] w fun e w' => (∃ v, e = .returned v) ∧ ∃ c, CircleIs gs c ∧ Cn w0 w' b text (circF s c) x gv ov gs os := by
  obtain ⟨sg, cg, hgv⟩ := own_shape h.gates
  subst hgv
  have FC := hid (firstInCircle_gen gs sg cg gs.length w (own_cells2 h.gates) hkd rfl hn hlines)
  have c10 : w.cell? ⟨b, 10, none⟩ = some (.slice sg gs.length cg) := cell_row h.box 10
  have lb : b < w.heap.size := (Array.getElem?_eq_some_iff.1 h.box).1
  have H := hid h
  have R := hid r
  have HF := hid hf
  have hsm := r.small
  clear h r hf hlines hkd
  go_enter Tryd.func18, Tryd.ntmps18
  go_upto_if 10 with (go_at_call 37; refine FC.out.mono ?_; rintro e w1 ⟨⟨c, rfl, hc⟩, b1⟩; have HC := hid hc; have B1 := hid b1; clear hc b1)
  have H1 := hid (H.out.on B1.out)
  rcases id HC.out with ⟨hc1, _⟩ | ⟨i, hc1, hi, _⟩
  · have K : Hid (CircleIs gs c ∧ Cn w0 w1 b text (circF s c) x (.slice sg gs.length cg) ov gs os) := ⟨HC.out, by unfold circF; rw [if_pos hc1]; exact H1.out⟩
    have e1 : (c != -1) = false := by rw [hc1]; rfl
    clear hc1
    go_wp2
    first | go_end0 | refine bodyPost_end (results_none rfl _ _ _) rfl ?_
    exact ⟨⟨_, rfl⟩, _, K.out⟩
  · obtain ⟨gn, cn, hnv, hcn, lgn, cgn, hat⟩ := H1.out.nameAt R.out (show i < s.names.length by omega)
    have c8 : w1.cell? ⟨b, 8, none⟩ = some (.slice (some ⟨gn, 0, none⟩) s.names.length cn) := by rw [← hnv]; exact cell_row H1.out.box 8
    have lb1 : b < w1.heap.size := (Array.getElem?_eq_some_iff.1 H1.out.box).1
    have RC := hid (refuse_box b text s x (.slice sg gs.length cg) ov 143 (s.names.getD i 0) w1 H1.out.box hsm hat HF.out)
    have EC : Hid (circF s c = refuse s 143 (s.names.getD i 0)) := by
      show _ = _
      unfold circF
      rw [if_neg (by rw [hc1]; omega), hc1]
      rfl
    have e1 : (c != -1) = true := by rw [hc1]; simp
    have hcn0 : (0 : Int) ≤ c := by omega
    have hcn1 : c < (s.names.length : Int) := by omega
    obtain ⟨q, hq⟩ : ∃ q, q = s.names.getD i 0 := ⟨_, rfl⟩
    rw [← hq] at cgn hat RC EC
    clear hnv hq
    subst hc1
    go_wp2_with (go_at_call 36; refine RC.out.mono ?_; rintro e w4 ⟨⟨yy, rfl⟩, kb, ks, kk, k0⟩; have K : Hid (Cn w0 w4 b text (refuse s 143 q) x (.slice sg gs.length cg) ov gs os) := H1.out.refused kb ks kk k0; clear kb ks kk k0)
    first | go_end0 | refine bodyPost_end (results_none rfl _ _ _) rfl ?_
    exact ⟨⟨_, rfl⟩, _, HC.out, by rw [EC.out]; exact K.out⟩
end Go.Proofs.YtfmmmhcpdinhgabDoor
/-
  A reader is made.
-/
namespace Go.Proofs.YtfmmmhcpdinhgabDoor
open Go.RowKit Go.Deep PureNet PureRd ShfKit Go.Maps Go.WideShapes
set_option maxRecDepth 100000

/-- a reader that has read nothing. -/
theorem Rt.fresh (text : List UInt8) (hl : text.length ≤ 1048576) (w0 : World) : ∃ W1, (Instr.mapUpdate 60 (.map (some w0.heap.size)) (.string ⟨#[99, 105, 114, 99, 117, 105, 116]⟩) (.func (.func 15) #[] #[])).run Tryd.prog (w0.alloc (.map #[] 0)) = .ok () W1 ∧ ∀ W3, W3 = (W1.alloc (.map #[] 0)).alloc (.cells #[str text, .map (some w0.heap.size), .slice none 0 0, .string ⟨#[]⟩, .int .i64 0, .slice none 0 0, .int .i64 0, .map (some W1.heap.size), .slice none 0 0, .string ⟨#[]⟩, .slice none 0 0, .slice none 0 0, .int .i64 0, .int .i64 0, .int .i64 0] 67) →
    Below w0.heap.size w0 W3 ∧ (∃ x, Rt W3 w0.heap.size (W1.heap.size + 1) text PureRd.start x) := by
  obtain ⟨W1, r1, o1, g1⟩ := put_fn (World.ownsMap_made w0 _ _ _) (by omega) [99, 105, 114, 99, 117, 105, 116] (by simp) 15
  refine ⟨W1, r1, fun W3 hW3 => ?_⟩
  have hs0 : (w0.alloc (.map #[] 0)).heap.size = w0.heap.size + 1 := by simp
  have hs1 := g1.size
  have b1 : Below w0.heap.size w0 W1 := ((Below.refl w0.heap.size w0).alloc (Nat.le_refl _) _).grown g1 (by omega) (fun k hk => by cases hk; exact Nat.le_refl _)
  have b13 : Below W1.heap.size W1 W3 := by rw [hW3]; exact ((Below.refl W1.heap.size W1).alloc (Nat.le_refl _) _).alloc (by simp) _
  have e2 : (W1.alloc (.map #[] 0)).heap.size = W1.heap.size + 1 := by simp
  have e3 : W3.heap.size = W1.heap.size + 2 := by rw [hW3]; simp
  refine ⟨b1.trans (b13.mono (by omega)), ⟨.map (some w0.heap.size), .slice none 0 0, .slice none 0 0, W1.heap.size, .slice none 0 0, [], W3.heap.size⟩, ?_⟩
  have v0 : IsMap (.map [] : DataW Unit) ∧ ∀ k, has (.map [] : DataW Unit) (.string k) = ((fun _ => none : List UInt8 → Option Nat) k).isSome ∧ ∀ f z, (fun _ => none : List UInt8 → Option Nat) k = some f → (DataW.map [] : DataW Unit).atKey (.string k) z = .lit (.int .i64 (f : Int)) := ⟨isMap_empty, fun k => ⟨rfl, fun f z e => by cases e⟩⟩
  have v1 := view_put v0.1 v0.2 [99, 105, 114, 99, 117, 105, 116] 15
  have hm : W3.ownsMap Tryd.prog 9 (plainElem (H := Unit) Tryd.prog 3) W1.heap.size 0 (.map []) := by
    have h := World.ownsMap_made (H := Unit) W1 Tryd.prog 9 (plainElem (H := Unit) Tryd.prog 3)
    obtain ⟨es, cl, ho, r⟩ := h
    refine ⟨es, cl, ?_, r⟩
    rw [hW3]
    exact (Lib.alloc_old _ _ _ (by simp)).trans ho
  refine ⟨by show w0.heap.size ≤ W1.heap.size + 1; omega, ?_, ?_, WRow.nil _ _, ⟨rfl, .inl ⟨rfl, rfl⟩⟩, rfl, fun i l u h => by simp [PureRd.start] at h, ?_, ⟨rfl, .inl ⟨rfl, rfl⟩⟩, hl, fun y hy => by simp [PureRd.start] at hy, by simp [InT, PureRd.start], fun y hy => by simp [PureRd.start] at hy, fun l h => by simp [PureRd.start] at h, by simp [PureRd.start], by simp [PureRd.start], by simp [PureRd.start], by simp [PureRd.start], fun p h => by simp [PureRd.start] at h, Nat.le_refl _, fun m e => ?_, ?_⟩
  · rw [hW3, ← e2]
    exact heap_alloc_new _ _
  · obtain ⟨es, cl, ho, r⟩ := o1
    refine .inr ⟨by decide, _, _, _, rfl, ⟨es, cl, (b13.block _ (Array.getElem?_eq_some_iff.1 ho).1).trans ho, r⟩, fun k => ?_⟩
    have h1 := v1.2 k
    have e : fnOf 0 k = (if k = [99, 105, 114, 99, 117, 105, 116] then some 15 else none) := by unfold fnOf; rw [if_pos rfl]
    show has _ (.string k) = (fnOf 0 k).isSome ∧ ∀ f z, fnOf 0 k = some f → _
    rw [e]
    exact h1
  · exact ⟨0, .map [], hm, Nat.le_refl _, fun k => ⟨rfl, fun p z e => by simp [placeOf, PureRd.start] at e⟩⟩
  · simp only [Value.map.injEq, Option.some.injEq] at e
    show m ≠ W1.heap.size
    omega
  · show w0.heap.size ≤ W1.heap.size
    omega
end Go.Proofs.YtfmmmhcpdinhgabDoor
/-
  A text is read.
-/
namespace Go.Proofs.YtfmmmhcpdinhgabDoor
open Go.RowKit Go.Deep PureNet PureRd ShfKit
set_option maxRecDepth 100000

/-- a fault, as read answers it. -/
def faultV (text : List UInt8) (p : Int × Nat) : Value := .tuple #[.agg #[.string ⟨#[]⟩, .slice none 0 0, .slice none 0 0], .agg #[.int .i64 p.1, .int .i64 ((spotN (text.take p.2)).1 : Int), .int .i64 ((spotN (text.take p.2)).2 : Int)]]
/-- what a text is read to. -/
def ReadIs (B : Nat) (T : Nat → List UInt8) (text : List UInt8) (e : Ending) (W : World) : Prop :=
  (∃ p, (readLinesF T text PureRd.start).fault = some p ∧ e = .returned (faultV text p)) ∨
  ((readLinesF T text PureRd.start).fault = none ∧ ∃ y gs os, connF (readLinesF T text PureRd.start) (readLinesF T text PureRd.start).lines [] [] = (some y, gs, os) ∧ e = .returned (faultV text (142, y.2))) ∨
  ((readLinesF T text PureRd.start).fault = none ∧ ∃ gs os c, connF (readLinesF T text PureRd.start) (readLinesF T text PureRd.start).lines [] [] = (none, gs, os) ∧ CircleIs gs c ∧
    ((c ≠ -1 ∧ e = .returned (faultV text (143, (readLinesF T text PureRd.start).names.getD c.toNat 0))) ∨
     (c = -1 ∧ ∃ sg cg so co, e = .returned (.tuple #[cirV ⟨⟨(readLinesF T text PureRd.start).cname.toArray⟩, gs, os⟩ sg cg so co, .agg #[.int .i64 0, .int .i64 0, .int .i64 0]]) ∧ W.ownsRow B 57 6 (.slice sg gs.length cg) gs.length (gas gs) ∧ W.ownsRow B 3 1 (.slice so os.length co) os.length (nu os))))

theorem own_lower {W : World} {B B' e size n : Nat} {v : Value} {xs : List Value} (h : W.ownsRow B e size v n xs) (hB : B' ≤ B) : W.ownsRow B' e size v n xs := by
  refine ⟨h.1, ?_⟩
  rcases h.2 with h0 | ⟨g, cap, cur, hv, hb, rest⟩
  · exact .inl h0
  · exact .inr ⟨g, cap, cur, hv, Nat.le_trans hB hb, rest⟩
/-- the two blocks of the answer. -/
structure Ans (w W : World) : Prop where
  below : Below w.heap.size w W
  cir : W.heap[w.heap.size]? = some (.cells #[.string ⟨#[]⟩, .slice none 0 0, .slice none 0 0] 25 (0, 0))
  flt : W.heap[w.heap.size + 1]? = some (.cells #[.int .i64 0, .int .i64 0, .int .i64 0] 30 (0, 0))
theorem Ans.on {w W W' : World} (h : Ans w W) (hb : Below (w.heap.size + 2) W W') : Ans w W' :=
  ⟨h.below.trans (hb.mono (by omega)), (hb.block _ (by omega)).trans h.cir, (hb.block _ (by omega)).trans h.flt⟩
theorem Ans.kept {w W W' : World} {b : Nat} (h : Ans w W) (hb : w.heap.size + 2 ≤ b) (hs : W.heap.size ≤ W'.heap.size) (hk : ∀ k, k < W.heap.size → k ≠ b → W'.heap[k]? = W.heap[k]?) (h0 : Below 0 W W') : Ans w W' := by
  have h1 := h.below.size
  have h2 := (Array.getElem?_eq_some_iff.1 h.flt).1
  have h3 := h.below
  refine ⟨⟨h0.os.trans h3.os, h0.tape.trans h3.tape, h0.output.trans h3.output, Nat.le_trans h3.size hs, fun k hk2 => ?_⟩, (hk _ (by omega) (by omega)).trans h.cir, (hk _ h2 (by omega)).trans h.flt⟩
  exact (hk k (by omega) (by omega)).trans (h.below.block k hk2)
end Go.Proofs.YtfmmmhcpdinhgabDoor
/-
  A text is read: the walk.
-/
namespace Go.Proofs.YtfmmmhcpdinhgabDoor
open Go.RowKit Go.Deep PureNet PureRd ShfKit Go.Maps
set_option maxRecDepth 100000

theorem Ans.drew {w W : World} (h : Ans w W) : Ans w W.drew := ⟨h.below.drew, h.cir, h.flt⟩
theorem Ans.cells {w W : World} (h : Ans w W) : W.cell? ⟨w.heap.size, 0, none⟩ = some (.string ⟨#[]⟩) ∧ W.cell? ⟨w.heap.size, 1, none⟩ = some (.slice none 0 0) ∧ W.cell? ⟨w.heap.size, 2, none⟩ = some (.slice none 0 0) ∧ W.frozen? ⟨w.heap.size, 0, none⟩ = false ∧ W.frozen? ⟨w.heap.size, 1, none⟩ = false ∧ W.frozen? ⟨w.heap.size, 2, none⟩ = false ∧
    W.cell? ⟨w.heap.size + 1, 0, none⟩ = some (.int .i64 0) ∧ W.cell? ⟨w.heap.size + 1, 1, none⟩ = some (.int .i64 0) ∧ W.cell? ⟨w.heap.size + 1, 2, none⟩ = some (.int .i64 0) ∧ W.frozen? ⟨w.heap.size + 1, 0, none⟩ = false ∧ W.frozen? ⟨w.heap.size + 1, 1, none⟩ = false ∧ W.frozen? ⟨w.heap.size + 1, 2, none⟩ = false ∧ w.heap.size < W.heap.size ∧ w.heap.size + 1 < W.heap.size :=
  ⟨cell_row h.cir 0, cell_row h.cir 1, cell_row h.cir 2, unfrozen_row h.cir 0, unfrozen_row h.cir 1, unfrozen_row h.cir 2, cell_row h.flt 0, cell_row h.flt 1, cell_row h.flt 2, unfrozen_row h.flt 0, unfrozen_row h.flt 1, unfrozen_row h.flt 2, (Array.getElem?_eq_some_iff.1 h.cir).1, (Array.getElem?_eq_some_iff.1 h.flt).1⟩

theorem Ans.told0 {w W : World} (h : Ans w W) (u0 u1 u2 v0 v1 v2 : Value) (W9 : World) (h9 : W9 = ((((((W.setCell ⟨w.heap.size, 0, none⟩ u0).setCell ⟨w.heap.size, 1, none⟩ u1).setCell ⟨w.heap.size, 2, none⟩ u2).setCell ⟨w.heap.size + 1, 0, none⟩ v0).setCell ⟨w.heap.size + 1, 1, none⟩ v1).setCell ⟨w.heap.size + 1, 2, none⟩ v2)) :
    W9.heap[w.heap.size]? = some (.cells #[u0, u1, u2] 25 (0, 0)) ∧ W9.heap[w.heap.size + 1]? = some (.cells #[v0, v1, v2] 30 (0, 0)) ∧ Below w.heap.size w W9 ∧ ∀ k, k ≠ w.heap.size → k ≠ w.heap.size + 1 → W9.heap[k]? = W.heap[k]? := by
  have e2 := row_set (i := 2) (u := u2) (row_set (i := 1) (u := u1) (row_set (i := 0) (u := u0) h.cir))
  have n1 : w.heap.size ≠ w.heap.size + 1 := by omega
  have n2 : w.heap.size + 1 ≠ w.heap.size := by omega
  have f0 : (((W.setCell ⟨w.heap.size, 0, none⟩ u0).setCell ⟨w.heap.size, 1, none⟩ u1).setCell ⟨w.heap.size, 2, none⟩ u2).heap[w.heap.size + 1]? = some (.cells #[.int .i64 0, .int .i64 0, .int .i64 0] 30 (0, 0)) := by
    rw [Below.heap_setCell _ _ _ _ (show w.heap.size + 1 ≠ w.heap.size from n2), Below.heap_setCell _ _ _ _ (show w.heap.size + 1 ≠ w.heap.size from n2), Below.heap_setCell _ _ _ _ (show w.heap.size + 1 ≠ w.heap.size from n2)]
    exact h.flt
  have e3 := row_set (i := 2) (u := v2) (row_set (i := 1) (u := v1) (row_set (i := 0) (u := v0) f0))
  refine ⟨?_, ?_, ?_, fun k k1 k2 => ?_⟩
  · rw [h9, Below.heap_setCell _ _ _ _ (show w.heap.size ≠ w.heap.size + 1 from n1), Below.heap_setCell _ _ _ _ (show w.heap.size ≠ w.heap.size + 1 from n1), Below.heap_setCell _ _ _ _ (show w.heap.size ≠ w.heap.size + 1 from n1), e2]
    rfl
  · rw [h9, e3]
    rfl
  · rw [h9]
    have l0 : w.heap.size ≤ w.heap.size := Nat.le_refl _
    have l1 : w.heap.size ≤ w.heap.size + 1 := Nat.le_succ _
    exact ((((((h.below.setCell (p := ⟨w.heap.size, 0, none⟩) l0 u0).setCell (p := ⟨w.heap.size, 1, none⟩) l0 u1).setCell (p := ⟨w.heap.size, 2, none⟩) l0 u2).setCell (p := ⟨w.heap.size + 1, 0, none⟩) l1 v0).setCell (p := ⟨w.heap.size + 1, 1, none⟩) l1 v1).setCell (p := ⟨w.heap.size + 1, 2, none⟩) l1 v2)
  · rw [h9, Below.heap_setCell _ _ _ _ (show k ≠ w.heap.size + 1 from k2), Below.heap_setCell _ _ _ _ (show k ≠ w.heap.size + 1 from k2), Below.heap_setCell _ _ _ _ (show k ≠ w.heap.size + 1 from k2), Below.heap_setCell _ _ _ _ (show k ≠ w.heap.size from k1), Below.heap_setCell _ _ _ _ (show k ≠ w.heap.size from k1), Below.heap_setCell _ _ _ _ (show k ≠ w.heap.size from k1)]
theorem Ans.told {w W : World} (h : Ans w W) (u0 u1 u2 v0 v1 v2 : Value) (W9 : World) (h9 : W9 = ((((((W.setCell ⟨w.heap.size, 0, none⟩ u0).setCell ⟨w.heap.size, 1, none⟩ u1).setCell ⟨w.heap.size, 2, none⟩ u2).setCell ⟨w.heap.size + 1, 0, none⟩ v0).setCell ⟨w.heap.size + 1, 1, none⟩ v1).setCell ⟨w.heap.size + 1, 2, none⟩ v2).drew) :
    W9.heap[w.heap.size]? = some (.cells #[u0, u1, u2] 25 (0, 0)) ∧ W9.heap[w.heap.size + 1]? = some (.cells #[v0, v1, v2] 30 (0, 0)) ∧ Below w.heap.size w W9 ∧ ∀ k, k ≠ w.heap.size → k ≠ w.heap.size + 1 → W9.heap[k]? = W.heap[k]? := by
  obtain ⟨n1, n2, n3, n4⟩ := h.told0 u0 u1 u2 v0 v1 v2 _ rfl
  have hdd : ∀ V : World, V.drew.heap = V.heap := fun _ => rfl
  have hd : W9.heap = ((((((W.setCell ⟨w.heap.size, 0, none⟩ u0).setCell ⟨w.heap.size, 1, none⟩ u1).setCell ⟨w.heap.size, 2, none⟩ u2).setCell ⟨w.heap.size + 1, 0, none⟩ v0).setCell ⟨w.heap.size + 1, 1, none⟩ v1).setCell ⟨w.heap.size + 1, 2, none⟩ v2).heap := by rw [h9, hdd]
  exact ⟨by rw [hd]; exact n1, by rw [hd]; exact n2, by rw [h9]; exact n3.drew, fun k k1 k2 => by rw [hd]; exact n4 k k1 k2⟩
theorem upto_lines (T : Nat → List UInt8) (text : List UInt8) : ∀ (f p m : Nat) (s : Rs), Upto m s → Upto (m + f) (linesF T text f p s)
  | 0, _, _, _, h => h
  | f + 1, p, m, s, h => by
    rw [linesF]
    split
    · have := upto_lines T text f (p + ((cutLine (text.drop p)).length + 1)) (m + 1) _ (h.line T (wordsOf (cutLine (text.drop p)) p))
      rw [show m + (f + 1) = m + 1 + f by omega]
      exact this
    · exact h.mono (by omega)
theorem Upto.all (T : Nat → List UInt8) (text : List UInt8) : Upto (text.length + 1) (readLinesF T text PureRd.start) := by
  have h := upto_lines T text (text.length + 1) 0 0 PureRd.start ⟨Nat.le_refl _, Nat.le_refl _, Nat.le_refl _, Nat.le_refl _⟩
  rw [Nat.zero_add] at h
  unfold readLinesF
  split
  · exact h.same (refuse_same _ _ _)
  · exact h
theorem size25 : (Tryd.prog.info? 25).map (·.size) = some 3 := by kernel_rfl
theorem size34 : (Tryd.prog.info? 30).map (·.size) = some 3 := by kernel_rfl
theorem results_cir {fn : Func} (h : fn.results = #[.cell 2 25, .cell 3 30]) (tmps : Array Value) (W : World) (g1 g2 : Nat) (u0 u1 u2 v0 v1 v2 : Value) (hp : tmps[2]?.getD undef = .pointer (some ⟨g1, 0, none⟩)) (hq : tmps[3]?.getD undef = .pointer (some ⟨g2, 0, none⟩))
    (h1 : W.heap[g1]? = some (.cells #[u0, u1, u2] 25 (0, 0))) (h2 : W.heap[g2]? = some (.cells #[v0, v1, v2] 30 (0, 0))) : (results fn tmps).run Tryd.prog W = .ok (.tuple #[.agg #[u0, u1, u2], .agg #[v0, v1, v2]]) W := by
  simp [results, h, hp, hq, asAddr, Go.run_loadVar_row W g1 25 25 _ (0, 0) _ h1 Tryd.underlying25 rfl size25, Go.run_loadVar_row W g2 30 30 _ (0, 0) _ h2 Tryd.underlying30 rfl size34]
theorem idx78_0 (W : World) : (Instr.index 68 (.agg #[.func (.func 16) #[] #[], .func (.func 17) #[] #[], .func (.func 18) #[] #[]]) (.int .i64 0)).run Tryd.prog W = .ok (.func (.func 16) #[] #[]) W := by kernel_rfl
theorem idx78_1 (W : World) : (Instr.index 68 (.agg #[.func (.func 16) #[] #[], .func (.func 17) #[] #[], .func (.func 18) #[] #[]]) (.int .i64 1)).run Tryd.prog W = .ok (.func (.func 17) #[] #[]) W := by kernel_rfl
theorem idx78_2 (W : World) : (Instr.index 68 (.agg #[.func (.func 16) #[] #[], .func (.func 17) #[] #[], .func (.func 18) #[] #[]]) (.int .i64 2)).run Tryd.prog W = .ok (.func (.func 18) #[] #[]) W := by kernel_rfl

set_option maxHeartbeats 4000000 in
theorem read_any (T : Nat → List UInt8) (text : List UInt8) (w : World) (hl : text.length ≤ 1048576) (hops : OpsT w T) (hkd : KindsAt w) :
    Calls Tryd.prog 9 #[str text] w fun e W => ReadIs w.heap.size T text e W ∧ Below w.heap.size w W := by
  obtain ⟨w0, hw0⟩ : ∃ w0, w0 = (w.alloc (.cells #[.string ⟨#[]⟩, .slice none 0 0, .slice none 0 0] 25)).alloc (.cells #[.int .i64 0, .int .i64 0, .int .i64 0] 30) := ⟨_, rfl⟩
  have hs0 : w0.heap.size = w.heap.size + 2 := by rw [hw0]; simp
  have A0 : Ans w w0 := by
    refine ⟨by rw [hw0]; exact ((Below.refl w.heap.size w).alloc (Nat.le_refl _) _).alloc (by simp) _, ?_, ?_⟩
    · rw [hw0]
      exact (Lib.alloc_old _ _ _ (by simp)).trans (heap_alloc_new w _)
    · have e1 : (w.alloc (.cells #[.string ⟨#[]⟩, .slice none 0 0, .slice none 0 0] 25)).heap.size = w.heap.size + 1 := by simp
      rw [hw0, ← e1]
      exact heap_alloc_new _ _
  obtain ⟨W1, mu, nx⟩ := Rt.fresh text hl w0
  obtain ⟨W3, hW3⟩ : ∃ W3, W3 = (W1.alloc (.map #[] 0)).alloc (.cells #[str text, .map (some w0.heap.size), .slice none 0 0, .string ⟨#[]⟩, .int .i64 0, .slice none 0 0, .int .i64 0, .map (some W1.heap.size), .slice none 0 0, .string ⟨#[]⟩, .slice none 0 0, .slice none 0 0, .int .i64 0, .int .i64 0, .int .i64 0] 67) := ⟨_, rfl⟩
  obtain ⟨b3, x3, r3⟩ := nx W3 hW3
  rw [hs0] at b3 r3 mu hW3
  have A3 := A0.on b3
  obtain ⟨s1, hs1⟩ : ∃ s1, s1 = readLinesF T text PureRd.start := ⟨_, rfl⟩
  obtain ⟨b, hb⟩ : ∃ b, b = W1.heap.size + 1 := ⟨_, rfl⟩
  rw [← hb] at r3
  have hmm := @run_makeMap Tryd.prog
  have HW0 := hid hw0
  have HW3 := hid hW3
  have HS1 := hid hs1
  have HB := hid hb
  have HOP := hid hops
  have HKD := hid hkd
  have HBB : Hid (w.heap.size + 2 ≤ b) := r3.base
  have START : Hid (∃ i : Nat, Value.int .i64 0 = .int .i64 (i : Int) ∧ Ans w W3 ∧ ((i = 0 ∧ ∃ x, Rt W3 (w.heap.size + 2) b text PureRd.start x) ∨ (i = 1 ∧ s1.fault = none ∧ ∃ x, Rt W3 (w.heap.size + 2) b text s1 x) ∨ (2 ≤ i ∧ i ≤ 3 ∧ s1.fault = none ∧ ∃ W0 x gv ov gs os, Rt W0 (w.heap.size + 2) b text s1 x ∧ Ans w W0 ∧ connF s1 s1.lines [] [] = (none, gs, os) ∧ Cn W0 W3 b text s1 x gv ov gs os ∧ (i = 3 → CircleIs gs (-1))))) := ⟨0, rfl, A3, .inl ⟨rfl, x3, r3⟩⟩
  clear hw0 hW3 nx b3 r3 A3 A0 hs1 hb hops hkd
  go_enter Tryd.func9, Tryd.ntmps9
  go_wp2_with (first
    | (have q := HW0; clear q; rw [← HW0.out]; clear HW0)
    | (rw [← HW3.out]; clear HW3))
  rw [← HB.out]
  go_loopw [13] (fun iv W => Hid (∃ i : Nat, iv = .int .i64 (i : Int) ∧ Ans w W ∧ ((i = 0 ∧ ∃ x, Rt W (w.heap.size + 2) b text PureRd.start x) ∨ (i = 1 ∧ s1.fault = none ∧ ∃ x, Rt W (w.heap.size + 2) b text s1 x) ∨ (2 ≤ i ∧ i ≤ 3 ∧ s1.fault = none ∧ ∃ W0 x gv ov gs os, Rt W0 (w.heap.size + 2) b text s1 x ∧ Ans w W0 ∧ connF s1 s1.lines [] [] = (none, gs, os) ∧ Cn W0 W b text s1 x gv ov gs os ∧ (i = 3 → CircleIs gs (-1)))))) (fun iv _ => match iv with | .int _ i => 3 - i.toNat | _ => 0)
  case atStart => exact START.out
  case round =>
    clear START mu hmm
    obtain ⟨WW, hWW⟩ : ∃ WW, WW = wr := ⟨_, rfl⟩
    rw [← hWW] at hrel ⊢
    clear hWW
    obtain ⟨i, rfl, hA, hcase⟩ := hrel.out
    have HA := hid hA
    clear hrel hs0
    rcases hcase with ⟨rfl, x, r⟩ | ⟨rfl, hf1, x, r⟩ | ⟨h2, h3, hf1, W0, x, gv, ov, gs, os, r, hA0, hc, cn, hci⟩
    · have LN : Hid (Calls Tryd.prog 16 #[.pointer (some ⟨b, 0, none⟩)] WW fun e w' => (∃ v, e = .returned v) ∧ (∃ x', Rt w' (w.heap.size + 2) b text s1 x') ∧ Below (w.heap.size + 2) WW w') := by
        show Calls _ _ _ _ _
        rw [HS1.out]
        exact lines_any T (w.heap.size + 2) b text PureRd.start x WW r ⟨Nat.le_refl _, Nat.le_refl _, Nat.le_refl _, Nat.le_refl _⟩ (HOP.out.on hA.below HOP.out.pos) (by have := HOP.out.pos; omega)
      have ix := idx78_0 WW
      clear hA r
      rcases (show s1.fault = none ∨ ∃ p, s1.fault = some p by cases s1.fault; exact .inl rfl; exact .inr ⟨_, rfl⟩) with hfa | ⟨p, hfa⟩
      · have FZ : Hid (fcode s1.fault = 0) := by show _ = _; rw [hfa]; rfl
        have HFA := hid hfa
        clear hfa
        go_wp2_with (go_at_call 16; refine LN.out.mono ?_; rintro e w4 ⟨⟨v4, rfl⟩, ⟨x4, k1⟩, k2⟩; have R4 := hid k1; have A4 := hid (HA.out.on k2); have q12 : w4.cell? ⟨b, 12, none⟩ = some (.int .i64 0) := (cell_row k1.box 12).trans (by rw [← FZ.out]; rfl); have lb := (Array.getElem?_eq_some_iff.1 k1.box).1; clear k1 k2)
        refine ⟨⟨1, by first | rfl | simp, A4.out, .inr (.inl ⟨rfl, HFA.out, x4, R4.out⟩)⟩, ?_⟩
        show 3 - ((0 : Int) + 1).toNat < 3 - (0 : Int).toNat
        decide
      · have HFA := hid hfa
        clear hfa
        go_upto_region 7 with (go_at_call 16; refine LN.out.mono ?_; rintro e w4 ⟨⟨v4, rfl⟩, ⟨x4, k1⟩, k2⟩; have e1 : (p.1 != 0) = true := (bne_iff_ne.2 (k1.flt p HFA.out)); have A4 := hid (HA.out.on k2); have q12 : w4.cell? ⟨b, 12, none⟩ = some (.int .i64 (p.1)) := (cell_row k1.box 12).trans (congrArg (fun f => some (Value.int .i64 (fcode f))) HFA.out); have q13 : w4.cell? ⟨b, 13, none⟩ = some (.int .i64 ((spotN (text.take (p.2))).1 : Int)) := (cell_row k1.box 13).trans (congrArg (fun f => some (Value.int .i64 (fline text f))) HFA.out); have q14 : w4.cell? ⟨b, 14, none⟩ = some (.int .i64 ((spotN (text.take (p.2))).2 : Int)) := (cell_row k1.box 14).trans (congrArg (fun f => some (Value.int .i64 (fcol text f))) HFA.out); have lb := (Array.getElem?_eq_some_iff.1 k1.box).1; clear k1 k2)
        have mixed := Tryd.lays161.mixed
        obtain ⟨a1, a2, a3, a4, a5, a6, a7, a8, a9, a10, a11, a12, a13, a14⟩ := A4.out.cells
        obtain ⟨d1, d2, d3, d4, d5, d6, d7, d8, d9, d10, d11, d12, d13, d14⟩ := A4.out.drew.cells
        have nb : b ≠ w.heap.size := by have := HBB.out; omega
        have nb' : w.heap.size ≠ b := by have := HBB.out; omega
        have nc : b ≠ w.heap.size + 1 := by have := HBB.out; omega
        have nc' : w.heap.size + 1 ≠ b := by have := HBB.out; omega
        have ne : w.heap.size ≠ w.heap.size + 1 := by omega
        have ne' : w.heap.size + 1 ≠ w.heap.size := by omega
        have p12 : w4.drew.cell? ⟨b, 12, none⟩ = some (.int .i64 (p.1)) := q12
        have p13 : w4.drew.cell? ⟨b, 13, none⟩ = some (.int .i64 ((spotN (text.take (p.2))).1 : Int)) := q13
        have p14 : w4.drew.cell? ⟨b, 14, none⟩ = some (.int .i64 ((spotN (text.take (p.2))).2 : Int)) := q14
        have lbd : b < w4.drew.heap.size := lb
        go_region
        all_goals
          (generalize hW9 : World.drew (World.setCell _ _ _) = W9
           obtain ⟨n1, n2, n3, n4⟩ := A4.out.told _ _ _ _ _ _ W9 hW9.symm
           have N1 := hid n1
           have N2 := hid n2
           have N3 := hid n3
           clear hW9 n1 n2 n3 n4 a1 a2 a3 a4 a5 a6 a7 a8 a9 a10 a11 a12 a13 a14 d1 d2 d3 d4 d5 d6 d7 d8 d9 d10 d11 d12 d13 d14 q12 q13 q14 p12 p13 p14
           go_wp2
           refine bodyPost_ret (results_cir rfl _ _ _ _ _ _ _ _ _ _ rfl rfl N1.out N2.out) rfl ?_
           exact ⟨.inl ⟨p, by rw [← HS1.out]; exact HFA.out, rfl⟩, N3.out⟩)
    · have ix := idx78_1 WW
      have INV : Inv s1 := by rw [HS1.out]; exact Inv.all T text
      have UPT : Upto (text.length + 1) s1 := by rw [HS1.out]; exact Upto.all T text
      have CO := hid (connect_any (w.heap.size + 2) b text s1 x WW r hf1 INV.uses3 (by have := UPT.lines; omega))
      obtain ⟨F, hF⟩ : ∃ F, F = connF s1 s1.lines [] [] := ⟨_, rfl⟩
      rw [← hF] at CO
      obtain ⟨o, gs, os⟩ := F
      have HF1 := hid hf1
      have R := hid r
      have HCF := hid hF.symm
      clear hf1 r hF hA INV UPT
      cases o with
      | none =>
        go_wp2_with (go_at_call 17; refine CO.out.mono ?_; rintro e w4 ⟨⟨v4, rfl⟩, gv, ov, k1⟩; have K1 := hid k1; have A4 := hid (HA.out.kept HBB.out k1.size k1.kept k1.b0); have q12 : w4.cell? ⟨b, 12, none⟩ = some (.int .i64 0) := (cell_row k1.box 12).trans (congrArg (fun f => some (Value.int .i64 (fcode f))) HF1.out); have lb := (Array.getElem?_eq_some_iff.1 k1.box).1; clear k1)
        refine ⟨⟨2, by first | rfl | simp, A4.out, .inr (.inr ⟨Nat.le_refl _, by omega, HF1.out, WW, x, gv, ov, gs, os, R.out, HA.out, HCF.out, K1.out, fun h => absurd h (by decide)⟩)⟩, ?_⟩
        show 3 - ((1 : Int) + 1).toNat < 3 - (1 : Int).toNat
        decide
      | some y =>
        have HRF : Hid ((refuse s1 142 y.2).fault = some (142, y.2)) := by
          show _ = _
          unfold refuse
          rw [HF1.out]
          rfl
        go_upto_region 7 with (go_at_call 17; refine CO.out.mono ?_; rintro e w4 ⟨⟨v4, rfl⟩, gv, ov, k1⟩; have A4 := hid (HA.out.kept HBB.out k1.size k1.kept k1.b0); have q12 : w4.cell? ⟨b, 12, none⟩ = some (.int .i64 (142)) := (cell_row k1.box 12).trans (congrArg (fun f => some (Value.int .i64 (fcode f))) HRF.out); have q13 : w4.cell? ⟨b, 13, none⟩ = some (.int .i64 ((spotN (text.take (y.2))).1 : Int)) := (cell_row k1.box 13).trans (congrArg (fun f => some (Value.int .i64 (fline text f))) HRF.out); have q14 : w4.cell? ⟨b, 14, none⟩ = some (.int .i64 ((spotN (text.take (y.2))).2 : Int)) := (cell_row k1.box 14).trans (congrArg (fun f => some (Value.int .i64 (fcol text f))) HRF.out); have lb := (Array.getElem?_eq_some_iff.1 k1.box).1; clear k1)
        have mixed := Tryd.lays161.mixed
        obtain ⟨a1, a2, a3, a4, a5, a6, a7, a8, a9, a10, a11, a12, a13, a14⟩ := A4.out.cells
        obtain ⟨d1, d2, d3, d4, d5, d6, d7, d8, d9, d10, d11, d12, d13, d14⟩ := A4.out.drew.cells
        have nb : b ≠ w.heap.size := by have := HBB.out; omega
        have nb' : w.heap.size ≠ b := by have := HBB.out; omega
        have nc : b ≠ w.heap.size + 1 := by have := HBB.out; omega
        have nc' : w.heap.size + 1 ≠ b := by have := HBB.out; omega
        have ne : w.heap.size ≠ w.heap.size + 1 := by omega
        have ne' : w.heap.size + 1 ≠ w.heap.size := by omega
        have p12 : w4.drew.cell? ⟨b, 12, none⟩ = some (.int .i64 (142)) := q12
        have p13 : w4.drew.cell? ⟨b, 13, none⟩ = some (.int .i64 ((spotN (text.take (y.2))).1 : Int)) := q13
        have p14 : w4.drew.cell? ⟨b, 14, none⟩ = some (.int .i64 ((spotN (text.take (y.2))).2 : Int)) := q14
        have lbd : b < w4.drew.heap.size := lb
        go_region
        all_goals
          (generalize hW9 : World.drew (World.setCell _ _ _) = W9
           obtain ⟨n1, n2, n3, n4⟩ := A4.out.told _ _ _ _ _ _ W9 hW9.symm
           have N1 := hid n1
           have N2 := hid n2
           have N3 := hid n3
           clear hW9 n1 n2 n3 n4 a1 a2 a3 a4 a5 a6 a7 a8 a9 a10 a11 a12 a13 a14 d1 d2 d3 d4 d5 d6 d7 d8 d9 d10 d11 d12 d13 d14 q12 q13 q14 p12 p13 p14
           go_wp2
           refine bodyPost_ret (results_cir rfl _ _ _ _ _ _ _ _ _ _ rfl rfl N1.out N2.out) rfl ?_
           exact ⟨.inr (.inl ⟨by rw [← HS1.out]; exact HF1.out, y, gs, os, by rw [← HS1.out]; exact HCF.out, rfl⟩), N3.out⟩)
    · have INV : Inv s1 := by rw [HS1.out]; exact Inv.all T text
      obtain ⟨fit1, fit2⟩ := connF_fit INV hc
      have HF1 := hid hf1
      have R := hid r
      have HCF := hid hc
      have HA0 := hid hA0
      rcases (show i = 2 ∨ i = 3 by omega) with rfl | rfl
      · have ix := idx78_2 WW
        have CI := hid (circle_any (w.heap.size + 2) b text s1 x gv ov gs os W0 WW r cn hf1 (HKD.out.on hA.below) (by rw [fit1]; exact INV.many hf1) (by omega) fit2)
        clear hf1 r hc hA INV fit1 fit2 cn hci h2 h3
        go_upto_if 21 with (go_at_call 18; refine CI.out.mono ?_; rintro e w4 ⟨⟨v4, rfl⟩, c, hc4, k1⟩; have HC4 := hid hc4; have K1 := hid k1; have A4 := hid (HA0.out.kept HBB.out k1.size k1.kept k1.b0); have q12 : w4.cell? ⟨b, 12, none⟩ = some (.int .i64 (fcode (circF s1 c).fault)) := cell_row k1.box 12; have lb := (Array.getElem?_eq_some_iff.1 k1.box).1; clear k1 hc4)
        by_cases hcm : c = -1
        · have ec : circF s1 c = s1 := by unfold circF; rw [if_pos hcm]
          have e1 : (fcode (circF s1 c).fault != 0) = false := by rw [ec, HF1.out]; rfl
          have K2 : Hid (Cn W0 w4 b text s1 x gv ov gs os) := by have := K1.out; rw [ec] at this; exact this
          have HC5 : Hid (CircleIs gs (-1)) := by have := HC4.out; rw [hcm] at this; exact this
          clear ec hcm
          go_wp2
          refine ⟨⟨3, by first | rfl | simp, A4.out, .inr (.inr ⟨by omega, Nat.le_refl _, HF1.out, W0, x, gv, ov, gs, os, R.out, HA0.out, HCF.out, K2.out, fun _ => HC5.out⟩)⟩, ?_⟩
          show 3 - ((2 : Int) + 1).toNat < 3 - (2 : Int).toNat
          decide
        · obtain ⟨q, hq⟩ : ∃ q, q = s1.names.getD c.toNat 0 := ⟨_, rfl⟩
          have ec : circF s1 c = refuse s1 143 q := by unfold circF; rw [if_neg hcm, hq]
          have hrf : (circF s1 c).fault = some (143, q) := by
            rw [ec]
            unfold refuse
            rw [HF1.out]
            rfl
          have e1 : (fcode (circF s1 c).fault != 0) = true := by rw [hrf]; rfl
          have q12n : w4.cell? ⟨b, 12, none⟩ = some (.int .i64 143) := q12.trans (congrArg (fun f => some (Value.int .i64 (fcode f))) hrf)
          have q13 : w4.cell? ⟨b, 13, none⟩ = some (.int .i64 ((spotN (text.take q)).1 : Int)) := (cell_row K1.out.box 13).trans (congrArg (fun f => some (Value.int .i64 (fline text f))) hrf)
          have q14 : w4.cell? ⟨b, 14, none⟩ = some (.int .i64 ((spotN (text.take q)).2 : Int)) := (cell_row K1.out.box 14).trans (congrArg (fun f => some (Value.int .i64 (fcol text f))) hrf)
          have HCM := hid hcm
          have HQ := hid hq
          clear ec hcm hrf q12 hq
          have q12 := q12n
          clear q12n
          go_upto_region 7 with fail
          have mixed := Tryd.lays161.mixed
          obtain ⟨a1, a2, a3, a4, a5, a6, a7, a8, a9, a10, a11, a12, a13, a14⟩ := A4.out.cells
          obtain ⟨d1, d2, d3, d4, d5, d6, d7, d8, d9, d10, d11, d12, d13, d14⟩ := A4.out.drew.cells
          have nb : b ≠ w.heap.size := by have := HBB.out; omega
          have nb' : w.heap.size ≠ b := by have := HBB.out; omega
          have nc : b ≠ w.heap.size + 1 := by have := HBB.out; omega
          have nc' : w.heap.size + 1 ≠ b := by have := HBB.out; omega
          have ne : w.heap.size ≠ w.heap.size + 1 := by omega
          have ne' : w.heap.size + 1 ≠ w.heap.size := by omega
          have p12 : w4.drew.cell? ⟨b, 12, none⟩ = some (.int .i64 143) := q12
          have p13 : w4.drew.cell? ⟨b, 13, none⟩ = some (.int .i64 ((spotN (text.take q)).1 : Int)) := q13
          have p14 : w4.drew.cell? ⟨b, 14, none⟩ = some (.int .i64 ((spotN (text.take q)).2 : Int)) := q14
          have lbd : b < w4.drew.heap.size := lb
          go_region
          all_goals
            (generalize hW9 : World.drew (World.setCell _ _ _) = W9
             obtain ⟨n1, n2, n3, n4⟩ := A4.out.told _ _ _ _ _ _ W9 hW9.symm
             have N1 := hid n1
             have N2 := hid n2
             have N3 := hid n3
             clear hW9 n1 n2 n3 n4 a1 a2 a3 a4 a5 a6 a7 a8 a9 a10 a11 a12 a13 a14 d1 d2 d3 d4 d5 d6 d7 d8 d9 d10 d11 d12 d13 d14 q12 q13 q14 p12 p13 p14
             go_wp2
             refine bodyPost_ret (results_cir rfl _ _ _ _ _ _ _ _ _ _ rfl rfl N1.out N2.out) rfl ?_
             exact ⟨.inr (.inr ⟨by rw [← HS1.out]; exact HF1.out, gs, os, c, by rw [← HS1.out]; exact HCF.out, HC4.out, .inl ⟨HCM.out, by rw [← HS1.out, ← HQ.out]; rfl⟩⟩), N3.out⟩)
      · have HCI := hid (hci rfl)
        obtain ⟨sg, cg, hgv⟩ := own_shape cn.gates
        obtain ⟨so, co, hov⟩ := own_shape cn.outs
        subst hgv
        subst hov
        have g9 : WW.cell? ⟨b, 9, none⟩ = some (str s1.cname) := cell_row cn.box 9
        have g10 : WW.cell? ⟨b, 10, none⟩ = some (.slice sg gs.length cg) := cell_row cn.box 10
        have g11 : WW.cell? ⟨b, 11, none⟩ = some (.slice so os.length co) := cell_row cn.box 11
        have lb : b < WW.heap.size := (Array.getElem?_eq_some_iff.1 cn.box).1
        have CN := hid cn
        obtain ⟨a1, a2, a3, a4, a5, a6, a7, a8, a9, a10, a11, a12, a13, a14⟩ := HA.out.cells
        have ne : w.heap.size ≠ w.heap.size + 1 := by omega
        have ne' : w.heap.size + 1 ≠ w.heap.size := by omega
        clear hf1 r hc hA INV fit1 fit2 cn hci h2 h3
        go_wp2
        refine bodyPost_ret (results_cir rfl _ _ _ _ _ _ _ _ _ _ rfl rfl (HA.out.told0 _ _ _ _ _ _ _ rfl).1 (HA.out.told0 _ _ _ _ _ _ _ rfl).2.1) rfl ?_
        have n4 := (HA.out.told0 (str s1.cname) (.slice sg gs.length cg) (.slice so os.length co) (.int .i64 0) (.int .i64 0) (.int .i64 0) _ rfl)
        have hw0 := (Array.getElem?_eq_some_iff.1 HA0.out.flt).1
        refine ⟨.inr (.inr ⟨by rw [← HS1.out]; exact HF1.out, gs, os, -1, by rw [← HS1.out]; exact HCF.out, HCI.out, .inr ⟨rfl, sg, cg, so, co, by rw [← HS1.out], ?_, ?_⟩⟩), n4.2.2.1⟩
        · exact own_lower (B := _) (ShfKit_own_kept CN.out.gates (fun g hg => n4.2.2.2 g (by have := (CN.out.gates.lt g hg).1; omega) (by have := (CN.out.gates.lt g hg).1; omega))) (by omega)
        · exact own_lower (B := _) (ShfKit_own_kept CN.out.outs (fun g hg => n4.2.2.2 g (by have := (CN.out.outs.lt g hg).1; omega) (by have := (CN.out.outs.lt g hg).1; omega))) (by omega)
end Go.Proofs.YtfmmmhcpdinhgabDoor
/-
  Parse.
-/
namespace Go.Proofs.YtfmmmhcpdinhgabDoor
open Go.RowKit Go.Deep PureNet PureRd ShfKit
set_option maxRecDepth 100000

theorem ReadIs.shape {B : Nat} {T : Nat → List UInt8} {text : List UInt8} {e : Ending} {W : World} (h : ReadIs B T text e W) : ∃ (nm : ByteArray) (sg : Option Addr) (lg cg : Nat) (so : Option Addr) (lo co : Nat) (x y z : Int), e = .returned (.tuple #[.agg #[.string nm, .slice sg lg cg, .slice so lo co], .agg #[.int .i64 x, .int .i64 y, .int .i64 z]]) := by
  rcases h with ⟨p, _, rfl⟩ | ⟨_, y, gs, os, _, rfl⟩ | ⟨_, gs, os, c, _, _, ⟨_, rfl⟩ | ⟨_, sg, cg, so, co, rfl, _⟩⟩
  all_goals exact ⟨_, _, _, _, _, _, _, _, _, _, rfl⟩
theorem ReadIs.later {B B' : Nat} {T : Nat → List UInt8} {text : List UInt8} {e : Ending} {W W' : World} (h : ReadIs B T text e W) (hB : B' ≤ B) (hk : ∀ k, B ≤ k → k < W.heap.size → W'.heap[k]? = W.heap[k]?) : ReadIs B' T text e W' := by
  have ck : ∀ {e size n : Nat} {v : Value} {xs : List Value}, W.ownsRow B e size v n xs → W'.ownsRow B' e size v n xs := fun ho => by
    refine ⟨ho.1, ?_⟩
    rcases ho.2 with h0 | ⟨g, cap, cur, hv, hb, hr, rest⟩
    · exact .inl h0
    · exact .inr ⟨g, cap, cur, hv, Nat.le_trans hB hb, (hk g hb (Array.getElem?_eq_some_iff.1 hr).1).trans hr, rest⟩
  rcases h with h | h | ⟨h1, gs, os, c, h2, h3, h4⟩
  · exact .inl h
  · exact .inr (.inl h)
  · refine .inr (.inr ⟨h1, gs, os, c, h2, h3, ?_⟩)
    rcases h4 with h4 | ⟨h5, sg, cg, so, co, h6, h7, h8⟩
    · exact .inl h4
    · exact .inr ⟨h5, sg, cg, so, co, h6, ck h7, ck h8⟩

set_option maxHeartbeats 4000000 in
theorem parse_any (T : Nat → List UInt8) (text : List UInt8) (w : World) (hl : text.length ≤ 1048576) (hops : OpsT w T) (hkd : KindsAt w) :
    Calls Tryd.prog 4 #[str text] w fun e W => ReadIs w.heap.size T text e W ∧ Below w.heap.size w W := by
  obtain ⟨w0, hw0⟩ : ∃ w0, w0 = (w.alloc (.cells #[.string ⟨#[]⟩, .slice none 0 0, .slice none 0 0] 25)).alloc (.cells #[.int .i64 0, .int .i64 0, .int .i64 0] 30) := ⟨_, rfl⟩
  have hs0 : w0.heap.size = w.heap.size + 2 := by rw [hw0]; simp
  have A0 : Ans w w0 := by
    refine ⟨by rw [hw0]; exact ((Below.refl w.heap.size w).alloc (Nat.le_refl _) _).alloc (by simp) _, ?_, ?_⟩
    · rw [hw0]
      exact (Lib.alloc_old _ _ _ (by simp)).trans (heap_alloc_new w _)
    · have e1 : (w.alloc (.cells #[.string ⟨#[]⟩, .slice none 0 0, .slice none 0 0] 25)).heap.size = w.heap.size + 1 := by simp
      rw [hw0, ← e1]
      exact heap_alloc_new _ _
  have RD := hid (read_any T text w0 hl (hops.on A0.below hops.pos) (hkd.on A0.below))
  have HW0 := hid hw0
  have HA0 := hid A0
  have HS0 := hid hs0
  have hlt : ¬ ((1048576 : Int) < (text.length : Int)) := by omega
  have ne : w.heap.size ≠ w.heap.size + 1 := by omega
  have ne' : w.heap.size + 1 ≠ w.heap.size := by omega
  clear hw0 A0 hops hkd hs0
  go_enter Tryd.func4, Tryd.ntmps4
  go_wp2_with (first
    | (have q := HW0; clear q; rw [← HW0.out]; clear HW0)
    | (go_at_call 9; refine RD.out.mono ?_; rintro e w4 ⟨k1, k2⟩; obtain ⟨nm, sg, lg, cg, so, lo, co, x, y, z, rfl⟩ := k1.shape; have K1 := hid k1; have A4 := hid (HA0.out.on (by rw [HS0.out] at k2; exact k2)); obtain ⟨a1, a2, a3, a4, a5, a6, a7, a8, a9, a10, a11, a12, a13, a14⟩ := A4.out.cells; clear k1 k2))
  refine bodyPost_ret (results_cir rfl _ _ _ _ _ _ _ _ _ _ rfl rfl (A4.out.told0 _ _ _ _ _ _ _ rfl).1 (A4.out.told0 _ _ _ _ _ _ _ rfl).2.1) rfl ?_
  have n4 := A4.out.told0 (.string nm) (.slice sg lg cg) (.slice so lo co) (.int .i64 x) (.int .i64 y) (.int .i64 z) _ rfl
  refine ⟨K1.out.later (by rw [HS0.out]; omega) (fun k h1 h2 => n4.2.2.2 k (by rw [HS0.out] at h1; omega) (by rw [HS0.out] at h1; omega)), n4.2.2.1⟩
end Go.Proofs.YtfmmmhcpdinhgabDoor
