import Derived.Test.YtfmmmhcpdinhgabGreatDoorZ26
/-
  CircuitCircles: the law.
-/
namespace Go.Proofs.YtfmmmhcpdinhgabGreatDoor
open Go.RowKit Go.Deep PureNet PureRd ShfKit
set_option maxRecDepth 100000

/-- places of gates. -/
def Gts (c : Net) (L : List Int) : Prop := ∀ v ∈ L, ∃ (x : Nat) (g : Ga), v = (x : Int) ∧ c.gates[x]? = some g ∧ g.kind = 2
theorem Gts.snoc {c : Net} {L : List Int} (h : Gts c L) {x : Nat} {g : Ga} (hg : c.gates[x]? = some g) (hk : g.kind = 2) : Gts c (L ++ [(x : Int)]) := fun v hv => by
  rcases List.mem_append.1 hv with hv | hv
  · exact h v hv
  · exact ⟨x, g, by simpa using hv, hg, hk⟩
set_option maxHeartbeats 8000000 in
theorem circles_law {T : Nat → List UInt8} (hT : TabOk T) (code : List Int) (sc : Option Addr) (cc : Nat) (fr tw : Int) (w : World) (hkd : KindsAt w) (hkw : KwAt w) (hops : OpsT w T) (hop0 : OpsAt w 0 (tbOf T))
    (hc : CellsAt w sc (nu code)) (hr : ∀ x ∈ code, -9223372036854775808 ≤ x ∧ x ≤ 9223372036854775807) (hl : code.length ≤ 17592186043904)
    (hfr : -9223372036854775808 ≤ fr ∧ fr ≤ 9223372036854775807) (hto : -9223372036854775808 ≤ tw ∧ tw ≤ 9223372036854775807) :
    Calls Tryz.prog 4 #[.slice sc code.length cc, .int .i64 fr, .int .i64 tw] w fun e w' => e = .returned (.bool true) ∧ Below w.heap.size w w' := by
  have MD := hid (made_any code sc cc w hc hr hl)
  have KD := hid hkd
  have KW := hid hkw
  have OP := hid hops
  have OP0 := hid hop0
  have HFR := hid hfr
  have HTO := hid hto
  clear hc hr hkd hkw hops hl hop0 hfr hto
  go_enter Tryz.func4, Tryz.ntmps4
  go_wp2_with (fail)
  with_reducible refine MD.out.mono ?_
  rintro e w1 ⟨c, sg, cg, so, co, rfl, hm, mg, mo⟩
  clear MD
  obtain ⟨so2, co2, ho2, cos, hon, _⟩ := own_cells mo.own
  cases ho2
  obtain ⟨gb, cap, cur, hv, hB, hgr, hrest⟩ : ∃ gb cap cur, Value.slice sg c.gates.length cg = .slice (some ⟨gb, 0, none⟩) c.gates.length cap ∧ w.heap.size ≤ gb ∧ w1.heap[gb]? = some (.cells cur 42 (0, 0)) ∧ True := by
    rcases mg.own.2 with ⟨_, h0⟩ | ⟨gb, cap, cur, hv, hB, hgr, _⟩
    · have := hm.pos
      omega
    · exact ⟨gb, cap, cur, hv, hB, hgr, trivial⟩
  obtain ⟨sg2, cg2, hg2, cgs, hgn, _⟩ := own_cells mg.own
  cases hg2
  cases hv
  have HSO : Hid (∀ g o, so = some ⟨g, o, none⟩ → g ≠ gb) := fun g o e e2 => by
    rcases mo.own.2 with ⟨h1, _⟩ | ⟨g', cap', cur', hv', _, hg', _⟩
    · simp only [Value.slice.injEq] at h1
      rw [h1.1] at e
      cases e
    · simp only [Value.slice.injEq] at hv'
      rw [hv'.1] at e
      simp only [Option.some.injEq, Addr.mk.injEq] at e
      rw [e.1, e2, hgr] at hg'
      simp at hg'
  have B1 := hid mg.below
  have CA : Hid (CirAt w1 c (some ⟨gb, 0, none⟩) so) := ⟨cgs, cos⟩
  have HM := hid hm
  have hfew := hm.few
  have HFO := hid hm.fewOuts
  have HGR := hid hgr
  have HGB := hid hB
  clear hm mg mo cgs cos hgn hon hrest hgr hB
  obtain ⟨X, hX⟩ : ∃ X, X = w1.alloc (Obj.cells #[.string c.name, .slice (some ⟨gb, 0, none⟩) c.gates.length cg, .slice so c.outs.length co] 25) := ⟨_, rfl⟩
  obtain ⟨bx, hbx⟩ : ∃ bx, bx = w1.heap.size := ⟨_, rfl⟩
  have BX : Hid (Below w.heap.size w X) := by rw [hX]; exact B1.out.alloc B1.out.size _
  have RX : Hid (X.heap[bx]? = some (Obj.cells #[.string c.name, .slice (some ⟨gb, 0, none⟩) c.gates.length cg, .slice so c.outs.length co] 25)) := by rw [hX, hbx]; exact heap_alloc_new w1 _
  have BOX : Hid (∀ W, Below X.heap.size X W → (∀ j, W.cell? ⟨bx, j, none⟩ = (#[.string c.name, .slice (some ⟨gb, 0, none⟩) c.gates.length cg, .slice so c.outs.length co] : Array Value)[j]?) ∧ bx < W.heap.size) := fun W hW => by
    have hr2 := (hW.block _ (Array.getElem?_eq_some_iff.1 RX.out).1).trans RX.out
    exact ⟨fun j => cell_row hr2 j, (Array.getElem?_eq_some_iff.1 hr2).1⟩
  have B1X : Below w1.heap.size w1 X := by rw [hX]; exact (Below.refl _ _).alloc (Nat.le_refl _) _
  have CX : Hid (CirAt X c (some ⟨gb, 0, none⟩) so) := CA.out.below B1X
  have GX : Hid (X.heap[gb]? = some (.cells cur 42 (0, 0)) ∧ gb < bx) := ⟨(B1X.block _ (Array.getElem?_eq_some_iff.1 HGR.out).1).trans HGR.out, by rw [hbx]; exact (Array.getElem?_eq_some_iff.1 HGR.out).1⟩
  have FO : Hid (∀ W, Below X.heap.size X W → Calls Tryz.prog 7 #[cirV c (some ⟨gb, 0, none⟩) cg so co] W fun e w' => e = .returned (.bool true) ∧ Below X.heap.size X w') := fun W hW => (formed_ok c _ so cg co W (CX.out.below hW) ((KD.out.on BX.out).on hW) HM.out.formed).mono fun e w' ⟨h1, h2⟩ => ⟨h1, hW.trans (h2.mono hW.size)⟩
  have CN : Hid (∀ W (y : Nat), Below X.heap.size X W → y < c.gates.length → Calls Tryz.prog 11 #[cirV c (some ⟨gb, 0, none⟩) cg so co, .int .i64 (y : Int)] W fun e w' => (∃ s k L, e = .returned (.tuple #[.slice s L.length k, .int .i64 0]) ∧ CellsAt w' s (nn2 L) ∧ ConeL c y L) ∧ Below X.heap.size X w') := fun W y hW hy => (cone_landed c _ so cg co y W (CX.out.below hW) ((KD.out.on BX.out).on hW) HM.out.formed hy).mono fun e w' ⟨h1, h2⟩ => ⟨h1, hW.trans (h2.mono hW.size)⟩
  have HX := hid hX
  have HBX := hid hbx
  obtain ⟨c0, hb0⟩ := BOX.out X (Below.refl _ _)
  clear hX hbx CA B1X
  go_wp2_with (rw [← HX.out, ← HBX.out])
  clear c0 hb0 HX HBX
  go_loopw [8, 9] (fun fv iv W => ∃ (i : Nat) (L : List Int), i ≤ c.gates.length ∧ iv = .int .i64 (i : Int) ∧ Hid (Mk X W 3 1 fv L.length (nu L) ∧ Gts c L ∧ L.length ≤ i)) (fun _ iv _ => c.gates.length - (intOf iv).toNat)
  case atStart => exact ⟨0, [], Nat.zero_le _, rfl, hid ⟨Mk.nil _ _ _, (fun v hv => (by cases hv)), Nat.le_refl _⟩⟩
  case round =>
    obtain ⟨i, L, hi, rfl, HR⟩ := hrel
    obtain ⟨sf, cf, rfl⟩ := own_shape HR.out.1.own
    obtain ⟨c1, hb1⟩ := BOX.out wr HR.out.1.below
    have hll := HR.out.2.2
    by_cases hlt : i < c.gates.length
    · obtain ⟨g, hg⟩ : ∃ g, c.gates[i]? = some g := ⟨_, List.getElem?_eq_getElem hlt⟩
      obtain ⟨b, o, e1, hb, d0, _⟩ := gate_at (CX.out.below HR.out.1.below).gates i g hg
      cases e1
      rw [Nat.zero_add] at d0
      have HG := hid hg
      clear hg
      by_cases hk : g.kind = 2
      · have HGT := hid (HR.out.2.1.snoc HG.out hk)
        go_wp2_with (at_builtin; refine mk_app rfl _ _ 22 _ 8 rfl Tryz.underlying22 info3 rfl (by decide) HR.out.1 [.int .i64 (i : Int)] 3 _ rfl rfl rfl rfl (fun u hu => by simp at hu; subst hu; rfl) (by omega) (by omega) ?_; intro sx cx w2 g2 m2; have M2 := hid m2; clear g2 m2)
        exact ⟨⟨i + 1, L ++ [(i : Int)], hlt, by go_num, hid ⟨by rw [List.length_append]; simpa [nu] using M2.out, HGT.out, by simp; omega⟩⟩, by simp [intOf]; omega⟩
      · go_wp2
        exact ⟨⟨i + 1, L, hlt, by go_num, hid ⟨HR.out.1, HR.out.2.1, by omega⟩⟩, by simp [intOf]; omega⟩
    · have BYX := hid HR.out.1.below
      by_cases hne : L.length = 0
      · go_wp2_with (go_at_call 7; refine Calls.mono (FO.out _ BYX.out) ?_; rintro e w3 ⟨rfl, b3⟩; have B3 := hid b3; clear b3)
        go_ret
        exact ⟨rfl, BX.out.trans (B3.out.mono BX.out.size)⟩
      · have hpos : 0 < L.length := by omega
        obtain ⟨a, ha, hwa⟩ : ∃ a : Nat, a < L.length ∧ ∀ W, Calls Tryz.prog 10 #[.int .i64 fr, .int .i64 (L.length : Int)] W fun e w' => e = .returned (.int .i64 (a : Int)) ∧ w' = W := ⟨wi fr L.length, wi_lt fr hpos, fun W => within_any fr L.length W HFR.out hpos (by omega)⟩
        obtain ⟨d, hd, hwd⟩ : ∃ d : Nat, d < L.length ∧ ∀ W, Calls Tryz.prog 10 #[.int .i64 tw, .int .i64 (L.length : Int)] W fun e w' => e = .returned (.int .i64 (d : Int)) ∧ w' = W := ⟨wi tw L.length, wi_lt tw hpos, fun W => within_any tw L.length W HTO.out hpos (by omega)⟩
        have WA := hid hwa
        have WD := hid hwd
        obtain ⟨x, gx, hvx, hgx, hkx⟩ := HR.out.2.1 L[a] (List.getElem_mem _)
        obtain ⟨y, gy, hvy, hgy, hky⟩ := HR.out.2.1 L[d] (List.getElem_mem _)
        obtain ⟨sf2, cf2, ef, ccf, _, _⟩ := own_cells HR.out.1.own
        cases ef
        obtain ⟨fb, fo, e1, hfb, cxa⟩ := num_at ccf a (x : Int) (by rw [List.getElem?_eq_getElem ha, hvx])
        obtain ⟨fb2, fo2, e2, _, cyd⟩ := num_at ccf d (y : Int) (by rw [List.getElem?_eq_getElem hd, hvy])
        subst e1
        cases e2
        have HGX := hid hgx
        have HKX := hid hkx
        have hxn : x < c.gates.length := (List.getElem?_eq_some_iff.1 hgx).1
        have hyn : y < c.gates.length := (List.getElem?_eq_some_iff.1 hgy).1
        clear hwa hwd hvx hvy hgx hkx hgy hky ccf HR gy
        go_wp2_with (first
          | (go_at_call 11; refine Calls.mono (CN.out _ y BYX.out hyn) ?_; rintro e w3 ⟨⟨s2, k2, L2, rfl, hc2, hL2⟩, b3⟩; have C2 := hid hc2; have HL2 := hid hL2; have B3 := hid b3; clear hc2 hL2 b3)
          | (go_at_call 10; with_reducible refine Calls.mono (WA.out _) ?_; rintro e w9 ⟨rfl, h9⟩; subst h9)
          | (go_at_call 10; with_reducible refine Calls.mono (WD.out _) ?_; rintro e w9 ⟨rfl, h9⟩; subst h9))
        clear cxa cyd c1 hb1 hpos ha hd WA WD hne hlt hll hi hfb
        have L2N := hid HL2.out.few
        go_loopw [14, 15] (fun lv jv W => ∃ j : Nat, j ≤ L2.length ∧ jv = .int .i64 (j : Int) ∧ lv = .bool (decide (x ∈ L2.take j)) ∧ Hid (Below w3.heap.size w3 W)) (fun _ jv _ => L2.length - (intOf jv).toNat)
        case atStart => exact ⟨0, Nat.zero_le _, rfl, by simp, hid (Below.refl _ _)⟩
        case round =>
          obtain ⟨j, hj, rfl, rfl, HW⟩ := hrel
          have hl2 := L2N.out
          by_cases hjl : j < L2.length
          · obtain ⟨z, hz⟩ : ∃ z, L2[j]? = some z := ⟨_, List.getElem?_eq_getElem hjl⟩
            obtain ⟨zb, zo, ez, hzb, cz⟩ := (C2.out.below HW.out).at_ j (.int .i64 (z : Int)) (by unfold nn2; rw [List.getElem?_map, hz]; rfl)
            subst ez
            have HT1 : Hid (x ∈ L2.take (j + 1) ↔ x ∈ L2.take j ∨ x = z) := by
              show _ ↔ _
              rw [List.take_add_one, hz]
              simp
            clear hz
            by_cases hin : x ∈ L2.take j
            · have HD : Hid (decide (x ∈ L2.take (j + 1)) = true) := decide_eq_true (HT1.out.2 (.inl hin))
              rw [decide_eq_true hin]
              clear hin
              go_wp2
              exact ⟨⟨j + 1, hjl, by go_num, by rw [HD.out], HW⟩, by simp [intOf]; omega⟩
            · rw [decide_eq_false hin]
              by_cases hzx : z = x
              · have HD : Hid (decide (x ∈ L2.take (j + 1)) = true) := decide_eq_true (HT1.out.2 (.inr hzx.symm))
                subst hzx
                clear hin
                go_wp2
                exact ⟨⟨j + 1, hjl, by go_num, by rw [HD.out], HW⟩, by simp [intOf]; omega⟩
              · have HD : Hid (decide (x ∈ L2.take (j + 1)) = false) := decide_eq_false (fun e => (HT1.out.1 e).elim hin (fun e2 => hzx e2.symm))
                have hzi : ¬ (z : Int) = (x : Int) := by omega
                clear hin hzx
                go_wp2
                exact ⟨⟨j + 1, hjl, by go_num, by rw [HD.out]; exact congrArg Value.bool (beq_eq_false_iff_ne.2 hzi), HW⟩, by simp [intOf]; omega⟩
          · have htk : L2.take j = L2 := List.take_of_length_le (by omega)
            have HMEM : Hid (x ∈ L2 ↔ (x = y ∨ PureNet.Way c.gates y x)) := HL2.out.mem x
            rw [htk]
            have BWX : Hid (Below X.heap.size X wr) := B3.out.trans (HW.out.mono B3.out.size)
            obtain ⟨c1, hb1⟩ := BOX.out wr BWX.out
            have F5 := hid (FO.out wr BWX.out)
            clear htk HW C2 HL2 B3 FO CN
            by_cases hin : x ∈ L2
            · rw [decide_eq_true hin]
              have HN := hid (HMEM.out.1 hin)
              clear hin HMEM hj
              go_wp2_with (first
                | (have q := HV; clear q; rw [← HV.out]; clear HV)
                | (have q := M8; clear q; go_at_call 7; refine Calls.mono (LV1.out.formed w8 false (BV3.out.trans (B8.out.mono BV3.out.size)) (by simp [lean_unformed HM.out HGX.out HKX.out HN.out])) ?_; rintro e w9 ⟨rfl, b9⟩; have B9 := hid b9; obtain ⟨f9, hf9⟩ := FC.out w9 (B8.out.trans (b9.mono B8.out.size)); clear b9 M8)
                | (have q := M7; clear q; go_at_call 6; refine Calls.mono (LV1.out.print _ BV3.out (lean_unformed HM.out HGX.out HKX.out HN.out)) ?_; rintro e w8 ⟨rfl, b8⟩; have B8 := hid b8; obtain ⟨c8, hb8⟩ := LV1.out.box w8 (BV3.out.trans (b8.mono BV3.out.size)); have M8 := hid True.intro; clear b8 M7)
                | (have q := M6; clear q; go_at_call 8; refine Calls.mono (LV1.out.circle w6 B6.out HN.out) ?_; rintro e w7 ⟨rfl, b7⟩; obtain ⟨X3, hX3⟩ : ∃ X3, X3 = (w7.alloc (Obj.cells #[Value.string ⟨#[]⟩, Value.slice none 0 0, Value.slice none 0 0] 25)).alloc (Obj.cells #[Value.int .i64 143, Value.int .i64 ((x : Int) + 2), Value.int .i64 6] 34) := ⟨_, rfl⟩; have B73 : Below w7.heap.size w7 X3 := (by rw [hX3]; exact ((Below.refl _ _).alloc (Nat.le_refl _) _).alloc (by simp) _); have BV3 : Hid (Below V.heap.size V X3) := ((B6.out.trans (b7.mono B6.out.size)).trans (B73.mono (Nat.le_trans B6.out.size b7.size))); have RF : Hid (X3.heap[w7.heap.size + 1]? = some (Obj.cells #[Value.int .i64 143, Value.int .i64 ((x : Int) + 2), Value.int .i64 6] 34)) := (by have s1 : (w7.alloc (Obj.cells #[Value.string ⟨#[]⟩, Value.slice none 0 0, Value.slice none 0 0] 25)).heap.size = w7.heap.size + 1 := (by simp); rw [hX3, ← s1]; exact heap_alloc_new _ _); have FC : Hid (∀ W, Below X3.heap.size X3 W → (∀ j, W.cell? ⟨w7.heap.size + 1, j, none⟩ = (#[Value.int .i64 143, Value.int .i64 ((x : Int) + 2), Value.int .i64 6] : Array Value)[j]?) ∧ w7.heap.size + 1 < W.heap.size) := (fun W hW => by have h2 := (hW.block _ (Array.getElem?_eq_some_iff.1 RF.out).1).trans RF.out; exact ⟨fun j => cell_row h2 j, (Array.getElem?_eq_some_iff.1 h2).1⟩); obtain ⟨c7, hb7⟩ := LV1.out.box X3 BV3.out; have M7 := hid True.intro; clear b7 B73 M6; subst hX3)
                | (have q := M5; clear q; go_at_call 12; refine Calls.mono (LV1.out.text V (Below.refl _ _)) ?_; rintro e w6 ⟨rfl, b6⟩; have B6 := hid b6; have M6 := hid True.intro; clear b6)
                | (go_at_call 7; refine F5.out.mono ?_; rintro e w5 ⟨rfl, b5⟩; have r5 := (b5.block _ (Array.getElem?_eq_some_iff.1 GX.out.1).1).trans GX.out.1; obtain ⟨b, o, e1, hb, _, _, _, d3, _⟩ := gate_at (CX.out.below b5).gates x gx HGX.out; cases e1; rw [Nat.zero_add] at d3; have f3 := unfrozen_row r5 (x * 6 + 3); obtain ⟨c5, hb5⟩ := BOX.out w5 b5; have hlv := lv_of hT (y := y) HM.out HGX.out HKX.out hyn HSO.out HGB.out (Nat.ne_of_lt GX.out.2) (CX.out.below b5) ((b5.block _ (Array.getElem?_eq_some_iff.1 RX.out).1).trans RX.out) (BX.out.trans (b5.mono BX.out.size)) KD.out KW.out OP.out OP0.out r5; obtain ⟨V, hV⟩ : ∃ V, V = w5.setCell ⟨gb, x * 6 + 3, none⟩ (.int .i64 (y : Int)) := ⟨_, rfl⟩; rw [← hV] at hlv; have HV := hid hV; have LV1 := hid hlv.1; have BV := hid hlv.2; obtain ⟨cv, hbv⟩ := LV1.out.box V (Below.refl _ _); have M5 := hid True.intro; clear b5 r5 hlv hV))
              first
                | (go_ret; refine ⟨?_, BV.out.trans ((BV3.out.trans ((B8.out.trans (B9.out.mono B8.out.size)).mono BV3.out.size)).mono BV.out.size)⟩; rfl)
                | trace_state
            · rw [decide_eq_false hin]
              have HN : Hid (¬ (x = y ∨ PureNet.Way c.gates y x)) := (fun e => hin (HMEM.out.2 e))
              clear hin HMEM hj
              go_wp2_with (first
                | (have q := HV; clear q; rw [← HV.out]; clear HV)
                | (have q := M7; clear q; go_at_call 7; refine Calls.mono (LV1.out.formed _ true BV3.out (by simp [lean_formed HM.out HGX.out HKX.out hyn HN.out])) ?_; rintro e w8 ⟨rfl, b8⟩; have B8 := hid b8; obtain ⟨f8, hf8⟩ := FC.out w8 b8; clear b8 M7)
                | (have q := M6; clear q; go_at_call 8; refine Calls.mono (LV1.out.good w6 B6.out HN.out) ?_; rintro e w7 ⟨⟨sg2, cg2, so2, co2, rfl⟩, b7⟩; obtain ⟨X3, hX3⟩ : ∃ X3, X3 = (w7.alloc (Obj.cells #[Value.string (leanTo c x y).name, Value.slice sg2 (leanTo c x y).gates.length cg2, Value.slice so2 (leanTo c x y).outs.length co2] 25)).alloc (Obj.cells #[Value.int .i64 0, Value.int .i64 0, Value.int .i64 0] 34) := ⟨_, rfl⟩; have B73 : Below w7.heap.size w7 X3 := (by rw [hX3]; exact ((Below.refl _ _).alloc (Nat.le_refl _) _).alloc (by simp) _); have BV3 : Hid (Below V.heap.size V X3) := ((B6.out.trans (b7.mono B6.out.size)).trans (B73.mono (Nat.le_trans B6.out.size b7.size))); have RF : Hid (X3.heap[w7.heap.size + 1]? = some (Obj.cells #[Value.int .i64 0, Value.int .i64 0, Value.int .i64 0] 34)) := (by have s1 : (w7.alloc (Obj.cells #[Value.string (leanTo c x y).name, Value.slice sg2 (leanTo c x y).gates.length cg2, Value.slice so2 (leanTo c x y).outs.length co2] 25)).heap.size = w7.heap.size + 1 := (by simp); rw [hX3, ← s1]; exact heap_alloc_new _ _); have FC : Hid (∀ W, Below X3.heap.size X3 W → (∀ j, W.cell? ⟨w7.heap.size + 1, j, none⟩ = (#[Value.int .i64 0, Value.int .i64 0, Value.int .i64 0] : Array Value)[j]?) ∧ w7.heap.size + 1 < W.heap.size) := (fun W hW => by have h2 := (hW.block _ (Array.getElem?_eq_some_iff.1 RF.out).1).trans RF.out; exact ⟨fun j => cell_row h2 j, (Array.getElem?_eq_some_iff.1 h2).1⟩); obtain ⟨c7, hb7⟩ := LV1.out.box X3 BV3.out; have M7 := hid True.intro; clear b7 B73 M6; subst hX3)
                | (have q := M5; clear q; go_at_call 12; refine Calls.mono (LV1.out.text V (Below.refl _ _)) ?_; rintro e w6 ⟨rfl, b6⟩; have B6 := hid b6; have M6 := hid True.intro; clear b6)
                | (go_at_call 7; refine F5.out.mono ?_; rintro e w5 ⟨rfl, b5⟩; have r5 := (b5.block _ (Array.getElem?_eq_some_iff.1 GX.out.1).1).trans GX.out.1; obtain ⟨b, o, e1, hb, _, _, _, d3, _⟩ := gate_at (CX.out.below b5).gates x gx HGX.out; cases e1; rw [Nat.zero_add] at d3; have f3 := unfrozen_row r5 (x * 6 + 3); obtain ⟨c5, hb5⟩ := BOX.out w5 b5; have hlv := lv_of hT (y := y) HM.out HGX.out HKX.out hyn HSO.out HGB.out (Nat.ne_of_lt GX.out.2) (CX.out.below b5) ((b5.block _ (Array.getElem?_eq_some_iff.1 RX.out).1).trans RX.out) (BX.out.trans (b5.mono BX.out.size)) KD.out KW.out OP.out OP0.out r5; obtain ⟨V, hV⟩ : ∃ V, V = w5.setCell ⟨gb, x * 6 + 3, none⟩ (.int .i64 (y : Int)) := ⟨_, rfl⟩; rw [← hV] at hlv; have HV := hid hV; have LV1 := hid hlv.1; have BV := hid hlv.2; obtain ⟨cv, hbv⟩ := LV1.out.box V (Below.refl _ _); have M5 := hid True.intro; clear b5 r5 hlv hV))
              first
                | (go_ret; refine ⟨?_, BV.out.trans ((BV3.out.trans (B8.out.mono BV3.out.size)).mono BV.out.size)⟩; rfl)
                | trace_state
end Go.Proofs.YtfmmmhcpdinhgabGreatDoor
/-
  CircuitCircles: the row and its card.
-/
namespace Go.Proofs.YtfmmmhcpdinhgabGreatDoor
open Go.ChangeShapes Go.WideShapes Go.ChangeAt Go.RowKit Go.Deep PureNet
set_option maxRecDepth 100000

set_option maxRecDepth 100000 in
theorem circles_contract (H : Type) (enc : TypeId × Value → H) (W : World) (base : Nat) (args : Array Value) (ds gs : List (DataW H)) (before : List MemPlace)
    (hval : ∀ (j : Nat) t v, Tryz.f4.params[j]? = some t → args[j]? = some v → Value.okWide Tryz.prog W .any base t v)
    (hW : DataW.Whole enc Tryz.prog Tryz.f4.params.toList Rows.circuitCirclesSpec.vars false W args.toList ds gs before)
    (hsz0 : (DataW.weightsEach Tryz.prog (Tryz.f4.params.toList ++ (OpenSpec.ofChange Rows.circuitCirclesSpec).bare.plain.varTypes Tryz.prog) (ds ++ gs)).all (· ≤ reachBytes) = true) (hL : laidMetH Tryz.prog Rows.circuitCirclesRow.laid W) :
    Calls Tryz.prog 4 args W fun e W' => ∃ v, e = .returned v ∧ Rows.circuitCirclesSpec.post enc Tryz.prog Tryz.f4 false true false false W args v W' := by
  have hsz := hsz0
  clear hsz0
  have hW' := hW
  obtain ⟨p, q, hA0, hV, rfl, hfz, hnd⟩ := hW
  have hA : DataW.TrodAll enc Tryz.prog W 0 (fun _ => true) true Tryz.f4.params.toList args.toList ds p := hA0
  rw [Tryz.params4] at hA hval hsz
  obtain ⟨v0, vs0, d0, ds0, p0, q0, hargs0, rfl, rfl, h0, r0⟩ := trodAll_cons hA
  obtain ⟨v1, vs1, d1, ds1, p1, q1, hargs1, rfl, rfl, h1, r1⟩ := trodAll_cons r0
  obtain ⟨v2, vs2, d2, ds2, p2, q2, hargs2, rfl, rfl, h2, r2⟩ := trodAll_cons r1
  obtain ⟨rfl, rfl, rfl⟩ := trodAll_nil r2
  obtain rfl : args = #[v0, v1, v2] := by cases args; simp_all
  obtain ⟨rfl, rfl⟩ := trodVars_none hV
  obtain ⟨n1, rfl, rfl, rfl, wa1⟩ := open_int Tryz.underlying3 (hval 1 3 v1 rfl rfl) h1
  obtain ⟨n2, rfl, rfl, rfl, wa2⟩ := open_int Tryz.underlying3 (hval 2 3 v2 rfl rfl) h2
  clear hA0
  simp only [List.append_nil] at hW'
  have hlt0 : ∀ x ∈ p0, x.block < W.heap.size := fun x hx => by simpa using hW'.lt x (by simp [hx])
  obtain ⟨sa, ca, code, rfl, hn, hr, hsize⟩ := open_nums (hval 0 22 v0 rfl rfl) h0
  have hb0 := hsize (j := 0) hsz rfl rfl
  obtain ⟨tb1, tb2, tb3, tb4⟩ := tables_of_circles hL
  refine (circles_law opW_ok code sa ca n1 n2 W tb1 tb2 tb3 tb4 hn hr hb0 (i64_wf wa1) (i64_wf wa2)).mono fun e W' ⟨he, hnx⟩ => ?_
  subst he
  refine ⟨_, rfl, _, _, _, [], _, [], hW', ?_, trodAll_cons_mk (Below.trod laidOut (by kernel_rfl) (of_decide_eq_true (by kernel_rfl)) h0 hnx hlt0) (trodAll_mk2 (shut_int Tryz.underlying3 wa1) (shut_int Tryz.underlying3 wa2)), rfl, hnx.frame _, fun h => by cases h⟩
  exact trodAll_mk1 (shut_bool Tryz.underlying4 _)

set_option maxRecDepth 100000 in
theorem circles_lifted (os : Os) (started : os.Started) (H : Type) (enc : TypeId × Value → H) (F : Stop.Interp) :
    ReturnsInHanded {} Tryz.checked os 4 .any ((OpenSpec.ofChange Rows.circuitCirclesSpec).preRow enc Tryz.prog Tryz.f4 Rows.circuitCirclesRow.domain false Rows.circuitCirclesRow.laid) (((OpenSpec.ofChange Rows.circuitCirclesSpec).at F).post enc Tryz.prog Tryz.f4 false true false false) := by
  obtain ⟨lw, hlw⟩ : ∃ lw : World, lw = (fun w0 : World => { w0 with heap := ((((((((w0.heap.modify 7 fun
      | .cells _ t frozen => .cells #[.int .u8 0, .int .u8 1, .int .u8 28, .int .u8 2, .int .u8 29, .int .u8 14, .int .u8 24, .int .u8 3, .int .u8 30, .int .u8 22, .int .u8 20, .int .u8 15, .int .u8 25, .int .u8 17, .int .u8 4, .int .u8 8, .int .u8 31, .int .u8 27, .int .u8 13, .int .u8 23, .int .u8 21, .int .u8 19, .int .u8 16, .int .u8 7, .int .u8 26, .int .u8 12, .int .u8 18, .int .u8 6, .int .u8 11, .int .u8 5, .int .u8 10, .int .u8 9] t frozen
      | o => o).modify 8 fun
      | .cells _ t frozen => .cells #[.int .u8 0, .int .u8 1, .int .u8 56, .int .u8 2, .int .u8 57, .int .u8 49, .int .u8 28, .int .u8 3, .int .u8 61, .int .u8 58, .int .u8 42, .int .u8 50, .int .u8 38, .int .u8 29, .int .u8 17, .int .u8 4, .int .u8 62, .int .u8 47, .int .u8 59, .int .u8 36, .int .u8 45, .int .u8 43, .int .u8 51, .int .u8 22, .int .u8 53, .int .u8 39, .int .u8 33, .int .u8 30, .int .u8 24, .int .u8 18, .int .u8 12, .int .u8 5, .int .u8 63, .int .u8 55, .int .u8 48, .int .u8 27, .int .u8 60, .int .u8 41, .int .u8 37, .int .u8 16, .int .u8 46, .int .u8 35, .int .u8 44, .int .u8 21, .int .u8 52, .int .u8 32, .int .u8 23, .int .u8 11, .int .u8 54, .int .u8 26, .int .u8 40, .int .u8 15, .int .u8 34, .int .u8 20, .int .u8 31, .int .u8 10, .int .u8 25, .int .u8 14, .int .u8 19, .int .u8 9, .int .u8 13, .int .u8 8, .int .u8 7, .int .u8 6] t frozen
      | o => o).modify 4 fun
      | .cells _ t frozen => .cells #[.int .u64 1, .int .u64 10, .int .u64 100, .int .u64 1000, .int .u64 10000, .int .u64 100000, .int .u64 1000000, .int .u64 10000000, .int .u64 100000000, .int .u64 1000000000, .int .u64 10000000000, .int .u64 100000000000, .int .u64 1000000000000, .int .u64 10000000000000, .int .u64 100000000000000, .int .u64 1000000000000000, .int .u64 10000000000000000, .int .u64 100000000000000000, .int .u64 1000000000000000000, .int .u64 10000000000000000000] t frozen
      | o => o).modify 0 fun
      | .cells _ t frozen => .cells #[.string ⟨#[122, 101, 114, 111]⟩, .string ⟨#[110, 111, 114]⟩, .string ⟨#[108, 101, 115, 115]⟩, .string ⟨#[110, 111, 116, 97]⟩, .string ⟨#[100, 105, 102, 102]⟩, .string ⟨#[110, 111, 116, 98]⟩, .string ⟨#[120, 111, 114]⟩, .string ⟨#[110, 97, 110, 100]⟩, .string ⟨#[97, 110, 100]⟩, .string ⟨#[105, 102, 102]⟩, .string ⟨#[98]⟩, .string ⟨#[105, 109, 112]⟩, .string ⟨#[97]⟩, .string ⟨#[114, 101, 118]⟩, .string ⟨#[111, 114]⟩, .string ⟨#[111, 110, 101]⟩] t frozen
      | o => o).modify 6 fun
      | .cells _ t frozen => .cells #[.int .u8 128, .int .u8 191, .int .u8 160, .int .u8 191, .int .u8 128, .int .u8 159, .int .u8 144, .int .u8 191, .int .u8 128, .int .u8 143, .int .u8 0, .int .u8 0, .int .u8 0, .int .u8 0, .int .u8 0, .int .u8 0, .int .u8 0, .int .u8 0, .int .u8 0, .int .u8 0, .int .u8 0, .int .u8 0, .int .u8 0, .int .u8 0, .int .u8 0, .int .u8 0, .int .u8 0, .int .u8 0, .int .u8 0, .int .u8 0, .int .u8 0, .int .u8 0] t frozen
      | o => o).modify 1 fun
      | .cells _ t frozen => .cells #[.string ⟨#[]⟩, .int .i64 0, .int .i64 0, .string ⟨#[105, 110, 112, 117, 116]⟩, .int .i64 0, .int .i64 0, .string ⟨#[103, 97, 116, 101]⟩, .int .i64 15, .int .i64 2, .string ⟨#[108, 97, 116, 99, 104]⟩, .int .i64 1, .int .i64 1, .string ⟨#[109, 117, 120]⟩, .int .i64 0, .int .i64 3] t frozen
      | o => o).modify 2 fun
      | .cells _ t frozen => .cells #[.string ⟨#[122, 101, 114, 111]⟩, .string ⟨#[110, 111, 114]⟩, .string ⟨#[108, 101, 115, 115]⟩, .string ⟨#[110, 111, 116, 97]⟩, .string ⟨#[100, 105, 102, 102]⟩, .string ⟨#[110, 111, 116, 98]⟩, .string ⟨#[120, 111, 114]⟩, .string ⟨#[110, 97, 110, 100]⟩, .string ⟨#[97, 110, 100]⟩, .string ⟨#[105, 102, 102]⟩, .string ⟨#[98]⟩, .string ⟨#[105, 109, 112]⟩, .string ⟨#[97]⟩, .string ⟨#[114, 101, 118]⟩, .string ⟨#[111, 114]⟩, .string ⟨#[111, 110, 101]⟩] t frozen
      | o => o).modify 5 fun
      | .cells _ t frozen => .cells (Go.Pinned.utf8FirstZ.map fun n : Nat => Value.int .u8 (Int.ofNat n)).toArray t frozen
      | o => o) }) (World.holding Tryz.prog os ⟨#[], #[], []⟩) := ⟨_, rfl⟩
  have hos : lw.os = os := by rw [hlw]; rfl
  have hv : (lw.forCall (fun _ _ => 0) ⟨#[], #[.slice none 0 0, .int .i64 0, .int .i64 0], []⟩).variablesRefB Tryz.checked.prog = true := by rw [hlw]; kernel_rfl
  have hr : ((lw.forCall (fun _ _ => 0) ⟨#[], #[.slice none 0 0, .int .i64 0, .int .i64 0], []⟩).heap.toList.drop Tryz.checked.prog.globals.size).take ((begin Tryz.checked.prog (fun _ _ => 0) default).world.heap.size - Tryz.checked.prog.globals.size) = (begin Tryz.checked.prog (fun _ _ => 0) default).world.heap.toList.drop Tryz.checked.prog.globals.size := by rw [hlw]; kernel_rfl
  have hok : Input.okWideB Tryz.checked.prog (lw.forCall (fun _ _ => 0) ⟨#[], #[.slice none 0 0, .int .i64 0, .int .i64 0], []⟩) 4 ⟨#[], #[.slice none 0 0, .int .i64 0, .int .i64 0], []⟩ = true := by rw [hlw]; kernel_rfl
  have hx : DataW.whole enc Tryz.prog (lw.forCall (fun _ _ => 0) ⟨#[], #[.slice none 0 0, .int .i64 0, .int .i64 0], []⟩).memory Tryz.f4.params.toList Rows.circuitCirclesSpec.vars false (#[.slice none 0 0, .int .i64 0, .int .i64 0] : Array Value).toList 8 = some ([.nil, .lit (.int .i64 0), .lit (.int .i64 0)], [], []) := by rw [hlw]; kernel_rfl
  have hlm : laidMet Tryz.prog Rows.circuitCirclesRow.laid (lw.forCall (fun _ _ => 0) ⟨#[], #[.slice none 0 0, .int .i64 0, .int .i64 0], []⟩).memory := by rw [hlw]; exact laidMet_of_run' 8 (by kernel_rfl) (by kernel_rfl)
  clear hlw
  refine returnsInHanded_of_row (C := Tryz.checked) (s := OpenSpec.ofChange Rows.circuitCirclesSpec) own started (by kernel_rfl) Tryz.func4
    (witness_row_atRef (enc := enc) (C := Tryz.checked) false lw #[.slice none 0 0, .int .i64 0, .int .i64 0] hos hv hr hok
      (OpenSpec.preRow_of_cond 8 hx (by kernel_rfl) (fun k hk => by cases hk) (by kernel_rfl) hlm)) ?_
  intro W base args ds gs before hval hW _ _ hsz hL _ _
  exact circles_contract H enc W base args ds gs before hval hW hsz hL

theorem circuitCircles_said : Rows.CircuitCirclesSaid :=
  OpenClaim.holds_of_cond 4 Tryz.f4 rfl rfl rfl rfl rfl rfl rfl ⟨rfl, rfl, rfl, rfl, rfl⟩ rfl rfl rfl rfl rfl (by kernel_rfl) Tryz.func4 (by kernel_rfl)
    (of_decide_eq_true (by kernel_rfl)) (by unfold Func.isWrapper; first | (rw [if_pos (by decide +kernel)]; kernel_rfl) | (rw [if_neg (by decide +kernel)]; exact ⟨rfl, rfl⟩))
    (fun os started H enc _ F => by rw [OpenClaim.pre_eq_preRow]; exact circles_lifted os started H enc F)

/-- no parameter wants a stand-in. -/
theorem circuitCircles_plain (f : FuncId) (fn : Func) (hf : Tryz.pinned.checked.prog.funcNamed "strata/stratalaw14.CircuitCircles" = some f) (hfn : Tryz.pinned.checked.prog.funcs[f]? = some fn) :
    false = Tryz.pinned.checked.prog.looks [] ∧ ∀ (j : Nat) t, fn.params[j]? = some t → Tryz.pinned.checked.prog.wantsStandIn t = false := by
  obtain rfl : f = 4 := Option.some.inj ((show Tryz.prog.funcNamed "strata/stratalaw14.CircuitCircles" = some 4 by kernel_rfl).symm.trans hf) |>.symm
  obtain rfl : fn = Tryz.f4 := (Option.some.inj (Tryz.func4.symm.trans hfn)).symm
  refine ⟨by kernel_rfl, fun j t ht => ?_⟩
  rw [Tryz.params4] at ht
  have hm : t = 22 ∨ t = 3 := by
    have := Array.mem_of_getElem? ht
    simpa using this
  rcases hm with rfl | rfl
  · exact (show Tryz.prog.wantsStandIn 22 = false by kernel_rfl)
  · exact (show Tryz.prog.wantsStandIn 3 = false by kernel_rfl)

theorem circuitCircles_holds : Rows.CircuitCirclesCardSaid :=
  Claim7.holds_tied_plain_at .later [] _ _ _ _ circuitCircles_said (fun _ h => by cases h) (by kernel_rfl) (fun _ h => by cases h) circuitCircles_row_tie rfl ⟨rfl, rfl⟩ (by kernel_rfl) rfl circuitCircles_plain (by kernel_rfl)
#print axioms circuitCircles_holds
end Go.Proofs.YtfmmmhcpdinhgabGreatDoor
