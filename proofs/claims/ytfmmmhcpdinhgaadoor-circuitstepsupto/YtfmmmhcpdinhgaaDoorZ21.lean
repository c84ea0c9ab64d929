import Derived.Test.YtfmmmhcpdinhgaaDoorZ20
/-
  The document's own Formed.
-/
namespace Go.Proofs.YtfmmmhcpdinhgaaDoor
open Go.RowKit Go.Deep PureNet
set_option maxRecDepth 100000

/-- what Formed says. -/
def FormedSays (c : Net) (e : Ending) : Prop := ∃ b : Bool, e = .returned (.bool b) ∧ (b = true ↔ PureNet.Formed c)
theorem FormedSays.no {c : Net} (h : ¬ PureNet.Formed c) : FormedSays c (.returned (.bool false)) := ⟨false, rfl, ⟨fun e => (by cases e), fun e => absurd e h⟩⟩

set_option maxHeartbeats 2000000 in
set_option maxRecDepth 100000 in
theorem formed_any (c : Net) (sg so : Option Addr) (cg co : Nat) (w : World) (hc : CirAt w c sg so) (hn : c.name.size ≤ 140737488351232) (hns : ∀ g ∈ c.gates, g.name.size ≤ 140737488351232) (hl : c.gates.length ≤ 1099511627776) (hlo : c.outs.length ≤ 1099511627776) :
    Calls Tryd.prog 28 #[cirV c sg cg so co] w fun e w' => FormedSays c e ∧ Below w.heap.size w w' := by
  have HC := hid hc
  have HNS := hid hns
  clear hc hns
  obtain ⟨n, hnn⟩ : ∃ n, n = c.gates.length := ⟨_, rfl⟩
  obtain ⟨no, hno⟩ : ∃ no, no = c.outs.length := ⟨_, rfl⟩
  obtain ⟨nb, hnb⟩ : ∃ nb, nb = nameB c.name := ⟨_, rfl⟩
  obtain ⟨x, hx⟩ : ∃ x, x = w.alloc (Obj.cells #[Value.string c.name, Value.slice sg c.gates.length cg, Value.slice so c.outs.length co] 26) := ⟨_, rfl⟩
  have c0 : x.heap[w.heap.size]? = some (.cells #[Value.string c.name, Value.slice sg n cg, Value.slice so no co] 26 (0, 0)) := by rw [hx, hnn, hno]; exact heap_alloc_new w _
  have C0 := hid c0
  have BX : Hid (Below w.heap.size w x) := by rw [hx]; exact (Below.refl _ _).alloc (Nat.le_refl _) _
  have NM := hid (name_any c.name x hn)
  have HN := hid hnn
  have HNO := hid hno
  have HNB := hid hnb
  rw [← hnb] at NM
  have hbx := (Array.getElem?_eq_some_iff.1 c0).1
  have d0 := fun j => cell_row c0 j
  rw [← hnn] at hx hl
  rw [← hno] at hx hlo
  have HX := hid hx
  have RD : Hid (∀ W, Below x.heap.size x W → (∀ j, W.cell? ⟨w.heap.size, j, none⟩ = (#[Value.string c.name, Value.slice sg n cg, Value.slice so no co] : Array Value)[j]?) ∧ w.heap.size < W.heap.size) := fun W hW => by
    have h2 := (hW.block _ (Array.getElem?_eq_some_iff.1 C0.out).1).trans C0.out
    exact ⟨fun j => cell_row h2 j, (Array.getElem?_eq_some_iff.1 h2).1⟩
  show Calls Tryd.prog 28 #[.agg #[Value.string c.name, Value.slice sg c.gates.length cg, Value.slice so c.outs.length co]] w _
  rw [← hnn, ← hno]
  clear c0 hnn hno hnb hx
  go_enter Tryd.func28, Tryd.ntmps28
  cases nb with
  | false =>
    have NF : Hid (¬ PureNet.Formed c) := fun h => by have h2 := HNB.out; rw [h.name] at h2; cases h2
    go_wp2_with (first | (rw [← HX.out]) | (go_at_call 55; refine Calls.mono NM.out ?_; rintro e w1 ⟨rfl, b1⟩; obtain ⟨d1, hb1⟩ := RD.out w1 b1; have B1 := hid b1; clear b1))
    go_ret
    exact ⟨FormedSays.no NF.out, BX.out.trans (B1.out.mono BX.out.size)⟩
  | true =>
  by_cases h1 : 65536 < n
  · have NF : Hid (¬ PureNet.Formed c) := fun h => by have h2 := h.few; rw [← HN.out] at h2; omega
    go_wp2_with (first | (rw [← HX.out]) | (go_at_call 55; refine Calls.mono NM.out ?_; rintro e w1 ⟨rfl, b1⟩; obtain ⟨d1, hb1⟩ := RD.out w1 b1; have B1 := hid b1; clear b1))
    go_ret
    exact ⟨FormedSays.no NF.out, BX.out.trans (B1.out.mono BX.out.size)⟩
  by_cases h2 : 65536 < no
  · have NF : Hid (¬ PureNet.Formed c) := fun h => by have h3 := h.fewOuts; rw [← HNO.out] at h3; omega
    go_wp2_with (first | (rw [← HX.out]) | (go_at_call 55; refine Calls.mono NM.out ?_; rintro e w1 ⟨rfl, b1⟩; obtain ⟨d1, hb1⟩ := RD.out w1 b1; have B1 := hid b1; clear b1))
    go_ret
    exact ⟨FormedSays.no NF.out, BX.out.trans (B1.out.mono BX.out.size)⟩
  go_wp2_with (first | (rw [← HX.out]) | (go_at_call 55; refine Calls.mono NM.out ?_; rintro e w1 ⟨rfl, b1⟩; obtain ⟨d1, hb1⟩ := RD.out w1 b1; have B1 := hid b1; clear b1))
  have K0 : Hid (Kn x (w1.alloc (.cells #[.slice none 0 0, .slice none 0 0] 88)) w1.heap.size (.slice none 0 0) (.slice none 0 0) [] []) := ⟨heap_alloc_new w1 _, B1.out.size, World.ownsRow_nil _ _ _ _, World.ownsRow_nil _ _ _ _, B1.out.alloc B1.out.size _⟩
  go_loopw [6] (fun iv W => ∃ (i : Nat) (N : List ByteArray) (P : List Int) (nv pv : Value), i ≤ n ∧ iv = .int .i64 (i : Int) ∧ Hid (Kn x W w1.heap.size nv pv N P ∧ FT c.gates i N P)) (fun iv _ => n - (intOf iv).toNat)
  case atStart => exact ⟨0, [], [], _, _, Nat.zero_le _, rfl, K0.out, FT.start _⟩
  case round =>
    obtain ⟨i, N, P, nv, pv, hi, rfl, HK⟩ := hrel
    clear K0 NM
    obtain ⟨e0, he0⟩ := RD.out wr HK.out.1.below
    have BW : Hid (Below w.heap.size w wr) := BX.out.trans (HK.out.1.below.mono BX.out.size)
    by_cases hlt : i < n
    · obtain ⟨g, hg⟩ : ∃ g, c.gates[i]? = some g := ⟨_, List.getElem?_eq_getElem (by rw [← HN.out]; exact hlt)⟩
      obtain ⟨b, o, rfl, hb, a0, a1, a2, a3, a4, a5⟩ := gate_at (HC.out.gates.below BW.out) i g hg
      have hgn := HNS.out g (List.mem_of_getElem? hg)
      obtain ⟨X2, hX2⟩ : ∃ X2, X2 = wr.alloc (.cells #[Value.int .i64 g.kind, Value.string g.name, Value.int .i64 g.op, Value.int .i64 g.a, Value.int .i64 g.b, Value.int .i64 g.c] 38) := ⟨_, rfl⟩
      have BX2 : Hid (wr.heap.size ≤ X2.heap.size ∧ Below wr.heap.size wr X2) := by rw [hX2]; exact ⟨by simp, (Below.refl _ _).alloc (Nat.le_refl _) _⟩
      have K2 := hid (HK.out.1.on BX2.out.2)
      have RG : Hid (∀ W, Below X2.heap.size X2 W → (∀ j, W.cell? ⟨wr.heap.size, j, none⟩ = (#[Value.int .i64 g.kind, Value.string g.name, Value.int .i64 g.op, Value.int .i64 g.a, Value.int .i64 g.b, Value.int .i64 g.c] : Array Value)[j]?) ∧ wr.heap.size < W.heap.size) := fun W hW => by
        have h3 : X2.heap[wr.heap.size]? = some (.cells #[Value.int .i64 g.kind, Value.string g.name, Value.int .i64 g.op, Value.int .i64 g.a, Value.int .i64 g.b, Value.int .i64 g.c] 38 (0, 0)) := by rw [hX2]; exact heap_alloc_new wr _
        have h4 := (hW.block _ (Array.getElem?_eq_some_iff.1 h3).1).trans h3
        exact ⟨fun j => cell_row h4 j, (Array.getElem?_eq_some_iff.1 h4).1⟩
      obtain ⟨f2, hf2⟩ := RG.out X2 (Below.refl _ _)
      obtain ⟨sn, cn, rfl⟩ := own_shape K2.out.on_
      obtain ⟨sp, cp, rfl⟩ := own_shape K2.out.op
      have FTI := hid HK.out.2
      have hNl : N.length = i := FTI.out.len
      have PL : Hid (∀ W, Below X2.heap.size X2 W → Calls Tryd.prog 57 #[.pointer (some ⟨w1.heap.size, 0, none⟩), .string g.name] W fun e w' => e = .returned (.int .i64 (placeN N P g.name)) ∧ Below W.heap.size W w') := fun W hW => by
        have k := K2.out.on hW
        obtain ⟨sn2, cn2, en, kn, _⟩ := own_cells k.on_
        obtain ⟨sp2, cp2, ep, kp, _⟩ := own_cells k.op
        cases en
        cases ep
        have hr := k.row
        rw [FTI.out.lenP] at hr
        exact place_any w1.heap.size sn sp cn cp N P g.name W hr kn kp FTI.out.lenP FTI.out.rise (by omega)
      have AD : Hid (∀ W, Below X2.heap.size X2 W → Calls Tryd.prog 58 #[.pointer (some ⟨w1.heap.size, 0, none⟩), .string g.name, .int .i64 (i : Int)] W fun e w' => (∃ v, e = .returned v) ∧ ∃ nv' pv' q, Spot N g.name q ∧ Kn x w' w1.heap.size nv' pv' (N.take q ++ g.name :: N.drop q) (P.take q ++ (i : Int) :: P.drop q)) := fun W hW =>
        add_any w1.heap.size _ _ N P g.name i x W (K2.out.on hW) FTI.out.lenP FTI.out.rise (by omega)
      have NG := hid (name_any g.name X2 hgn)
      have FL := hid (fun W => formedLine_any g n W)
      have HX2 := hid hX2
      have HG := hid hg
      have HNM := hid (rfl : nameB g.name = nameB g.name)
      clear hX2 hg hgn HK
      cases hnm : nameB g.name with
      | false =>
        have NF := hid (not_formed_line FTI.out HG.out (.inl hnm))
        rw [hnm] at NG
        clear hnm
        cases hln : lineB g n with
        | false =>
          simp only [hln] at FL
          clear hln
          go_wp2_with (first | (rw [← HX2.out]) | (go_at_call 55; refine Calls.mono NG.out ?_; rintro e w2 ⟨rfl, b2⟩; obtain ⟨g2, hg2⟩ := RG.out w2 b2; have B2 := hid b2; clear b2) | (go_at_call 56; refine Calls.mono (FL.out w2) ?_; rintro e w3 ⟨rfl, b3⟩; have B3 : Hid (Below X2.heap.size X2 w3) := B2.out.trans (b3.mono B2.out.size); obtain ⟨g3, hg3⟩ := RG.out w3 B3.out; clear b3))
          go_ret
          exact ⟨FormedSays.no NF.out, BW.out.trans ((BX2.out.2.trans (B3.out.mono BX2.out.1)).mono BW.out.size)⟩
        | true =>
          simp only [hln] at FL
          clear hln
          go_wp2_with (first | (rw [← HX2.out]) | (go_at_call 55; refine Calls.mono NG.out ?_; rintro e w2 ⟨rfl, b2⟩; obtain ⟨g2, hg2⟩ := RG.out w2 b2; have B2 := hid b2; clear b2) | (go_at_call 56; refine Calls.mono (FL.out w2) ?_; rintro e w3 ⟨rfl, b3⟩; have B3 : Hid (Below X2.heap.size X2 w3) := B2.out.trans (b3.mono B2.out.size); obtain ⟨g3, hg3⟩ := RG.out w3 B3.out; clear b3))
          go_ret
          exact ⟨FormedSays.no NF.out, BW.out.trans ((BX2.out.2.trans (B3.out.mono BX2.out.1)).mono BW.out.size)⟩
      | true =>
        have HN1 := hid hnm
        rw [hnm] at NG
        clear hnm HNM
        cases hln : lineB g n with
        | false =>
          have NF := hid (not_formed_line FTI.out HG.out (.inr (.inl (by rw [← HN.out]; exact hln))))
          simp only [hln] at FL
          clear hln
          go_wp2_with (first | (rw [← HX2.out]) | (go_at_call 55; refine Calls.mono NG.out ?_; rintro e w2 ⟨rfl, b2⟩; obtain ⟨g2, hg2⟩ := RG.out w2 b2; have B2 := hid b2; clear b2) | (go_at_call 56; refine Calls.mono (FL.out w2) ?_; rintro e w3 ⟨rfl, b3⟩; have B3 : Hid (Below X2.heap.size X2 w3) := B2.out.trans (b3.mono B2.out.size); obtain ⟨g3, hg3⟩ := RG.out w3 B3.out; clear b3))
          go_ret
          exact ⟨FormedSays.no NF.out, BW.out.trans ((BX2.out.2.trans (B3.out.mono BX2.out.1)).mono BW.out.size)⟩
        | true =>
          have HL1 := hid hln
          simp only [hln] at FL
          clear hln
          by_cases hmem : g.name ∈ N
          · have NF := hid (not_formed_line FTI.out HG.out (.inr (.inr hmem)))
            have hpl : 0 ≤ placeN N P g.name := (FTI.out.place _).2 hmem
            obtain ⟨pl, hpe⟩ : ∃ pl, pl = placeN N P g.name := ⟨_, rfl⟩
            rw [← hpe] at hpl
            simp only [← hpe] at PL
            clear hpe hmem
            go_wp2_with (first | (rw [← HX2.out]) | (go_at_call 55; refine Calls.mono NG.out ?_; rintro e w2 ⟨rfl, b2⟩; obtain ⟨g2, hg2⟩ := RG.out w2 b2; have B2 := hid b2; clear b2) | (go_at_call 56; refine Calls.mono (FL.out w2) ?_; rintro e w3 ⟨rfl, b3⟩; have B3 : Hid (Below X2.heap.size X2 w3) := B2.out.trans (b3.mono B2.out.size); obtain ⟨g3, hg3⟩ := RG.out w3 B3.out; clear b3) | (go_at_call 57; refine Calls.mono (PL.out w3 B3.out) ?_; rintro e w4 ⟨rfl, b4⟩; have B4 : Hid (Below X2.heap.size X2 w4) := B3.out.trans (b4.mono B3.out.size); obtain ⟨g4, hg4⟩ := RG.out w4 B4.out; clear b4))
            go_ret
            exact ⟨FormedSays.no NF.out, BW.out.trans ((BX2.out.2.trans (B4.out.mono BX2.out.1)).mono BW.out.size)⟩
          · have HNW := hid hmem
            simp only [placeN_none hmem] at PL
            clear hmem
            go_wp2_with (first | (rw [← HX2.out]) | (go_at_call 55; refine Calls.mono NG.out ?_; rintro e w2 ⟨rfl, b2⟩; obtain ⟨g2, hg2⟩ := RG.out w2 b2; have B2 := hid b2; clear b2) | (go_at_call 56; refine Calls.mono (FL.out w2) ?_; rintro e w3 ⟨rfl, b3⟩; have B3 : Hid (Below X2.heap.size X2 w3) := B2.out.trans (b3.mono B2.out.size); obtain ⟨g3, hg3⟩ := RG.out w3 B3.out; clear b3) | (go_at_call 57; refine Calls.mono (PL.out w3 B3.out) ?_; rintro e w4 ⟨rfl, b4⟩; have B4 : Hid (Below X2.heap.size X2 w4) := B3.out.trans (b4.mono B3.out.size); obtain ⟨g4, hg4⟩ := RG.out w4 B4.out; clear b4) | (go_at_call 58; refine Calls.mono (AD.out w4 B4.out) ?_; rintro e w5 ⟨⟨av, rfl⟩, nv', pv', q, hsp, hk5⟩; have SP := hid hsp; have K5 := hid hk5; clear hsp hk5))
            exact ⟨⟨i + 1, _, _, _, _, hlt, by go_num, K5.out, FTI.out.next HG.out HN1.out (by rw [← HN.out]; exact HL1.out) HNW.out SP.out⟩, by simp [intOf]; omega⟩
    · obtain rfl : i = n := by omega
      have FTI := hid HK.out.2
      have HLN : Hid (∀ (k : Nat) (g : Ga), c.gates[k]? = some g → nameB g.name = true ∧ lineB g c.gates.length = true) := fun k g hg => FTI.out.lines k g (by rw [HN.out]; exact (List.getElem?_eq_some_iff.1 hg).1) hg
      have HAP : Hid (∀ (k j : Nat) (g h : Ga), c.gates[k]? = some g → c.gates[j]? = some h → g.name = h.name → k = j) := fun k j g h hg hh => FTI.out.apart k j g h (by rw [HN.out]; exact (List.getElem?_eq_some_iff.1 hg).1) (by rw [HN.out]; exact (List.getElem?_eq_some_iff.1 hh).1) hg hh
      have CR := hid (circles_any c.gates sg cg wr (HC.out.gates.below BW.out) (by rw [← HN.out]; omega) fun k g hg a ha => lineB_leans (HLN.out k g hg).2 ha)
      rw [← HN.out] at CR
      clear HK FTI
      go_wp2
      go_loopw [10] (fun jv W => ∃ j : Nat, j ≤ no ∧ jv = .int .i64 (j : Int) ∧ W = wr ∧ Hid (∀ (k : Nat) (o : Int), k < j → c.outs[k]? = some o → 0 ≤ o ∧ o < (i : Int))) (fun jv _ => no - (intOf jv).toNat)
      case atStart => exact ⟨0, Nat.zero_le _, rfl, rfl, fun k o hk => by omega⟩
      case round =>
        obtain ⟨j, hj, rfl, rfl, HO⟩ := hrel
        by_cases hlt2 : j < no
        · obtain ⟨y, hy⟩ : ∃ y, c.outs[j]? = some y := ⟨_, List.getElem?_eq_getElem (by rw [← HNO.out]; exact hlt2)⟩
          obtain ⟨b, o, rfl, hb, a0⟩ := num_at (HC.out.outs.below BW.out) j y hy
          have HY := hid hy
          clear hy
          by_cases hy0 : y < 0
          · have NF : Hid (¬ PureNet.Formed c) := fun h => by have := h.outs y (List.mem_of_getElem? HY.out); omega
            go_wp2
            go_ret
            exact ⟨FormedSays.no NF.out, BW.out⟩
          · by_cases hyn : (i : Int) ≤ y
            · have NF : Hid (¬ PureNet.Formed c) := fun h => by have := h.outs y (List.mem_of_getElem? HY.out); rw [← HN.out] at this; omega
              go_wp2
              go_ret
              exact ⟨FormedSays.no NF.out, BW.out⟩
            · have HO2 : Hid (∀ (k : Nat) (o : Int), k < j + 1 → c.outs[k]? = some o → 0 ≤ o ∧ o < (i : Int)) := fun k o hk ho => by
                by_cases hkj : k = j
                · rw [hkj, HY.out] at ho
                  cases ho
                  omega
                · exact HO.out k o (by omega) ho
              go_wp2
              exact ⟨⟨j + 1, hlt2, by go_num, trivial, HO2.out⟩, by simp [intOf]; omega⟩
        · obtain rfl : j = no := by omega
          have HOA : Hid (∀ o ∈ c.outs, 0 ≤ o ∧ o < (c.gates.length : Int)) := fun o ho => by
            obtain ⟨k, hk, e⟩ := List.getElem_of_mem ho
            rw [← HN.out]
            exact HO.out k o (by rw [HNO.out]; exact hk) (by rw [List.getElem?_eq_getElem hk, e])
          clear HO
          have hfew : i ≤ 65536 := by omega
          have hfewo : j ≤ 65536 := by omega
          go_wp2_with (go_at_call 59; refine Calls.mono CR.out ?_; rintro e w6 ⟨⟨r, rfl, hr⟩, b6⟩; have HR := hid hr; have B6 := hid b6; clear hr b6)
          go_ret
          refine ⟨⟨decide (r < 0), rfl, ?_⟩, BW.out.trans (B6.out.mono BW.out.size)⟩
          rw [decide_eq_true_iff]
          rcases HR.out with ⟨hr, hf⟩ | ⟨k, hr, _, hw, _⟩
          · exact ⟨fun _ => ⟨HNB.out.symm, by rw [← HN.out]; exact hfew, by rw [← HNO.out]; exact hfewo, HLN.out, HAP.out, HOA.out, hf⟩, fun _ => by omega⟩
          · exact ⟨fun h => by omega, fun h => absurd hw (h.free k)⟩
end Go.Proofs.YtfmmmhcpdinhgaaDoor
/-
  The program's Formed, of any value.
-/
namespace Go.Proofs.YtfmmmhcpdinhgaaDoor
open Go.RowKit Go.Deep PureNet
set_option maxRecDepth 100000

theorem placed_lines {c : Net} (h : placedB c = true) : (∀ (i : Nat) (g : Ga), c.gates[i]? = some g → lineB g c.gates.length = true) ∧ ∀ o ∈ c.outs, 0 ≤ o ∧ o < (c.gates.length : Int) := by
  simp only [placedB, Bool.and_eq_true, List.all_eq_true, belowB, decide_eq_true_eq] at h
  exact ⟨fun i g hg => h.1 g (List.mem_of_getElem? hg), h.2⟩
theorem formed_of {c : Net} (h1 : c.gates.length ≤ 65536 ∧ c.outs.length ≤ 65536) (h2 : NamedIs c) (h3 : placedB c = true) (h4 : ∀ i, ¬ PureNet.Way c.gates i i) : PureNet.Formed c where
  name := h2.name
  few := h1.1
  fewOuts := h1.2
  lines := fun i g hg => ⟨h2.names g (List.mem_of_getElem? hg), (placed_lines h3).1 i g hg⟩
  apart := fun i j g h hi hj e => h2.apart i j g h (List.getElem?_eq_some_iff.1 hi).1 (List.getElem?_eq_some_iff.1 hj).1 hi hj e
  outs := (placed_lines h3).2
  free := h4

set_option maxHeartbeats 2000000 in
theorem formed_gen (c : Net) (sg so : Option Addr) (cg co : Nat) (w : World) (hc : CirAt w c sg so) (hkd : KindsAt w) (hn : c.name.size ≤ 140737488351232) (hns : ∀ g ∈ c.gates, g.name.size ≤ 140737488351232) (hl : c.gates.length ≤ 1099511627776) (hlo : c.outs.length ≤ 1099511627776) :
    Calls Tryd.prog 26 #[cirV c sg cg so co] w fun e w' => FormedSays c e ∧ Below w.heap.size w w' := by
  by_cases hf : PureNet.Formed c
  · refine (formed_ok c sg so cg co w hc hkd hf).mono ?_
    rintro e w' ⟨rfl, hb⟩
    exact ⟨⟨true, rfl, ⟨fun _ => hf, fun _ => rfl⟩⟩, hb⟩
  obtain ⟨x, hx⟩ : ∃ x, x = w.alloc (Obj.cells #[Value.string c.name, Value.slice sg c.gates.length cg, Value.slice so c.outs.length co] 26) := ⟨_, rfl⟩
  have RX : Hid (x.heap[w.heap.size]? = some (.cells #[Value.string c.name, Value.slice sg c.gates.length cg, Value.slice so c.outs.length co] 26 (0, 0))) := by rw [hx]; exact heap_alloc_new w _
  have BX : Hid (Below w.heap.size w x) := by rw [hx]; exact (Below.refl _ _).alloc (Nat.le_refl _) _
  have CE : Hid (∀ W, Below x.heap.size x W → (∀ j, W.cell? ⟨w.heap.size, j, none⟩ = (#[Value.string c.name, Value.slice sg c.gates.length cg, Value.slice so c.outs.length co] : Array Value)[j]?) ∧ w.heap.size < W.heap.size) := fun W hW => by
    have h2 := (hW.block _ (Array.getElem?_eq_some_iff.1 RX.out).1).trans RX.out
    exact ⟨fun j => cell_row h2 j, (Array.getElem?_eq_some_iff.1 h2).1⟩
  have NO := hid (FormedSays.no hf)
  have C1 := hid (pwithin_any c sg so cg co x)
  have C2 : Hid (∀ W, Below x.heap.size x W → _) := fun W hW => named_any c sg so cg co W ((hc.below BX.out).below hW).gates hn hns hl
  have C3 : Hid (∀ W, Below x.heap.size x W → _) := fun W hW => placed_any c sg so cg co W ((hc.below BX.out).below hW) ((hkd.on BX.out).on hW) hl hlo
  have C4 : Hid (c.gates.length ≤ 65536 → placedB c = true → ∀ W, Below x.heap.size x W → _) := fun h1 h3 W hW => firstInCircle_gen c.gates sg cg c.gates.length W ((hc.below BX.out).below hW).gates ((hkd.on BX.out).on hW) rfl h1 (fun i g hg => ⟨lineB_kind ((placed_lines h3).1 i g hg), fun _ ha => lineB_leans ((placed_lines h3).1 i g hg) ha⟩)
  obtain ⟨d0, hb0⟩ := CE.out x (Below.refl _ _)
  have HX := hid hx
  have HNF := hid hf
  clear hx hc hkd hf hn hns hl hlo
  by_cases h1 : c.gates.length ≤ 65536 ∧ c.outs.length ≤ 65536
  rotate_left 1
  · have HB1 : Hid ((decide (c.gates.length ≤ 65536) && decide (c.outs.length ≤ 65536)) = false) := by
      show _ = _
      rw [Bool.eq_false_iff]
      intro h9
      simp only [Bool.and_eq_true, decide_eq_true_eq] at h9
      exact h1 h9
    clear h1 C2 C3 C4
    go_enter Tryd.func26, Tryd.ntmps26
    go_wp2_with (first
      | (rw [← HX.out])
      | (go_at_call 50; refine Calls.mono C1.out ?_; rintro e w1 ⟨rfl, b1⟩; rw [HB1.out]; have B1 : Hid (Below x.heap.size x w1) := b1; obtain ⟨d1, hb1⟩ := CE.out w1 B1.out; clear b1))
    go_ret
    exact ⟨NO.out, BX.out.trans (B1.out.mono BX.out.size)⟩
  have HB1 : Hid ((decide (c.gates.length ≤ 65536) && decide (c.outs.length ≤ 65536)) = true) := by
    show _ = _
    simp only [Bool.and_eq_true, decide_eq_true_eq]
    exact h1
  have H1 := hid h1
  clear h1
  by_cases h2 : NamedIs c
  rotate_left 1
  · have HB2 := hid h2
    clear h2 C3 C4
    go_enter Tryd.func26, Tryd.ntmps26
    go_wp2_with (first
      | (rw [← HX.out])
      | (go_at_call 51; refine Calls.mono (C2.out w1 B1.out) ?_; rintro e w2 ⟨⟨bb, rfl, hbb⟩, b2⟩; obtain rfl : bb = false := (Bool.eq_false_iff.2 fun h9 => HB2.out (hbb.1 h9)); have B2 : Hid (Below x.heap.size x w2) := B1.out.trans (b2.mono B1.out.size); obtain ⟨d2, hb2⟩ := CE.out w2 B2.out; clear b2 hbb)
      | (go_at_call 50; refine Calls.mono C1.out ?_; rintro e w1 ⟨rfl, b1⟩; rw [HB1.out]; have B1 : Hid (Below x.heap.size x w1) := b1; obtain ⟨d1, hb1⟩ := CE.out w1 B1.out; clear b1))
    go_ret
    exact ⟨NO.out, BX.out.trans (B2.out.mono BX.out.size)⟩
  have HB2 := hid h2
  clear h2
  by_cases h3 : placedB c = true
  rotate_left 1
  · have HB3 : Hid (placedB c = false) := Bool.eq_false_iff.2 h3
    clear h3 C4
    go_enter Tryd.func26, Tryd.ntmps26
    go_wp2_with (first
      | (rw [← HX.out])
      | (go_at_call 52; refine Calls.mono (C3.out w2 B2.out) ?_; rintro e w3 ⟨rfl, b3⟩; rw [HB3.out]; have B3 : Hid (Below x.heap.size x w3) := B2.out.trans (b3.mono B2.out.size); obtain ⟨d3, hb3⟩ := CE.out w3 B3.out; clear b3)
      | (go_at_call 51; refine Calls.mono (C2.out w1 B1.out) ?_; rintro e w2 ⟨⟨bb, rfl, hbb⟩, b2⟩; obtain rfl : bb = true := (hbb.2 HB2.out); have B2 : Hid (Below x.heap.size x w2) := B1.out.trans (b2.mono B1.out.size); obtain ⟨d2, hb2⟩ := CE.out w2 B2.out; clear b2 hbb)
      | (go_at_call 50; refine Calls.mono C1.out ?_; rintro e w1 ⟨rfl, b1⟩; rw [HB1.out]; have B1 : Hid (Below x.heap.size x w1) := b1; obtain ⟨d1, hb1⟩ := CE.out w1 B1.out; clear b1))
    go_ret
    exact ⟨NO.out, BX.out.trans (B3.out.mono BX.out.size)⟩
  have HB3 : Hid (placedB c = true) := h3
  have CR : Hid (∀ r, CircleIs c.gates r → (r == -1) = false) := fun r hr => by
    rcases hr with ⟨_, hr⟩ | ⟨i, rfl, _⟩
    · exact absurd (formed_of H1.out HB2.out h3 hr) HNF.out
    · exact beq_eq_false_iff_ne.2 (by omega)
  have C5 := hid (C4.out H1.out.1 h3)
  clear h3 C4
  have hgo : Calls Tryd.prog 26 #[cirV c sg cg so co] w fun e w' => FormedSays c e ∧ Below w.heap.size w w' := by
    go_enter Tryd.func26, Tryd.ntmps26
    go_wp2_with (first
      | (rw [← HX.out])
      | (go_at_call 53; refine Calls.mono (C5.out w3 B3.out) ?_; rintro e w4 ⟨⟨r, rfl, hr⟩, b4⟩; have hr2 : (r == -1) = false := (CR.out r hr); have B4 : Hid (Below x.heap.size x w4) := B3.out.trans (b4.mono B3.out.size); clear b4 hr)
      | (go_at_call 52; refine Calls.mono (C3.out w2 B2.out) ?_; rintro e w3 ⟨rfl, b3⟩; rw [HB3.out]; have B3 : Hid (Below x.heap.size x w3) := B2.out.trans (b3.mono B2.out.size); obtain ⟨d3, hb3⟩ := CE.out w3 B3.out; clear b3)
      | (go_at_call 51; refine Calls.mono (C2.out w1 B1.out) ?_; rintro e w2 ⟨⟨bb, rfl, hbb⟩, b2⟩; obtain rfl : bb = true := (hbb.2 HB2.out); have B2 : Hid (Below x.heap.size x w2) := B1.out.trans (b2.mono B1.out.size); obtain ⟨d2, hb2⟩ := CE.out w2 B2.out; clear b2 hbb)
      | (go_at_call 50; refine Calls.mono C1.out ?_; rintro e w1 ⟨rfl, b1⟩; rw [HB1.out]; have B1 : Hid (Below x.heap.size x w1) := b1; obtain ⟨d1, hb1⟩ := CE.out w1 B1.out; clear b1))
    go_ret
    exact ⟨NO.out, BX.out.trans (B4.out.mono BX.out.size)⟩
  exact hgo
end Go.Proofs.YtfmmmhcpdinhgaaDoor
/-
  The document's own First.
-/
namespace Go.Proofs.YtfmmmhcpdinhgaaDoor
open Go.RowKit Go.Deep PureNet
set_option maxRecDepth 100000

/-- what First answers. -/
def FirstIs (c : Net) (w : World) (e : Ending) (w' : World) : Prop :=
  (¬ PureNet.Formed c ∧ e = .returned (.tuple #[.slice none 0 0, .int .i64 144])) ∨
  (PureNet.Formed c ∧ ∃ v, e = .returned (.tuple #[v, .int .i64 0]) ∧ w'.ownsRow w.heap.size 4 1 v (firstsOf c.gates).length (bo (firstsOf c.gates)))

set_option maxHeartbeats 1000000 in
set_option maxRecDepth 100000 in
theorem rfirst_any (c : Net) (sg so : Option Addr) (cg co : Nat) (w : World) (hc : CirAt w c sg so) (hn : c.name.size ≤ 140737488351232) (hns : ∀ g ∈ c.gates, g.name.size ≤ 140737488351232) (hl : c.gates.length ≤ 1099511627776) (hlo : c.outs.length ≤ 1099511627776) :
    Calls Tryd.prog 32 #[cirV c sg cg so co] w fun e w' => FirstIs c w e w' ∧ Below w.heap.size w w' := by
  have HC := hid hc
  obtain ⟨x, hx⟩ : ∃ x, x = w.alloc (Obj.cells #[Value.string c.name, Value.slice sg c.gates.length cg, Value.slice so c.outs.length co] 26) := ⟨_, rfl⟩
  have C0 : Hid (x.heap[w.heap.size]? = some (.cells #[Value.string c.name, Value.slice sg c.gates.length cg, Value.slice so c.outs.length co] 26 (0, 0))) := by rw [hx]; exact heap_alloc_new w _
  have BX : Hid (Below w.heap.size w x) := by rw [hx]; exact (Below.refl _ _).alloc (Nat.le_refl _) _
  have RD : Hid (∀ W, Below x.heap.size x W → (∀ j, W.cell? ⟨w.heap.size, j, none⟩ = (#[Value.string c.name, Value.slice sg c.gates.length cg, Value.slice so c.outs.length co] : Array Value)[j]?) ∧ w.heap.size < W.heap.size) := fun W hW => by
    have h2 := (hW.block _ (Array.getElem?_eq_some_iff.1 C0.out).1).trans C0.out
    exact ⟨fun j => cell_row h2 j, (Array.getElem?_eq_some_iff.1 h2).1⟩
  have FM := hid (formed_any c sg so cg co x (hc.below BX.out) hn hns hl hlo)
  have FI : Hid (∀ W, Below x.heap.size x W → Calls Tryd.prog 62 #[cirV c sg cg so co] W fun e w' => ∃ v, e = .returned v ∧ Mk W w' 4 1 v (cnt 3 c.gates) (bo (firstsOf c.gates))) := fun W hW => rfirsts_any c sg so cg co W ((HC.out.gates.below BX.out).below hW) hl
  have HFL : Hid ((firstsOf c.gates).length = cnt 3 c.gates) := by show _ = _; simp [firstsOf, cnt]
  obtain ⟨d0, hb0⟩ := RD.out x (Below.refl _ _)
  have HX := hid hx
  clear hc hx hns
  by_cases hf : PureNet.Formed c
  · have HFD := hid hf
    clear hf
    go_enter Tryd.func32, Tryd.ntmps32
    go_wp2_with (first | (rw [← HX.out]) | (go_at_call 62; refine Calls.mono (FI.out w1 B1.out) ?_; rintro e w3 ⟨fv, rfl, hmk⟩; have HMK := hid hmk; clear hmk) | (go_at_call 28; refine Calls.mono FM.out ?_; rintro e w1 ⟨⟨bb, rfl, hbb⟩, b1⟩; obtain rfl : bb = true := hbb.2 HFD.out; have B1 := hid b1; obtain ⟨d1, hb1⟩ := RD.out w1 b1; clear hbb b1))
    have hb : Below w.heap.size w w1 := BX.out.trans (B1.out.mono BX.out.size)
    exact bodyPost_ret (v := .tuple #[fv, .int .i64 0]) (by simp [results, Tryd.results32, go_sem]) rfl ⟨.inr ⟨HFD.out, fv, rfl, by rw [HFL.out]; exact ShfKit.own_base HMK.out.own hb.size⟩, hb.trans (HMK.out.below.mono hb.size)⟩
  · have HNF := hid hf
    clear hf
    go_enter Tryd.func32, Tryd.ntmps32
    go_wp2_with (first | (rw [← HX.out]) | (go_at_call 28; refine Calls.mono FM.out ?_; rintro e w1 ⟨⟨bb, rfl, hbb⟩, b1⟩; obtain rfl : bb = false := (by cases bb with | false => rfl | true => exact absurd (hbb.1 rfl) HNF.out); have B1 := hid b1; clear hbb b1))
    exact bodyPost_ret (v := .tuple #[.slice none 0 0, .int .i64 144]) (by simp [results, Tryd.results32, go_sem]) rfl ⟨.inl ⟨HNF.out, rfl⟩, BX.out.trans (B1.out.mono BX.out.size)⟩
end Go.Proofs.YtfmmmhcpdinhgaaDoor
/-
  The values of a circuit's lines: that there are some, and what is known while they are reckoned.
-/
namespace PureNet
set_option maxRecDepth 100000

/-- so many rounds of reckoning all lines. -/
def roundV (l : List Ga) (ins las : List Bool) : Nat → List Bool
  | 0 => List.replicate l.length false
  | n + 1 => l.zipIdx.map fun p => worth l ins las (roundV l ins las n) p.2 p.1
theorem roundV_len (l : List Ga) (ins las : List Bool) (n : Nat) : (roundV l ins las n).length = l.length := by
  cases n <;> simp [roundV]
theorem roundV_at (l : List Ga) (ins las : List Bool) (n i : Nat) (g : Ga) (h : l[i]? = some g) : (roundV l ins las (n + 1))[i]? = some (worth l ins las (roundV l ins las n) i g) := by
  simp [roundV, h]
theorem valAt_congr {v v' : List Bool} {a : Int} (h : v[a.toNat]? = v'[a.toNat]?) : valAt v a = valAt v' a := by
  unfold valAt
  rw [List.getD_eq_getElem?_getD, List.getD_eq_getElem?_getD, h]
section
variable {l : List Ga} {r : Nat → Nat}
theorem lean_of (hl : ∀ (i : Nat) (g : Ga), l[i]? = some g → lineB g l.length = true) {i : Nat} {g : Ga} (hg : l[i]? = some g) {a : Int} (ha : a ∈ leansOn g) : Leans l i a.toNat ∧ ∃ h, l[a.toNat]? = some h := by
  obtain ⟨h0, h1⟩ := lineB_leans (hl i g hg) ha
  exact ⟨⟨g, hg, by rw [Int.toNat_of_nonneg h0]; exact ha⟩, _, List.getElem?_eq_getElem (by omega)⟩
theorem roundV_same (hr : Ranked l r) (hl : ∀ (i : Nat) (g : Ga), l[i]? = some g → lineB g l.length = true) (ins las : List Bool) : ∀ (n i : Nat) (g : Ga), l[i]? = some g → r i < n → (roundV l ins las (n + 1))[i]? = (roundV l ins las n)[i]? := by
  intro n
  induction n with
  | zero => intro i g _ h; omega
  | succ n ih =>
    intro i g hg h
    rw [roundV_at _ _ _ _ _ _ hg, roundV_at _ _ _ _ _ _ hg]
    refine congrArg some (worth_congr (lineB_kind (hl i g hg)) fun a ha => valAt_congr ?_)
    obtain ⟨h1, g', h2⟩ := lean_of hl hg ha
    have := hr i _ h1
    exact ih _ g' h2 (by omega)
theorem vals_exists (hr : Ranked l r) (hl : ∀ (i : Nat) (g : Ga), l[i]? = some g → lineB g l.length = true) (ins las : List Bool) : ∃ v, Vals l ins las v := by
  have hb : ∀ n, ∃ N, ∀ i, i < n → r i < N := by
    intro n
    induction n with
    | zero => exact ⟨0, fun i h => by omega⟩
    | succ n ih =>
      obtain ⟨N, hN⟩ := ih
      refine ⟨N + r n + 1, fun i h => ?_⟩
      by_cases e : i = n
      · rw [e]; omega
      · have := hN i (by omega); omega
  obtain ⟨N, hN⟩ := hb l.length
  refine ⟨roundV l ins las (N + 1), roundV_len _ _ _ _, fun i g hg => ?_⟩
  rw [roundV_at _ _ _ _ _ _ hg]
  refine congrArg some (worth_congr (lineB_kind (hl i g hg)) fun a ha => valAt_congr ?_)
  obtain ⟨_, g', h2⟩ := lean_of hl hg ha
  exact (roundV_same hr hl ins las N _ g' h2 (hN _ (List.getElem?_eq_some_iff.1 h2).1)).symm
end
theorem Formed.vals {c : Net} (h : Formed c) (ins las : List Bool) : ∃ v, Vals c.gates ins las v := by
  obtain ⟨r, hr⟩ := ranked_of_free (fun i g hg => (h.lines i g hg).2) h.free
  exact vals_exists hr (fun i g hg => (h.lines i g hg).2) ins las
/-- where no line is in a circle, all are laid. -/
theorem LayS.all {l : List Ga} {out : List Nat} (h : LayS l out out.length (fun j => decide (((entsOf l).getD j (0, 0)).1 ∈ out.take out.length))) (hf : ∀ i, ¬ Way l i i) (hl : ∀ (i : Nat) (g : Ga), l[i]? = some g → lineB g l.length = true) : ∀ x, x < l.length → x ∈ out := by
  intro x hx
  apply Classical.byContradiction
  intro hn
  obtain ⟨k, _, hk⟩ := circle_of (l := l) (fun i => i < l.length ∧ i ∉ out) (fun i hi => by
    obtain ⟨y, hy, hyo⟩ := h.fin hi.1 hi.2
    obtain ⟨g, a, hg, ha, e⟩ := (ents_mem l y i).1 hy
    obtain ⟨h1, g', h2⟩ := lean_of hl hg ha
    rw [e] at h1 h2
    exact ⟨hi.1, y, h1, (List.getElem?_eq_some_iff.1 h2).1, hyo⟩) ⟨hx, hn⟩
  exact hf k hk
/-- whether a line is an input or a latch. -/
def srcB (l : List Ga) (x : Nat) : Bool := match l[x]? with
  | some g => decide (g.kind = 1 ∨ g.kind = 3)
  | none => false
theorem srcB_of {l : List Ga} {x : Nat} {g : Ga} (h : l[x]? = some g) : srcB l x = decide (g.kind = 1 ∨ g.kind = 3) := by unfold srcB; rw [h]
/-- a row of truths by what it says. -/
def bitF (n : Nat) (f : Nat → Bool) : List Bool := (List.range n).map f
theorem bitF_len (n : Nat) (f : Nat → Bool) : (bitF n f).length = n := by simp [bitF]
theorem bitF_at (n : Nat) (f : Nat → Bool) (x : Nat) (h : x < n) : (bitF n f)[x]? = some (f x) := by simp [bitF, h]
theorem bitF_congr {n : Nat} {f g : Nat → Bool} (h : ∀ x, x < n → f x = g x) : bitF n f = bitF n g := by
  unfold bitF
  exact List.map_congr_left fun x hx => h x (by simpa using hx)
theorem bitF_set {n : Nat} {f g : Nat → Bool} {y : Nat} {b : Bool} (hy : g y = b) (h : ∀ x, x < n → x ≠ y → f x = g x) : (bitF n f).set y b = bitF n g := by
  apply List.ext_getElem?
  intro k
  rw [List.getElem?_set]
  by_cases hk : k < n
  · rw [bitF_at n g k hk]
    by_cases e : y = k
    · rw [if_pos e, if_pos (by rw [bitF_len]; omega), ← hy, e]
    · rw [if_neg e, bitF_at n f k hk, h k hk (fun h => e h.symm)]
  · rw [List.getElem?_eq_none (by rw [bitF_len]; omega : (bitF n g).length ≤ k)]
    split
    · rw [if_neg (by rw [bitF_len]; omega)]
    · exact List.getElem?_eq_none (by rw [bitF_len]; omega)
theorem bitF_no (n : Nat) : bitF n (fun _ => false) = List.replicate n false := by
  apply List.ext_getElem?
  intro k
  by_cases hk : k < n
  · rw [bitF_at n _ k hk]; simp [hk]
  · rw [List.getElem?_eq_none (by rw [bitF_len]; omega), List.getElem?_eq_none (by simp; omega)]
theorem bitF_all {v : List Bool} {n : Nat} (h : v.length = n) (f : Nat → Bool) (hf : ∀ x, x < n → f x = v.getD x false) : bitF n f = v := by
  apply List.ext_getElem?
  intro k
  by_cases hk : k < n
  · rw [bitF_at n _ k hk, hf k hk, List.getD_eq_getElem?_getD, List.getElem?_eq_getElem (by omega)]; rfl
  · rw [List.getElem?_eq_none (by rw [bitF_len]; omega), List.getElem?_eq_none (by omega)]
/-- the row behind i lines: inputs and latches. -/
def up1 (l : List Ga) (v : List Bool) (i x : Nat) : Bool := decide (x < i) && (srcB l x && v.getD x false)
/-- the row behind the first k of the order. -/
def up2 (l : List Ga) (v : List Bool) (out : List Nat) (k x : Nat) : Bool := (srcB l x || decide (x ∈ out.take k)) && v.getD x false
theorem up1_zero (l : List Ga) (v : List Bool) (x : Nat) : up1 l v 0 x = false := by simp [up1]
theorem up1_next_src (l : List Ga) (v : List Bool) (i : Nat) (h : srcB l i = true) : up1 l v (i + 1) i = v.getD i false := by simp [up1, h]
theorem up1_next (l : List Ga) (v : List Bool) (i x : Nat) (h : x ≠ i ∨ srcB l i = false) : up1 l v i x = up1 l v (i + 1) x := by
  unfold up1
  by_cases e : x = i
  · rcases h with h | h
    · exact absurd e h
    · subst e; simp [h]
  · have : (x < i) ↔ (x < i + 1) := by omega
    rw [decide_eq_decide.2 this]
theorem up12 (l : List Ga) (v : List Bool) (out : List Nat) (x n : Nat) (h : x < n) : up1 l v n x = up2 l v out 0 x := by simp [up1, up2, h]
theorem up2_at {l : List Ga} {v : List Bool} {out : List Nat} {k y : Nat} (hy : out[k]? = some y) : up2 l v out (k + 1) y = v.getD y false := by
  have : y ∈ out.take (k + 1) := by rw [List.take_add_one, hy]; simp
  simp [up2, this]
theorem up2_next {l : List Ga} {v : List Bool} {out : List Nat} {k y : Nat} (hy : out[k]? = some y) (x : Nat) (h : x ≠ y ∨ srcB l y = true) : up2 l v out k x = up2 l v out (k + 1) x := by
  unfold up2
  by_cases e : x = y
  · rcases h with h | h
    · exact absurd e h
    · subst e; simp [h]
  · have : (x ∈ out.take (k + 1)) ↔ (x ∈ out.take k) := by
      rw [List.take_add_one, hy]
      simp [e]
    rw [decide_eq_decide.2 this]
theorem up2_lean {l : List Ga} {v : List Bool} {out : List Nat} {D : Nat → Bool} {q k y : Nat} (h : LayS l out q D) (hy : out[k]? = some y) {g : Ga} (hg : l[y]? = some g) {a : Int} (ha : a ∈ leansOn g) : up2 l v out k a.toNat = valAt v a := by
  obtain ⟨m, hm, e⟩ := h.ord k y hy a.toNat ((ents_mem l a.toNat y).2 ⟨g, a, hg, ha, rfl⟩)
  have hin : a.toNat ∈ out.take k := List.mem_of_getElem? (i := m) (by rw [List.getElem?_take_of_lt hm]; exact e)
  simp [up2, hin, valAt]
end PureNet
