import Derived.Test.YtfmmmhcpdinhgaaDoorZ19
/-
  The document's own Formed.
-/
namespace Go.Proofs.YtfmmmhcpdinhgaaDoor
open Go.RowKit Go.Deep PureNet
set_option maxRecDepth 100000

/-- what Formed says. -/
def FormedSays (c : Net) (e : Ending) : Prop := ∃ b : Bool, e = .returned (.bool b) ∧ (b = true ↔ PureNet.Formed c)
theorem FormedSays.no {c : Net} (h : ¬ PureNet.Formed c) : FormedSays c (.returned (.bool false)) := ⟨false, rfl, ⟨fun e => (by cases e), fun e => absurd e h⟩⟩

set_option maxHeartbeats 2000000 in
set_option maxRecDepth 100000 in
theorem formed_any (c : Net) (sg so : Option Addr) (cg co : Nat) (w : World) (hc : CirAt w c sg so) (hn : c.name.size ≤ 140737488351232) (hns : ∀ g ∈ c.gates, g.name.size ≤ 140737488351232) (hl : c.gates.length ≤ 1099511627776) (hlo : c.outs.length ≤ 1099511627776) :
    Calls Tryd.prog 28 #[cirV c sg cg so co] w fun e w' => FormedSays c e ∧ Below w.heap.size w w' := by
  have HC := hid hc
  have HNS := hid hns
  clear hc hns
  obtain ⟨n, hnn⟩ : ∃ n, n = c.gates.length := ⟨_, rfl⟩
  obtain ⟨no, hno⟩ : ∃ no, no = c.outs.length := ⟨_, rfl⟩
  obtain ⟨nb, hnb⟩ : ∃ nb, nb = nameB c.name := ⟨_, rfl⟩
  obtain ⟨x, hx⟩ : ∃ x, x = w.alloc (Obj.cells #[Value.string c.name, Value.slice sg c.gates.length cg, Value.slice so c.outs.length co] 26) := ⟨_, rfl⟩
  have c0 : x.heap[w.heap.size]? = some (.cells #[Value.string c.name, Value.slice sg n cg, Value.slice so no co] 26 (0, 0)) := by rw [hx, hnn, hno]; exact heap_alloc_new w _
  have C0 := hid c0
  have BX : Hid (Below w.heap.size w x) := by rw [hx]; exact (Below.refl _ _).alloc (Nat.le_refl _) _
  have NM := hid (name_any c.name x hn)
  have HN := hid hnn
  have HNO := hid hno
  have HNB := hid hnb
  rw [← hnb] at NM
  have hbx := (Array.getElem?_eq_some_iff.1 c0).1
  have d0 := fun j => cell_row c0 j
  rw [← hnn] at hx hl
  rw [← hno] at hx hlo
  have HX := hid hx
  have RD : Hid (∀ W, Below x.heap.size x W → (∀ j, W.cell? ⟨w.heap.size, j, none⟩ = (#[Value.string c.name, Value.slice sg n cg, Value.slice so no co] : Array Value)[j]?) ∧ w.heap.size < W.heap.size) := fun W hW => by
    have h2 := (hW.block _ (Array.getElem?_eq_some_iff.1 C0.out).1).trans C0.out
    exact ⟨fun j => cell_row h2 j, (Array.getElem?_eq_some_iff.1 h2).1⟩
  show Calls Tryd.prog 28 #[.agg #[Value.string c.name, Value.slice sg c.gates.length cg, Value.slice so c.outs.length co]] w _
  rw [← hnn, ← hno]
  clear c0 hnn hno hnb hx
  go_enter Tryd.func28, Tryd.ntmps28
  cases nb with
  | false =>
    have NF : Hid (¬ PureNet.Formed c) := fun h => by have h2 := HNB.out; rw [h.name] at h2; cases h2
    go_wp2_with (first | (rw [← HX.out]) | (go_at_call 55; refine Calls.mono NM.out ?_; rintro e w1 ⟨rfl, b1⟩; obtain ⟨d1, hb1⟩ := RD.out w1 b1; have B1 := hid b1; clear b1))
    go_ret
    exact ⟨FormedSays.no NF.out, BX.out.trans (B1.out.mono BX.out.size)⟩
  | true =>
  by_cases h1 : 65536 < n
  · have NF : Hid (¬ PureNet.Formed c) := fun h => by have h2 := h.few; rw [← HN.out] at h2; omega
    go_wp2_with (first | (rw [← HX.out]) | (go_at_call 55; refine Calls.mono NM.out ?_; rintro e w1 ⟨rfl, b1⟩; obtain ⟨d1, hb1⟩ := RD.out w1 b1; have B1 := hid b1; clear b1))
    go_ret
    exact ⟨FormedSays.no NF.out, BX.out.trans (B1.out.mono BX.out.size)⟩
  by_cases h2 : 65536 < no
  · have NF : Hid (¬ PureNet.Formed c) := fun h => by have h3 := h.fewOuts; rw [← HNO.out] at h3; omega
    go_wp2_with (first | (rw [← HX.out]) | (go_at_call 55; refine Calls.mono NM.out ?_; rintro e w1 ⟨rfl, b1⟩; obtain ⟨d1, hb1⟩ := RD.out w1 b1; have B1 := hid b1; clear b1))
    go_ret
    exact ⟨FormedSays.no NF.out, BX.out.trans (B1.out.mono BX.out.size)⟩
  go_wp2_with (first | (rw [← HX.out]) | (go_at_call 55; refine Calls.mono NM.out ?_; rintro e w1 ⟨rfl, b1⟩; obtain ⟨d1, hb1⟩ := RD.out w1 b1; have B1 := hid b1; clear b1))
  have K0 : Hid (Kn x (w1.alloc (.cells #[.slice none 0 0, .slice none 0 0] 88)) w1.heap.size (.slice none 0 0) (.slice none 0 0) [] []) := ⟨heap_alloc_new w1 _, B1.out.size, World.ownsRow_nil _ _ _ _, World.ownsRow_nil _ _ _ _, B1.out.alloc B1.out.size _⟩
  go_loopw [6] (fun iv W => ∃ (i : Nat) (N : List ByteArray) (P : List Int) (nv pv : Value), i ≤ n ∧ iv = .int .i64 (i : Int) ∧ Hid (Kn x W w1.heap.size nv pv N P ∧ FT c.gates i N P)) (fun iv _ => n - (intOf iv).toNat)
  case atStart => exact ⟨0, [], [], _, _, Nat.zero_le _, rfl, K0.out, FT.start _⟩
  case round =>
    obtain ⟨i, N, P, nv, pv, hi, rfl, HK⟩ := hrel
    clear K0 NM
    obtain ⟨e0, he0⟩ := RD.out wr HK.out.1.below
    have BW : Hid (Below w.heap.size w wr) := BX.out.trans (HK.out.1.below.mono BX.out.size)
    by_cases hlt : i < n
    · obtain ⟨g, hg⟩ : ∃ g, c.gates[i]? = some g := ⟨_, List.getElem?_eq_getElem (by rw [← HN.out]; exact hlt)⟩
      obtain ⟨b, o, rfl, hb, a0, a1, a2, a3, a4, a5⟩ := gate_at (HC.out.gates.below BW.out) i g hg
      have hgn := HNS.out g (List.mem_of_getElem? hg)
      obtain ⟨X2, hX2⟩ : ∃ X2, X2 = wr.alloc (.cells #[Value.int .i64 g.kind, Value.string g.name, Value.int .i64 g.op, Value.int .i64 g.a, Value.int .i64 g.b, Value.int .i64 g.c] 38) := ⟨_, rfl⟩
      have BX2 : Hid (wr.heap.size ≤ X2.heap.size ∧ Below wr.heap.size wr X2) := by rw [hX2]; exact ⟨by simp, (Below.refl _ _).alloc (Nat.le_refl _) _⟩
      have K2 := hid (HK.out.1.on BX2.out.2)
      have RG : Hid (∀ W, Below X2.heap.size X2 W → (∀ j, W.cell? ⟨wr.heap.size, j, none⟩ = (#[Value.int .i64 g.kind, Value.string g.name, Value.int .i64 g.op, Value.int .i64 g.a, Value.int .i64 g.b, Value.int .i64 g.c] : Array Value)[j]?) ∧ wr.heap.size < W.heap.size) := fun W hW => by
        have h3 : X2.heap[wr.heap.size]? = some (.cells #[Value.int .i64 g.kind, Value.string g.name, Value.int .i64 g.op, Value.int .i64 g.a, Value.int .i64 g.b, Value.int .i64 g.c] 38 (0, 0)) := by rw [hX2]; exact heap_alloc_new wr _
        have h4 := (hW.block _ (Array.getElem?_eq_some_iff.1 h3).1).trans h3
        exact ⟨fun j => cell_row h4 j, (Array.getElem?_eq_some_iff.1 h4).1⟩
      obtain ⟨f2, hf2⟩ := RG.out X2 (Below.refl _ _)
      obtain ⟨sn, cn, rfl⟩ := own_shape K2.out.on_
      obtain ⟨sp, cp, rfl⟩ := own_shape K2.out.op
      have FTI := hid HK.out.2
      have hNl : N.length = i := FTI.out.len
      have PL : Hid (∀ W, Below X2.heap.size X2 W → Calls Tryd.prog 57 #[.pointer (some ⟨w1.heap.size, 0, none⟩), .string g.name] W fun e w' => e = .returned (.int .i64 (placeN N P g.name)) ∧ Below W.heap.size W w') := fun W hW => by
        have k := K2.out.on hW
        obtain ⟨sn2, cn2, en, kn, _⟩ := own_cells k.on_
        obtain ⟨sp2, cp2, ep, kp, _⟩ := own_cells k.op
        cases en
        cases ep
        have hr := k.row
        rw [FTI.out.lenP] at hr
        exact place_any w1.heap.size sn sp cn cp N P g.name W hr kn kp FTI.out.lenP FTI.out.rise (by omega)
      have AD : Hid (∀ W, Below X2.heap.size X2 W → Calls Tryd.prog 58 #[.pointer (some ⟨w1.heap.size, 0, none⟩), .string g.name, .int .i64 (i : Int)] W fun e w' => (∃ v, e = .returned v) ∧ ∃ nv' pv' q, Spot N g.name q ∧ Kn x w' w1.heap.size nv' pv' (N.take q ++ g.name :: N.drop q) (P.take q ++ (i : Int) :: P.drop q)) := fun W hW =>
        add_any w1.heap.size _ _ N P g.name i x W (K2.out.on hW) FTI.out.lenP FTI.out.rise (by omega)
      have NG := hid (name_any g.name X2 hgn)
      have FL := hid (fun W => formedLine_any g n W)
      have HX2 := hid hX2
      have HG := hid hg
      have HNM := hid (rfl : nameB g.name = nameB g.name)
      clear hX2 hg hgn HK
      cases hnm : nameB g.name with
      | false =>
        have NF := hid (not_formed_line FTI.out HG.out (.inl hnm))
        rw [hnm] at NG
        clear hnm
        cases hln : lineB g n with
        | false =>
          simp only [hln] at FL
          clear hln
          go_wp2_with (first | (rw [← HX2.out]) | (go_at_call 55; refine Calls.mono NG.out ?_; rintro e w2 ⟨rfl, b2⟩; obtain ⟨g2, hg2⟩ := RG.out w2 b2; have B2 := hid b2; clear b2) | (go_at_call 56; refine Calls.mono (FL.out w2) ?_; rintro e w3 ⟨rfl, b3⟩; have B3 : Hid (Below X2.heap.size X2 w3) := B2.out.trans (b3.mono B2.out.size); obtain ⟨g3, hg3⟩ := RG.out w3 B3.out; clear b3))
          go_ret
          exact ⟨FormedSays.no NF.out, BW.out.trans ((BX2.out.2.trans (B3.out.mono BX2.out.1)).mono BW.out.size)⟩
        | true =>
          simp only [hln] at FL
          clear hln
          go_wp2_with (first | (rw [← HX2.out]) | (go_at_call 55; refine Calls.mono NG.out ?_; rintro e w2 ⟨rfl, b2⟩; obtain ⟨g2, hg2⟩ := RG.out w2 b2; have B2 := hid b2; clear b2) | (go_at_call 56; refine Calls.mono (FL.out w2) ?_; rintro e w3 ⟨rfl, b3⟩; have B3 : Hid (Below X2.heap.size X2 w3) := B2.out.trans (b3.mono B2.out.size); obtain ⟨g3, hg3⟩ := RG.out w3 B3.out; clear b3))
          go_ret
          exact ⟨FormedSays.no NF.out, BW.out.trans ((BX2.out.2.trans (B3.out.mono BX2.out.1)).mono BW.out.size)⟩
      | true =>
        have HN1 := hid hnm
        rw [hnm] at NG
        clear hnm HNM
        cases hln : lineB g n with
        | false =>
          have NF := hid (not_formed_line FTI.out HG.out (.inr (.inl (by rw [← HN.out]; exact hln))))
          simp only [hln] at FL
          clear hln
          go_wp2_with (first | (rw [← HX2.out]) | (go_at_call 55; refine Calls.mono NG.out ?_; rintro e w2 ⟨rfl, b2⟩; obtain ⟨g2, hg2⟩ := RG.out w2 b2; have B2 := hid b2; clear b2) | (go_at_call 56; refine Calls.mono (FL.out w2) ?_; rintro e w3 ⟨rfl, b3⟩; have B3 : Hid (Below X2.heap.size X2 w3) := B2.out.trans (b3.mono B2.out.size); obtain ⟨g3, hg3⟩ := RG.out w3 B3.out; clear b3))
          go_ret
          exact ⟨FormedSays.no NF.out, BW.out.trans ((BX2.out.2.trans (B3.out.mono BX2.out.1)).mono BW.out.size)⟩
        | true =>
          have HL1 := hid hln
          simp only [hln] at FL
          clear hln
          by_cases hmem : g.name ∈ N
          · have NF := hid (not_formed_line FTI.out HG.out (.inr (.inr hmem)))
            have hpl : 0 ≤ placeN N P g.name := (FTI.out.place _).2 hmem
            obtain ⟨pl, hpe⟩ : ∃ pl, pl = placeN N P g.name := ⟨_, rfl⟩
            rw [← hpe] at hpl
            simp only [← hpe] at PL
            clear hpe hmem
            go_wp2_with (first | (rw [← HX2.out]) | (go_at_call 55; refine Calls.mono NG.out ?_; rintro e w2 ⟨rfl, b2⟩; obtain ⟨g2, hg2⟩ := RG.out w2 b2; have B2 := hid b2; clear b2) | (go_at_call 56; refine Calls.mono (FL.out w2) ?_; rintro e w3 ⟨rfl, b3⟩; have B3 : Hid (Below X2.heap.size X2 w3) := B2.out.trans (b3.mono B2.out.size); obtain ⟨g3, hg3⟩ := RG.out w3 B3.out; clear b3) | (go_at_call 57; refine Calls.mono (PL.out w3 B3.out) ?_; rintro e w4 ⟨rfl, b4⟩; have B4 : Hid (Below X2.heap.size X2 w4) := B3.out.trans (b4.mono B3.out.size); obtain ⟨g4, hg4⟩ := RG.out w4 B4.out; clear b4))
            go_ret
            exact ⟨FormedSays.no NF.out, BW.out.trans ((BX2.out.2.trans (B4.out.mono BX2.out.1)).mono BW.out.size)⟩
          · have HNW := hid hmem
            simp only [placeN_none hmem] at PL
            clear hmem
            go_wp2_with (first | (rw [← HX2.out]) | (go_at_call 55; refine Calls.mono NG.out ?_; rintro e w2 ⟨rfl, b2⟩; obtain ⟨g2, hg2⟩ := RG.out w2 b2; have B2 := hid b2; clear b2) | (go_at_call 56; refine Calls.mono (FL.out w2) ?_; rintro e w3 ⟨rfl, b3⟩; have B3 : Hid (Below X2.heap.size X2 w3) := B2.out.trans (b3.mono B2.out.size); obtain ⟨g3, hg3⟩ := RG.out w3 B3.out; clear b3) | (go_at_call 57; refine Calls.mono (PL.out w3 B3.out) ?_; rintro e w4 ⟨rfl, b4⟩; have B4 : Hid (Below X2.heap.size X2 w4) := B3.out.trans (b4.mono B3.out.size); obtain ⟨g4, hg4⟩ := RG.out w4 B4.out; clear b4) | (go_at_call 58; refine Calls.mono (AD.out w4 B4.out) ?_; rintro e w5 ⟨⟨av, rfl⟩, nv', pv', q, hsp, hk5⟩; have SP := hid hsp; have K5 := hid hk5; clear hsp hk5))
            exact ⟨⟨i + 1, _, _, _, _, hlt, by go_num, K5.out, FTI.out.next HG.out HN1.out (by rw [← HN.out]; exact HL1.out) HNW.out SP.out⟩, by simp [intOf]; omega⟩
    · obtain rfl : i = n := by omega
      have FTI := hid HK.out.2
      have HLN : Hid (∀ (k : Nat) (g : Ga), c.gates[k]? = some g → nameB g.name = true ∧ lineB g c.gates.length = true) := fun k g hg => FTI.out.lines k g (by rw [HN.out]; exact (List.getElem?_eq_some_iff.1 hg).1) hg
      have HAP : Hid (∀ (k j : Nat) (g h : Ga), c.gates[k]? = some g → c.gates[j]? = some h → g.name = h.name → k = j) := fun k j g h hg hh => FTI.out.apart k j g h (by rw [HN.out]; exact (List.getElem?_eq_some_iff.1 hg).1) (by rw [HN.out]; exact (List.getElem?_eq_some_iff.1 hh).1) hg hh
      have CR := hid (circles_any c.gates sg cg wr (HC.out.gates.below BW.out) (by rw [← HN.out]; omega) fun k g hg a ha => lineB_leans (HLN.out k g hg).2 ha)
      rw [← HN.out] at CR
      clear HK FTI
      go_wp2
      go_loopw [10] (fun jv W => ∃ j : Nat, j ≤ no ∧ jv = .int .i64 (j : Int) ∧ W = wr ∧ Hid (∀ (k : Nat) (o : Int), k < j → c.outs[k]? = some o → 0 ≤ o ∧ o < (i : Int))) (fun jv _ => no - (intOf jv).toNat)
      case atStart => exact ⟨0, Nat.zero_le _, rfl, rfl, fun k o hk => by omega⟩
      case round =>
        obtain ⟨j, hj, rfl, rfl, HO⟩ := hrel
        by_cases hlt2 : j < no
        · obtain ⟨y, hy⟩ : ∃ y, c.outs[j]? = some y := ⟨_, List.getElem?_eq_getElem (by rw [← HNO.out]; exact hlt2)⟩
          obtain ⟨b, o, rfl, hb, a0⟩ := num_at (HC.out.outs.below BW.out) j y hy
          have HY := hid hy
          clear hy
          by_cases hy0 : y < 0
          · have NF : Hid (¬ PureNet.Formed c) := fun h => by have := h.outs y (List.mem_of_getElem? HY.out); omega
            go_wp2
            go_ret
            exact ⟨FormedSays.no NF.out, BW.out⟩
          · by_cases hyn : (i : Int) ≤ y
            · have NF : Hid (¬ PureNet.Formed c) := fun h => by have := h.outs y (List.mem_of_getElem? HY.out); rw [← HN.out] at this; omega
              go_wp2
              go_ret
              exact ⟨FormedSays.no NF.out, BW.out⟩
            · have HO2 : Hid (∀ (k : Nat) (o : Int), k < j + 1 → c.outs[k]? = some o → 0 ≤ o ∧ o < (i : Int)) := fun k o hk ho => by
                by_cases hkj : k = j
                · rw [hkj, HY.out] at ho
                  cases ho
                  omega
                · exact HO.out k o (by omega) ho
              go_wp2
              exact ⟨⟨j + 1, hlt2, by go_num, trivial, HO2.out⟩, by simp [intOf]; omega⟩
        · obtain rfl : j = no := by omega
          have HOA : Hid (∀ o ∈ c.outs, 0 ≤ o ∧ o < (c.gates.length : Int)) := fun o ho => by
            obtain ⟨k, hk, e⟩ := List.getElem_of_mem ho
            rw [← HN.out]
            exact HO.out k o (by rw [HNO.out]; exact hk) (by rw [List.getElem?_eq_getElem hk, e])
          clear HO
          have hfew : i ≤ 65536 := by omega
          have hfewo : j ≤ 65536 := by omega
          go_wp2_with (go_at_call 59; refine Calls.mono CR.out ?_; rintro e w6 ⟨⟨r, rfl, hr⟩, b6⟩; have HR := hid hr; have B6 := hid b6; clear hr b6)
          go_ret
          refine ⟨⟨decide (r < 0), rfl, ?_⟩, BW.out.trans (B6.out.mono BW.out.size)⟩
          rw [decide_eq_true_iff]
          rcases HR.out with ⟨hr, hf⟩ | ⟨k, hr, _, hw, _⟩
          · exact ⟨fun _ => ⟨HNB.out.symm, by rw [← HN.out]; exact hfew, by rw [← HNO.out]; exact hfewo, HLN.out, HAP.out, HOA.out, hf⟩, fun _ => by omega⟩
          · exact ⟨fun h => by omega, fun h => absurd hw (h.free k)⟩
end Go.Proofs.YtfmmmhcpdinhgaaDoor
/-
  The program's Formed, of any value.
-/
namespace Go.Proofs.YtfmmmhcpdinhgaaDoor
open Go.RowKit Go.Deep PureNet
set_option maxRecDepth 100000

theorem placed_lines {c : Net} (h : placedB c = true) : (∀ (i : Nat) (g : Ga), c.gates[i]? = some g → lineB g c.gates.length = true) ∧ ∀ o ∈ c.outs, 0 ≤ o ∧ o < (c.gates.length : Int) := by
  simp only [placedB, Bool.and_eq_true, List.all_eq_true, belowB, decide_eq_true_eq] at h
  exact ⟨fun i g hg => h.1 g (List.mem_of_getElem? hg), h.2⟩
theorem formed_of {c : Net} (h1 : c.gates.length ≤ 65536 ∧ c.outs.length ≤ 65536) (h2 : NamedIs c) (h3 : placedB c = true) (h4 : ∀ i, ¬ PureNet.Way c.gates i i) : PureNet.Formed c where
  name := h2.name
  few := h1.1
  fewOuts := h1.2
  lines := fun i g hg => ⟨h2.names g (List.mem_of_getElem? hg), (placed_lines h3).1 i g hg⟩
  apart := fun i j g h hi hj e => h2.apart i j g h (List.getElem?_eq_some_iff.1 hi).1 (List.getElem?_eq_some_iff.1 hj).1 hi hj e
  outs := (placed_lines h3).2
  free := h4

set_option maxHeartbeats 2000000 in
theorem formed_gen (c : Net) (sg so : Option Addr) (cg co : Nat) (w : World) (hc : CirAt w c sg so) (hkd : KindsAt w) (hn : c.name.size ≤ 140737488351232) (hns : ∀ g ∈ c.gates, g.name.size ≤ 140737488351232) (hl : c.gates.length ≤ 1099511627776) (hlo : c.outs.length ≤ 1099511627776) :
    Calls Tryd.prog 26 #[cirV c sg cg so co] w fun e w' => FormedSays c e ∧ Below w.heap.size w w' := by
  by_cases hf : PureNet.Formed c
  · refine (formed_ok c sg so cg co w hc hkd hf).mono ?_
    rintro e w' ⟨rfl, hb⟩
    exact ⟨⟨true, rfl, ⟨fun _ => hf, fun _ => rfl⟩⟩, hb⟩
  obtain ⟨x, hx⟩ : ∃ x, x = w.alloc (Obj.cells #[Value.string c.name, Value.slice sg c.gates.length cg, Value.slice so c.outs.length co] 26) := ⟨_, rfl⟩
  have RX : Hid (x.heap[w.heap.size]? = some (.cells #[Value.string c.name, Value.slice sg c.gates.length cg, Value.slice so c.outs.length co] 26 (0, 0))) := by rw [hx]; exact heap_alloc_new w _
  have BX : Hid (Below w.heap.size w x) := by rw [hx]; exact (Below.refl _ _).alloc (Nat.le_refl _) _
  have CE : Hid (∀ W, Below x.heap.size x W → (∀ j, W.cell? ⟨w.heap.size, j, none⟩ = (#[Value.string c.name, Value.slice sg c.gates.length cg, Value.slice so c.outs.length co] : Array Value)[j]?) ∧ w.heap.size < W.heap.size) := fun W hW => by
    have h2 := (hW.block _ (Array.getElem?_eq_some_iff.1 RX.out).1).trans RX.out
    exact ⟨fun j => cell_row h2 j, (Array.getElem?_eq_some_iff.1 h2).1⟩
  have NO := hid (FormedSays.no hf)
  have C1 := hid (pwithin_any c sg so cg co x)
  have C2 : Hid (∀ W, Below x.heap.size x W → _) := fun W hW => named_any c sg so cg co W ((hc.below BX.out).below hW).gates hn hns hl
  have C3 : Hid (∀ W, Below x.heap.size x W → _) := fun W hW => placed_any c sg so cg co W ((hc.below BX.out).below hW) ((hkd.on BX.out).on hW) hl hlo
  have C4 : Hid (c.gates.length ≤ 65536 → placedB c = true → ∀ W, Below x.heap.size x W → _) := fun h1 h3 W hW => firstInCircle_gen c.gates sg cg c.gates.length W ((hc.below BX.out).below hW).gates ((hkd.on BX.out).on hW) rfl h1 (fun i g hg => ⟨lineB_kind ((placed_lines h3).1 i g hg), fun _ ha => lineB_leans ((placed_lines h3).1 i g hg) ha⟩)
  obtain ⟨d0, hb0⟩ := CE.out x (Below.refl _ _)
  have HX := hid hx
  have HNF := hid hf
  clear hx hc hkd hf hn hns hl hlo
  by_cases h1 : c.gates.length ≤ 65536 ∧ c.outs.length ≤ 65536
  rotate_left 1
  · have HB1 : Hid ((decide (c.gates.length ≤ 65536) && decide (c.outs.length ≤ 65536)) = false) := by
      show _ = _
      rw [Bool.eq_false_iff]
      intro h9
      simp only [Bool.and_eq_true, decide_eq_true_eq] at h9
      exact h1 h9
    clear h1 C2 C3 C4
    go_enter Tryd.func26, Tryd.ntmps26
    go_wp2_with (first
      | (rw [← HX.out])
      | (go_at_call 50; refine Calls.mono C1.out ?_; rintro e w1 ⟨rfl, b1⟩; rw [HB1.out]; have B1 : Hid (Below x.heap.size x w1) := b1; obtain ⟨d1, hb1⟩ := CE.out w1 B1.out; clear b1))
    go_ret
    exact ⟨NO.out, BX.out.trans (B1.out.mono BX.out.size)⟩
  have HB1 : Hid ((decide (c.gates.length ≤ 65536) && decide (c.outs.length ≤ 65536)) = true) := by
    show _ = _
    simp only [Bool.and_eq_true, decide_eq_true_eq]
    exact h1
  have H1 := hid h1
  clear h1
  by_cases h2 : NamedIs c
  rotate_left 1
  · have HB2 := hid h2
    clear h2 C3 C4
    go_enter Tryd.func26, Tryd.ntmps26
    go_wp2_with (first
      | (rw [← HX.out])
      | (go_at_call 51; refine Calls.mono (C2.out w1 B1.out) ?_; rintro e w2 ⟨⟨bb, rfl, hbb⟩, b2⟩; obtain rfl : bb = false := (Bool.eq_false_iff.2 fun h9 => HB2.out (hbb.1 h9)); have B2 : Hid (Below x.heap.size x w2) := B1.out.trans (b2.mono B1.out.size); obtain ⟨d2, hb2⟩ := CE.out w2 B2.out; clear b2 hbb)
      | (go_at_call 50; refine Calls.mono C1.out ?_; rintro e w1 ⟨rfl, b1⟩; rw [HB1.out]; have B1 : Hid (Below x.heap.size x w1) := b1; obtain ⟨d1, hb1⟩ := CE.out w1 B1.out; clear b1))
    go_ret
    exact ⟨NO.out, BX.out.trans (B2.out.mono BX.out.size)⟩
  have HB2 := hid h2
  clear h2
  by_cases h3 : placedB c = true
  rotate_left 1
  · have HB3 : Hid (placedB c = false) := Bool.eq_false_iff.2 h3
    clear h3 C4
    go_enter Tryd.func26, Tryd.ntmps26
    go_wp2_with (first
      | (rw [← HX.out])
      | (go_at_call 52; refine Calls.mono (C3.out w2 B2.out) ?_; rintro e w3 ⟨rfl, b3⟩; rw [HB3.out]; have B3 : Hid (Below x.heap.size x w3) := B2.out.trans (b3.mono B2.out.size); obtain ⟨d3, hb3⟩ := CE.out w3 B3.out; clear b3)
      | (go_at_call 51; refine Calls.mono (C2.out w1 B1.out) ?_; rintro e w2 ⟨⟨bb, rfl, hbb⟩, b2⟩; obtain rfl : bb = true := (hbb.2 HB2.out); have B2 : Hid (Below x.heap.size x w2) := B1.out.trans (b2.mono B1.out.size); obtain ⟨d2, hb2⟩ := CE.out w2 B2.out; clear b2 hbb)
      | (go_at_call 50; refine Calls.mono C1.out ?_; rintro e w1 ⟨rfl, b1⟩; rw [HB1.out]; have B1 : Hid (Below x.heap.size x w1) := b1; obtain ⟨d1, hb1⟩ := CE.out w1 B1.out; clear b1))
    go_ret
    exact ⟨NO.out, BX.out.trans (B3.out.mono BX.out.size)⟩
  have HB3 : Hid (placedB c = true) := h3
  have CR : Hid (∀ r, CircleIs c.gates r → (r == -1) = false) := fun r hr => by
    rcases hr with ⟨_, hr⟩ | ⟨i, rfl, _⟩
    · exact absurd (formed_of H1.out HB2.out h3 hr) HNF.out
    · exact beq_eq_false_iff_ne.2 (by omega)
  have C5 := hid (C4.out H1.out.1 h3)
  clear h3 C4
  have hgo : Calls Tryd.prog 26 #[cirV c sg cg so co] w fun e w' => FormedSays c e ∧ Below w.heap.size w w' := by
    go_enter Tryd.func26, Tryd.ntmps26
    go_wp2_with (first
      | (rw [← HX.out])
      | (go_at_call 53; refine Calls.mono (C5.out w3 B3.out) ?_; rintro e w4 ⟨⟨r, rfl, hr⟩, b4⟩; have hr2 : (r == -1) = false := (CR.out r hr); have B4 : Hid (Below x.heap.size x w4) := B3.out.trans (b4.mono B3.out.size); clear b4 hr)
      | (go_at_call 52; refine Calls.mono (C3.out w2 B2.out) ?_; rintro e w3 ⟨rfl, b3⟩; rw [HB3.out]; have B3 : Hid (Below x.heap.size x w3) := B2.out.trans (b3.mono B2.out.size); obtain ⟨d3, hb3⟩ := CE.out w3 B3.out; clear b3)
      | (go_at_call 51; refine Calls.mono (C2.out w1 B1.out) ?_; rintro e w2 ⟨⟨bb, rfl, hbb⟩, b2⟩; obtain rfl : bb = true := (hbb.2 HB2.out); have B2 : Hid (Below x.heap.size x w2) := B1.out.trans (b2.mono B1.out.size); obtain ⟨d2, hb2⟩ := CE.out w2 B2.out; clear b2 hbb)
      | (go_at_call 50; refine Calls.mono C1.out ?_; rintro e w1 ⟨rfl, b1⟩; rw [HB1.out]; have B1 : Hid (Below x.heap.size x w1) := b1; obtain ⟨d1, hb1⟩ := CE.out w1 B1.out; clear b1))
    go_ret
    exact ⟨NO.out, BX.out.trans (B4.out.mono BX.out.size)⟩
  exact hgo
end Go.Proofs.YtfmmmhcpdinhgaaDoor
/-
  Print, the landed one and the document's.
-/
namespace Go.Proofs.YtfmmmhcpdinhgaaDoor
open Go.RowKit Go.Deep PureNet
set_option maxRecDepth 100000

theorem name_size {s : ByteArray} (h : nameB s = true) : (bl s).length ≤ 32 := by
  unfold nameB at h
  show s.data.toList.length ≤ 32
  cases hl : s.data.toList with
  | nil => simp
  | cons a t =>
    rw [hl] at h
    simp only [nameL, Bool.and_eq_true, decide_eq_true_eq] at h
    simp only [List.length_cons]
    omega
theorem flat_le {α : Type} (f : α → List UInt8) (m : Nat) : ∀ (l : List α), (∀ x ∈ l, (f x).length ≤ m) → (l.flatMap f).length ≤ l.length * m
  | [], _ => by simp
  | a :: t, h => by
    have h1 := h a (by simp)
    have h2 := flat_le f m t (fun x hx => h x (by simp [hx]))
    simp only [List.flatMap_cons, List.length_append, List.length_cons, Nat.succ_mul]
    omega
theorem nmAt_le {c : Net} (h : PureNet.Formed c) (k : Int) : (bl (nmAt c k)).length ≤ 32 := by
  unfold nmAt
  cases hg : c.gates[k.toNat]? with
  | none => simp [bl]
  | some g => exact name_size (h.lines _ g hg).1
theorem words_le {T : Nat → ByteArray} {c : Net} (h : PureNet.Formed c) (hT : ∀ k, (bl (T k)).length ≤ 16) (g : Ga) (hg : nameB g.name = true) : (bl (wordsT T c g)).length ≤ 200 := by
  have h1 := name_size hg
  have ha := nmAt_le h g.a
  have hb := nmAt_le h g.b
  have hc := nmAt_le h g.c
  have ht := hT g.op.toNat
  simp only [bl] at h1 ha hb hc ht
  unfold wordsT
  by_cases h2 : g.kind = 2
  · simp [h2, bl] at h1 ha hb hc ht ⊢
    omega
  · by_cases h3 : g.kind = 3
    · by_cases h4 : g.op = 1
      · simp [h3, h4, bl] at h1 ha hb hc ht ⊢
        omega
      · simp [h3, h4, bl] at h1 ha hb hc ht ⊢
        omega
    · by_cases h4 : g.kind = 4
      · simp [h4, bl] at h1 ha hb hc ht ⊢
        omega
      · simp [h2, h3, h4, bl] at h1 ha hb hc ht ⊢
        omega
theorem text_small {T : Nat → ByteArray} {c : Net} (h : PureNet.Formed c) (hT : ∀ k, (bl (T k)).length ≤ 16) : (textT T c).length ≤ 140737488355328 := by
  have h1 := flat_le (lineT T c) 201 c.gates (fun g hg => by
    obtain ⟨i, hi⟩ := List.getElem?_of_mem hg
    have := words_le h hT g (h.lines i g hi).1
    simp only [lineT, List.length_append, List.length_cons, List.length_nil]
    omega)
  have h2 := flat_le (outT c) 40 c.outs (fun k _ => by
    have := nmAt_le h k
    simp only [outT, List.length_append, List.length_cons, List.length_nil]
    omega)
  have h3 := name_size h.name
  have h4 := h.few
  have h5 := h.fewOuts
  unfold textT headT
  simp only [List.length_append, List.length_cons, List.length_nil]
  omega

/-- what Print answers. -/
def PrintIs (T : Nat → ByteArray) (c : Net) (s : List UInt8) (e : Int) : Prop :=
  (¬ PureNet.Formed c ∧ s = [] ∧ e = 144) ∨ (PureNet.Formed c ∧ 1048576 < (textT T c).length ∧ s = [] ∧ e = 5) ∨ (PureNet.Formed c ∧ (textT T c).length ≤ 1048576 ∧ s = textT T c ∧ e = 0)
theorem print_is (T : Nat → ByteArray) (c : Net) : ∃ s e, PrintIs T c s e := by
  by_cases h : PureNet.Formed c
  · by_cases h2 : 1048576 < (textT T c).length
    · exact ⟨_, _, .inr (.inl ⟨h, h2, rfl, rfl⟩)⟩
    · exact ⟨_, _, .inr (.inr ⟨h, by omega, rfl, rfl⟩)⟩
  · exact ⟨_, _, .inl ⟨h, rfl, rfl⟩⟩

set_option maxHeartbeats 2000000 in
theorem print_any (T : Nat → ByteArray) (hT : ∀ k, (bl (T k)).length ≤ 16) (c : Net) (sg so : Option Addr) (cg co : Nat) (w : World) (hc : CirAt w c sg so) (hkd : KindsAt w) (hkw : KwAt w) (hop : OpsAt w 1 T) (hn : c.name.size ≤ 140737488351232) (hns : ∀ g ∈ c.gates, g.name.size ≤ 140737488351232) (hl : c.gates.length ≤ 1099511627776) (hlo : c.outs.length ≤ 1099511627776) (s : List UInt8) (er : Int) (hP : PrintIs T c s er) :
    Calls Tryd.prog 25 #[cirV c sg cg so co] w fun e w' => e = .returned (.tuple #[str s, .int .i64 er]) ∧ Below w.heap.size w w' := by
  obtain ⟨x, hx⟩ : ∃ x, x = w.alloc (Obj.cells (#[Value.string c.name, Value.slice sg c.gates.length cg, Value.slice so c.outs.length co] : Array Value) 26) := ⟨_, rfl⟩
  have R1 : x.heap[w.heap.size]? = some (.cells (#[Value.string c.name, Value.slice sg c.gates.length cg, Value.slice so c.outs.length co] : Array Value) 26 (0, 0)) := by rw [hx]; exact heap_alloc_new w _
  have BX : Hid (Below w.heap.size w x) := by rw [hx]; exact (Below.refl _ _).alloc (Nat.le_refl _) _
  have FM := hid (formed_gen c sg so cg co x (hc.below BX.out) (hkd.on BX.out) hn hns hl hlo)
  have TX : Hid (∀ W, Below x.heap.size x W → PureNet.Formed c → Calls Tryd.prog 49 #[cirV c sg cg so co] W fun e w' => e = .returned (str (textT T c)) ∧ Below W.heap.size W w') := fun W hW hf => write_text T c sg so cg co W ((hc.below BX.out).below hW) ((hkd.on BX.out).on hW) ((hkw.on hkd.pos BX.out).on (Nat.lt_of_lt_of_le hkd.pos BX.out.size) hW) ((hop.on BX.out).on hW) (fun i g hg => (hf.lines i g hg).2) hf.outs hl hlo (text_small hf hT)
  have q1 := fun j => cell_row R1 j
  have l1 := (Array.getElem?_eq_some_iff.1 R1).1
  have QW : Hid (∀ W, Below x.heap.size x W → (∀ j, W.cell? ⟨w.heap.size, j, none⟩ = (#[Value.string c.name, Value.slice sg c.gates.length cg, Value.slice so c.outs.length co] : Array Value)[j]?) ∧ w.heap.size < W.heap.size) := fun W hW => by
    have r := (hW.block _ l1).trans R1
    exact ⟨fun j => cell_row r j, (Array.getElem?_eq_some_iff.1 r).1⟩
  have HX := hid hx
  clear hx hc R1 hn hns hl hlo hkd hkw hop
  obtain ⟨X, hX⟩ : ∃ X, X = textT T c := ⟨_, rfl⟩
  unfold PrintIs at hP
  rw [← hX] at hP TX
  clear hX
  rcases hP with ⟨hf, rfl, rfl⟩ | ⟨hf, hlen, rfl, rfl⟩ | ⟨hf, hlen, rfl, rfl⟩
  · go_enter Tryd.func25, Tryd.ntmps25
    go_wp2_with (first | (rw [← HX.out]) | (go_at_call 26; refine FM.out.mono ?_; rintro e w1 ⟨⟨b, rfl, hb⟩, b1⟩; obtain rfl : b = false := (by cases b; rfl; exact absurd (hb.1 rfl) hf); have B1 : Hid (Below w.heap.size w w1) := BX.out.trans (b1.mono BX.out.size); clear b1 hb))
    go_ret2
    exact ⟨rfl, B1.out⟩
  · have HF := hid hf
    clear hf
    go_enter Tryd.func25, Tryd.ntmps25
    go_wp2_with (first | (rw [← HX.out]) | (have q := B1; clear q; go_at_call 49; refine (TX.out w1 B1.out HF.out).mono ?_; rintro e w2 ⟨rfl, b2⟩; have B2 : Hid (Below w.heap.size w w2) := BX.out.trans ((B1.out.trans (b2.mono B1.out.size)).mono BX.out.size); clear b2) | (go_at_call 26; refine FM.out.mono ?_; rintro e w1 ⟨⟨b, rfl, hb⟩, b1⟩; obtain rfl : b = true := hb.2 HF.out; obtain ⟨q2, l2⟩ := QW.out w1 b1; have B1 := hid b1; clear b1 hb))
    go_ret2
    exact ⟨rfl, B2.out⟩
  · have HF := hid hf
    clear hf
    go_enter Tryd.func25, Tryd.ntmps25
    go_wp2_with (first | (rw [← HX.out]) | (have q := B1; clear q; go_at_call 49; refine (TX.out w1 B1.out HF.out).mono ?_; rintro e w2 ⟨rfl, b2⟩; have B2 : Hid (Below w.heap.size w w2) := BX.out.trans ((B1.out.trans (b2.mono B1.out.size)).mono BX.out.size); clear b2) | (go_at_call 26; refine FM.out.mono ?_; rintro e w1 ⟨⟨b, rfl, hb⟩, b1⟩; obtain rfl : b = true := hb.2 HF.out; obtain ⟨q2, l2⟩ := QW.out w1 b1; have B1 := hid b1; clear b1 hb))
    go_ret2
    exact ⟨rfl, B2.out⟩

set_option maxHeartbeats 2000000 in
theorem rprint_any (T : Nat → ByteArray) (hT : ∀ k, (bl (T k)).length ≤ 16) (c : Net) (sg so : Option Addr) (cg co : Nat) (w : World) (hc : CirAt w c sg so) (hop : OpsAt w 2 T) (hn : c.name.size ≤ 140737488351232) (hns : ∀ g ∈ c.gates, g.name.size ≤ 140737488351232) (hl : c.gates.length ≤ 1099511627776) (hlo : c.outs.length ≤ 1099511627776) (s : List UInt8) (er : Int) (hP : PrintIs T c s er) :
    Calls Tryd.prog 27 #[cirV c sg cg so co] w fun e w' => e = .returned (.tuple #[str s, .int .i64 er]) ∧ Below w.heap.size w w' := by
  obtain ⟨x, hx⟩ : ∃ x, x = w.alloc (Obj.cells (#[Value.string c.name, Value.slice sg c.gates.length cg, Value.slice so c.outs.length co] : Array Value) 26) := ⟨_, rfl⟩
  have R1 : x.heap[w.heap.size]? = some (.cells (#[Value.string c.name, Value.slice sg c.gates.length cg, Value.slice so c.outs.length co] : Array Value) 26 (0, 0)) := by rw [hx]; exact heap_alloc_new w _
  have BX : Hid (Below w.heap.size w x) := by rw [hx]; exact (Below.refl _ _).alloc (Nat.le_refl _) _
  have FM := hid (formed_any c sg so cg co x (hc.below BX.out) hn hns hl hlo)
  have TX : Hid (∀ W, Below x.heap.size x W → PureNet.Formed c → Calls Tryd.prog 54 #[cirV c sg cg so co] W fun e w' => e = .returned (str (textT T c)) ∧ Below W.heap.size W w') := fun W hW hf => rtext_any T c sg so cg co W ((hc.below BX.out).below hW) ((hop.on BX.out).on hW) (fun i g hg => (hf.lines i g hg).2) hf.outs hl hlo (text_small hf hT) hns (fun k => by have := hT k; simp [bl] at this; omega) hn
  have q1 := fun j => cell_row R1 j
  have l1 := (Array.getElem?_eq_some_iff.1 R1).1
  have QW : Hid (∀ W, Below x.heap.size x W → (∀ j, W.cell? ⟨w.heap.size, j, none⟩ = (#[Value.string c.name, Value.slice sg c.gates.length cg, Value.slice so c.outs.length co] : Array Value)[j]?) ∧ w.heap.size < W.heap.size) := fun W hW => by
    have r := (hW.block _ l1).trans R1
    exact ⟨fun j => cell_row r j, (Array.getElem?_eq_some_iff.1 r).1⟩
  have HX := hid hx
  clear hx hc R1 hn hns hl hlo hop
  obtain ⟨X, hX⟩ : ∃ X, X = textT T c := ⟨_, rfl⟩
  unfold PrintIs at hP
  rw [← hX] at hP TX
  clear hX
  rcases hP with ⟨hf, rfl, rfl⟩ | ⟨hf, hlen, rfl, rfl⟩ | ⟨hf, hlen, rfl, rfl⟩
  · go_enter Tryd.func27, Tryd.ntmps27
    go_wp2_with (first | (rw [← HX.out]) | (go_at_call 28; refine FM.out.mono ?_; rintro e w1 ⟨⟨b, rfl, hb⟩, b1⟩; obtain rfl : b = false := (by cases b; rfl; exact absurd (hb.1 rfl) hf); have B1 : Hid (Below w.heap.size w w1) := BX.out.trans (b1.mono BX.out.size); clear b1 hb))
    go_ret2
    exact ⟨rfl, B1.out⟩
  · have HF := hid hf
    clear hf
    go_enter Tryd.func27, Tryd.ntmps27
    go_wp2_with (first | (rw [← HX.out]) | (have q := B1; clear q; go_at_call 54; refine (TX.out w1 B1.out HF.out).mono ?_; rintro e w2 ⟨rfl, b2⟩; have B2 : Hid (Below w.heap.size w w2) := BX.out.trans ((B1.out.trans (b2.mono B1.out.size)).mono BX.out.size); clear b2) | (go_at_call 28; refine FM.out.mono ?_; rintro e w1 ⟨⟨b, rfl, hb⟩, b1⟩; obtain rfl : b = true := hb.2 HF.out; obtain ⟨q2, l2⟩ := QW.out w1 b1; have B1 := hid b1; clear b1 hb))
    go_ret2
    exact ⟨rfl, B2.out⟩
  · have HF := hid hf
    clear hf
    go_enter Tryd.func27, Tryd.ntmps27
    go_wp2_with (first | (rw [← HX.out]) | (have q := B1; clear q; go_at_call 54; refine (TX.out w1 B1.out HF.out).mono ?_; rintro e w2 ⟨rfl, b2⟩; have B2 : Hid (Below w.heap.size w w2) := BX.out.trans ((B1.out.trans (b2.mono B1.out.size)).mono BX.out.size); clear b2) | (go_at_call 28; refine FM.out.mono ?_; rintro e w1 ⟨⟨b, rfl, hb⟩, b1⟩; obtain rfl : b = true := hb.2 HF.out; obtain ⟨q2, l2⟩ := QW.out w1 b1; have B1 := hid b1; clear b1 hb))
    go_ret2
    exact ⟨rfl, B2.out⟩
end Go.Proofs.YtfmmmhcpdinhgaaDoor
/-
  The law's own roomy.
-/
namespace Go.Proofs.YtfmmmhcpdinhgaaDoor
open Go.RowKit Go.Deep PureNet ShfKit
set_option maxRecDepth 100000

theorem add_addr (g o j : Nat) : Addr.add ⟨g, o, none⟩ j = ⟨g, o + j, none⟩ := by
  unfold Addr.add
  by_cases h : j = 0
  · rw [if_pos h, h]; rfl
  · rw [if_neg h]
theorem far_below {w W : World} {v v' : Value} {B : Nat} (h : (v'.ownBlock = v.ownBlock ∧ w.grownBy W v.ownBlock) ∨ ((∀ g, v'.ownBlock = some g → w.heap.size ≤ g) ∧ w.grownBy W none)) {w0 : World} (hb : Below B w0 w) (hB : B ≤ w.heap.size) (hv : ∀ g, v.ownBlock = some g → B ≤ g) : Below B w0 W := by
  rcases h with ⟨_, hg⟩ | ⟨_, hg⟩
  · exact hb.grown hg hB hv
  · exact hb.grown hg hB (fun k e => by cases e)
end Go.Proofs.YtfmmmhcpdinhgaaDoor
/-
  Appending what another slice shows; the law's own twin.
-/
namespace Go.Proofs.YtfmmmhcpdinhgaaDoor
open Go.RowKit Go.Deep PureNet ShfKit
set_option maxRecDepth 100000

/-- how an append leaves memory: where it stood, or in a block that is new. -/
def Far (w w' : World) (v v' : Value) : Prop := (v'.ownBlock = v.ownBlock ∧ w.grownBy w' v.ownBlock) ∨ ((∀ g, v'.ownBlock = some g → w.heap.size ≤ g) ∧ w.grownBy w' none)
theorem run_cells (w : World) (B : Nat) (t ty e : TypeId) (z : Value) (size bytes : Nat) (ht : Tryd.prog.underlying t = some (.slice e)) (hinf : (Tryd.prog.info? e).map (fun i => (i.zero, i.size, i.bytes)) = some (some z, size, bytes))
    (hzs : z.cells.size = size) (hsz : 0 < size) (v : Value) (n : Nat) (xs : List Value) (hown : w.ownsRow B e size v n xs)
    (sa : Option Addr) (m c : Nat) (news : List Value) (hl : news.length = m * size) (hc : CellsAt w sa news) (hnil : sa = none → c = 0) (h1 : ∀ u ∈ news, u.oneCell' = true) (h63 : n + m ≤ maxLen) (hbytes : (n + m) * bytes ≤ 140737488355328) (hbase : B ≤ w.heap.size) :
    ∃ v' w', (Builtin.append_ #[t, t] ty #[v, .slice sa m c]).run Tryd.prog w = .ok v' w' ∧ w'.ownsRow B e size v' (n + m) (xs ++ news) ∧ Far w w' v v' := by
  obtain ⟨i, hi, hz0, hz1, hz2⟩ := info_parts hinf
  cases sa with
  | none =>
    obtain rfl := hnil rfl
    have h0 : news = [] := by
      cases news with
      | nil => rfl
      | cons u r =>
        obtain ⟨g, o, e, _⟩ := hc.at_ 0 u rfl
        cases e
    subst h0
    have hm : m = 0 := by
      have h2 : m * size = 0 := by rw [← hl]; rfl
      rcases Nat.mul_eq_zero.1 h2 with h | h
      · exact h
      · omega
    subst hm
    refine ⟨v, w, run_append_owned_none w B t ty e i size ht hi v n xs hown, by rw [List.append_nil]; exact hown, .inl ⟨rfl, World.grownBy.refl _ _⟩⟩
  | some a =>
    refine run_append_far (P := Tryd.prog) w B t ty e i z size bytes ht hi hz0 hz1 hz2 hzs hsz v n xs hown a m c news hl (fun j u hu => ?_) h1 h63 hbytes hbase
    obtain ⟨g, o, e, _, hce⟩ := hc.at_ j u hu
    cases e
    rw [add_addr]
    exact hce
/-- in the text's order. -/
theorem wpl_cells {ops : Array Oper} {rest : List Oper} {o : Oper} {a : Act} {Q : Exit → Act → World → Prop} (w : World)
    (hg : o.guard = none) (s x : Operand) (t : TypeId) (hop : o.op = Op.call { callee := Callee.builtin Builtin.append, args := #[s, x], argTypes := #[t, t] })
    (B : Nat) (e : TypeId) (z : Value) (size bytes : Nat) (ht : Tryd.prog.underlying t = some (.slice e)) (hinf : (Tryd.prog.info? e).map (fun i => (i.zero, i.size, i.bytes)) = some (some z, size, bytes))
    (hzs : z.cells.size = size) (hsz : 0 < size) (v : Value) (n : Nat) (xs : List Value) (hs : a.eval s = v) (hown : w.ownsRow B e size v n xs)
    (sa : Option Addr) (m c : Nat) (news : List Value) (hx : a.eval x = .slice sa m c) (hl : news.length = m * size) (hc : CellsAt w sa news) (hnil : sa = none → c = 0) (h1 : ∀ u ∈ news, u.oneCell' = true) (h63 : n + m ≤ maxLen) (hbytes : (n + m) * bytes ≤ 140737488355328) (hbase : B ≤ w.heap.size)
    (hK : ∀ v' w', w'.ownsRow B e size v' (n + m) (xs ++ news) → Far w w' v v' → wpList Tryd.prog ops Q rest (a.put o.dst v') w') :
    wpList Tryd.prog ops Q (o :: rest) a w := by
  refine wpList_plain hg fun K hK' => ?_
  obtain ⟨v', w', hrun, r1, r2⟩ := run_cells w B t o.type e z size bytes ht hinf hzs hsz v n xs hown sa m c news hl hc hnil h1 h63 hbytes hbase
  unfold Oper.wp
  simp [execOp, hop, resolve, invoke, builtin, hs, hx, hrun, Result.andThen]
  exact hK' _ _ (hK v' w' r1 r2)
/-- an operation by itself. -/
theorem wp_cells {o : Oper} {a : Act} {w : World} {K : Act → World → Prop} {Q : Exit → Act → World → Prop} (s x : Operand) (t : TypeId) (hop : o.op = Op.call { callee := Callee.builtin Builtin.append, args := #[s, x], argTypes := #[t, t] })
    (B : Nat) (e : TypeId) (z : Value) (size bytes : Nat) (ht : Tryd.prog.underlying t = some (.slice e)) (hinf : (Tryd.prog.info? e).map (fun i => (i.zero, i.size, i.bytes)) = some (some z, size, bytes))
    (hzs : z.cells.size = size) (hsz : 0 < size) (v : Value) (n : Nat) (xs : List Value) (hs : a.eval s = v) (hown : w.ownsRow B e size v n xs)
    (sa : Option Addr) (m c : Nat) (news : List Value) (hx : a.eval x = .slice sa m c) (hl : news.length = m * size) (hc : CellsAt w sa news) (hnil : sa = none → c = 0) (h1 : ∀ u ∈ news, u.oneCell' = true) (h63 : n + m ≤ maxLen) (hbytes : (n + m) * bytes ≤ 140737488355328) (hbase : B ≤ w.heap.size)
    (hK : ∀ v' w', w'.ownsRow B e size v' (n + m) (xs ++ news) → Far w w' v v' → K (a.put o.dst v') w') : Oper.wp Tryd.prog o a w K Q := by
  obtain ⟨v', w', hrun, r1, r2⟩ := run_cells w B t o.type e z size bytes ht hinf hzs hsz v n xs hown sa m c news hl hc hnil h1 h63 hbytes hbase
  unfold Oper.wp execOp
  simp only [hop, resolve, invoke, builtin, Sem.run_bind, Sem.run_pure, Result.andThen_ok, List.map_toArray, List.map_cons, List.map_nil, hs, hx, hrun]
  exact hK v' w' r1 r2
theorem Far.below {w W : World} {v v' : Value} {B : Nat} (h : Far w W v v') {w0 : World} (hb : Below B w0 w) (hB : B ≤ w.heap.size) (hv : ∀ g, v.ownBlock = some g → B ≤ g) : Below B w0 W := far_below h hb hB hv
theorem ga_one (g : Ga) : ∀ u ∈ ga g, u.oneCell' = true := fun u hu => by
  simp only [ga, List.mem_cons, List.not_mem_nil, or_false] at hu
  rcases hu with rfl | rfl | rfl | rfl | rfl | rfl <;> rfl
theorem gas_one (l : List Ga) : ∀ u ∈ gas l, u.oneCell' = true := fun u hu => by
  obtain ⟨g, _, hg⟩ := List.mem_flatMap.1 hu
  exact ga_one g u hg
theorem nus_one (l : List Int) : ∀ u ∈ nu l, u.oneCell' = true := fun u hu => by
  simp only [nu, List.mem_map] at hu
  obtain ⟨b, _, rfl⟩ := hu
  rfl
theorem Far.other {W W' : World} {v1 v2 v : Value} {B B' e e' size size' n n' : Nat} {xs xs' : List Value} (h : Far W W' v1 v2) (h1 : W.ownsRow B' e' size' v1 n' xs') (ho : W.ownsRow B e size v n xs) (hne : e ≠ e') : W'.ownsRow B e size v n xs := by
  rcases h with ⟨_, hg⟩ | ⟨_, hg⟩
  · exact Go.Proofs.YtfmmmhcpdinhgaaDoor.own_kept ho h1 hg hne
  · exact ShfKit.own_kept ho fun g hgv => hg.block g (own_block ho hgv).2 (fun e => by cases e)
/-- a line that marks spare room. -/
def roomG : Ga := ⟨0, ⟨#[114, 111, 111, 109]⟩, 0, 0, 0, 0⟩
/-- a twin in memory: its lists with their marks. -/
structure TwinAt (W : World) (B : Nat) (c : Net) (gg cg go co : Nat) : Prop where
  gates : W.ownsRow B 38 6 (.slice (some ⟨gg, 0, none⟩) (c.gates.length + 2) cg) (c.gates.length + 2) (gas (c.gates ++ [roomG, roomG]))
  outs : W.ownsRow B 3 1 (.slice (some ⟨go, 0, none⟩) (c.outs.length + 2) co) (c.outs.length + 2) (nu (c.outs ++ [77, 78]))
theorem own_some {W : World} {B e size n : Nat} {v : Value} {xs : List Value} (h : W.ownsRow B e size v n xs) (hn : 0 < n) : ∃ g c, v = .slice (some ⟨g, 0, none⟩) n c ∧ n ≤ c ∧ B ≤ g ∧ g < W.heap.size := by
  rcases h.2 with ⟨_, h0⟩ | ⟨g, cap, cur, hv, hb, hr, hnc, _⟩
  · omega
  · exact ⟨g, cap, hv, hnc, hb, (Array.getElem?_eq_some_iff.1 hr).1⟩
theorem CellsAt.front {W : World} {s : Option Addr} {xs ys : List Value} (h : CellsAt W s (xs ++ ys)) : CellsAt W s xs := ⟨fun k x hx => h.at_ k x (by
  rw [List.getElem?_append_left (List.getElem?_eq_some_iff.1 hx).1]
  exact hx)⟩
theorem own_at {W : World} {B e size n g c : Nat} {xs : List Value} (h : W.ownsRow B e size (.slice (some ⟨g, 0, none⟩) n c) n xs) : CellsAt W (some ⟨g, 0, none⟩) xs := by
  obtain ⟨sa, c', hv, hc, _⟩ := own_cells h
  cases hv
  exact hc
theorem TwinAt.cir {W : World} {B : Nat} {c : Net} {gg cg go co : Nat} (h : TwinAt W B c gg cg go co) : CirAt W c (some ⟨gg, 0, none⟩) (some ⟨go, 0, none⟩) := by
  have h1 := own_at h.gates
  have h2 := own_at h.outs
  have e1 : gas (c.gates ++ [roomG, roomG]) = gas c.gates ++ gas [roomG, roomG] := by simp [gas]
  have e2 : nu (c.outs ++ [77, 78]) = nu c.outs ++ nu [77, 78] := by simp [nu]
  rw [e1] at h1
  rw [e2] at h2
  exact ⟨h1.front, h2.front⟩
theorem TwinAt.below {W W' : World} {B : Nat} {c : Net} {gg cg go co : Nat} (h : TwinAt W B c gg cg go co) (hb : Below W.heap.size W W') : TwinAt W' B c gg cg go co := ⟨ownsRow_below h.gates hb, ownsRow_below h.outs hb⟩
end Go.Proofs.YtfmmmhcpdinhgaaDoor
/-
  The law's own twin.
-/
namespace Go.Proofs.YtfmmmhcpdinhgaaDoor
open Go.RowKit Go.Deep PureNet ShfKit
set_option maxRecDepth 100000

set_option maxHeartbeats 2000000 in
theorem twin_any (c : Net) (sg so : Option Addr) (cg co : Nat) (w : World) (hc : CirAt w c sg so) (hsg : sg = none → cg = 0) (hso : so = none → co = 0) (hl : c.gates.length ≤ 1099511627776) (hlo : c.outs.length ≤ 1099511627776) :
    Calls Tryd.prog 20 #[cirV c sg cg so co] w fun e w' => ∃ gg kg go ko, e = .returned (cirV c (some ⟨gg, 0, none⟩) kg (some ⟨go, 0, none⟩) ko) ∧ TwinAt w' w.heap.size c gg kg go ko ∧ Below w.heap.size w w' := by
  obtain ⟨x, hx⟩ : ∃ x, x = (w.alloc (Obj.cells #[Value.string c.name, Value.slice sg c.gates.length cg, Value.slice so c.outs.length co] 26)).alloc (Obj.cells #[Value.string ⟨#[]⟩, Value.slice none 0 0, Value.slice none 0 0] 26) := ⟨_, rfl⟩
  have s1 : (w.alloc (Obj.cells #[Value.string c.name, Value.slice sg c.gates.length cg, Value.slice so c.outs.length co] 26)).heap.size = w.heap.size + 1 := by simp
  have R1 : Hid (x.heap[w.heap.size]? = some (.cells #[Value.string c.name, Value.slice sg c.gates.length cg, Value.slice so c.outs.length co] 26 (0, 0))) := by show _ = _; rw [hx, Below.heap_alloc _ _ _ (by omega)]; exact heap_alloc_new w _
  have R2 : Hid (x.heap[w.heap.size + 1]? = some (.cells #[Value.string ⟨#[]⟩, Value.slice none 0 0, Value.slice none 0 0] 26 (0, 0))) := by show _ = _; rw [hx, ← s1]; exact heap_alloc_new _ _
  have BX : Hid (Below w.heap.size w x) := by rw [hx]; exact ((Below.refl _ _).alloc (Nat.le_refl _) _).alloc (by omega) _
  have CE : Hid (∀ W, Below x.heap.size x W → (∀ j, W.cell? ⟨w.heap.size, j, none⟩ = (#[Value.string c.name, Value.slice sg c.gates.length cg, Value.slice so c.outs.length co] : Array Value)[j]?) ∧ w.heap.size < W.heap.size ∧ (∀ j, W.cell? ⟨w.heap.size + 1, j, none⟩ = (#[Value.string ⟨#[]⟩, Value.slice none 0 0, Value.slice none 0 0] : Array Value)[j]?) ∧ w.heap.size + 1 < W.heap.size ∧ ∀ j, W.frozen? ⟨w.heap.size + 1, j, none⟩ = false) := fun W hW => by
    have h1 := (hW.block _ (Array.getElem?_eq_some_iff.1 R1.out).1).trans R1.out
    have h2 := (hW.block _ (Array.getElem?_eq_some_iff.1 R2.out).1).trans R2.out
    exact ⟨fun j => cell_row h1 j, (Array.getElem?_eq_some_iff.1 h1).1, fun j => cell_row h2 j, (Array.getElem?_eq_some_iff.1 h2).1, fun j => unfrozen_row h2 j⟩
  have GX := hid (hc.below BX.out)
  have GN := hid (And.intro hsg hso)
  have LG : Hid (c.gates.length ≤ 1099511627776 ∧ c.outs.length ≤ 1099511627776) := ⟨hl, hlo⟩
  obtain ⟨d0, hb0, _⟩ := CE.out x (Below.refl _ _)
  have HX := hid hx
  clear hx s1 hc hsg hso hl hlo
  go_enter Tryd.func20, Tryd.ntmps20
  go_wp2_with (first
    | (rw [← HX.out])
    | (have q := O3; clear q; at_builtin; refine wpl_cells _ rfl _ _ 22 rfl x.heap.size 3 _ 1 8 Tryd.underlying22 info3 rfl (by decide) v2 c.outs.length (nu c.outs) rfl (ownsRow_below OB.out ((Below.refl _ _).alloc (Nat.le_refl _) _)) (some ⟨w3.heap.size, 0, none⟩) 2 2 [.int .i64 77, .int .i64 78] rfl rfl ⟨fun k u hu => ⟨w3.heap.size, 0, rfl, by simp, by rw [Nat.zero_add, cell_row (heap_alloc_new w3 _)]; simpa using hu⟩⟩ (fun e => by cases e) (fun u hu => by simp at hu; rcases hu with rfl | rfl <;> rfl) (by have := LG.out.2; unfold maxLen; omega) (by have := LG.out.2; omega) (by have := B3.out.size; simp; omega) ?_; intro v4 w4 o4 f4; have O4 := hid o4; have B4 : Hid (Below x.heap.size x w4) := f4.below (B3.out.alloc B3.out.size _) (Nat.le_trans B3.out.size (by simp)) (fun g hg => (own_block OB.out hg).1); have OC := hid (f4.other (ownsRow_below OB.out ((Below.refl _ _).alloc (Nat.le_refl _) _)) (ownsRow_below O3.out ((Below.refl _ _).alloc (Nat.le_refl _) _)) (by decide)); clear o4 f4)
    | (have q := O2; clear q; at_builtin; refine wpl_cells _ rfl _ _ 24 rfl x.heap.size 38 _ 6 56 Tryd.underlying24 info38 rfl (by decide) v1 c.gates.length (gas c.gates) rfl (ownsRow_below OA.out ((Below.refl _ _).alloc (Nat.le_refl _) _)) (some ⟨w2.heap.size, 0, none⟩) 2 2 (gas [roomG, roomG]) rfl rfl ⟨fun k u hu => ⟨w2.heap.size, 0, rfl, by simp, by rw [Nat.zero_add, cell_row (heap_alloc_new w2 _)]; simpa [gas, ga, roomG] using hu⟩⟩ (fun e => by cases e) (gas_one _) (by have := LG.out.1; unfold maxLen; omega) (by have := LG.out.1; omega) (by have := B2.out.size; simp; omega) ?_; intro v3 w3 o3 f3; have O3 := hid o3; have B3 : Hid (Below x.heap.size x w3) := f3.below (B2.out.alloc B2.out.size _) (Nat.le_trans B2.out.size (by simp)) (fun g hg => (own_block OA.out hg).1); have OB := hid (f3.other (ownsRow_below OA.out ((Below.refl _ _).alloc (Nat.le_refl _) _)) (ownsRow_below O2.out ((Below.refl _ _).alloc (Nat.le_refl _) _)) (by decide)); clear o3 f3)
    | (have q := O1; clear q; at_builtin; refine wpl_cells w1 rfl _ _ 22 rfl x.heap.size 3 _ 1 8 Tryd.underlying22 info3 rfl (by decide) (.slice none 0 0) 0 [] rfl (World.ownsRow_nil _ _ _ _) so c.outs.length co (nu c.outs) rfl (by simp [nu]) (GX.out.below B1.out).outs GN.out.2 (nus_one _) (by have := LG.out.2; unfold maxLen; omega) (by have := LG.out.2; omega) B1.out.size ?_; intro v2 w2 o2 f2; rw [Nat.zero_add, List.nil_append] at o2; have O2 := hid o2; have B12 : Hid (Below w1.heap.size w1 w2) := f2.below (Below.refl _ _) (Nat.le_refl _) (fun g hg => by simp [Value.ownBlock] at hg); have B2 : Hid (Below x.heap.size x w2) := B1.out.trans (B12.out.mono B1.out.size); have OA := hid (ownsRow_below O1.out B12.out); obtain ⟨d2, hb2, _⟩ := CE.out w2 B2.out; clear o2 f2)
    | (at_builtin; refine wpl_cells x rfl _ _ 24 rfl x.heap.size 38 _ 6 56 Tryd.underlying24 info38 rfl (by decide) (.slice none 0 0) 0 [] rfl (World.ownsRow_nil _ _ _ _) sg c.gates.length cg (gas c.gates) rfl (gas_length _) GX.out.gates GN.out.1 (gas_one _) (by have := LG.out.1; unfold maxLen; omega) (by have := LG.out.1; omega) (Nat.le_refl _) ?_; intro v1 w1 o1 f1; rw [Nat.zero_add, List.nil_append] at o1; have O1 := hid o1; have B1 : Hid (Below x.heap.size x w1) := f1.below (Below.refl _ _) (Nat.le_refl _) (fun g hg => by simp [Value.ownBlock] at hg); obtain ⟨d1, hb1, _⟩ := CE.out w1 B1.out; clear o1 f1))
  obtain ⟨gg, kg, hv3, hgk, hgb, hgs⟩ := own_some OC.out (by omega)
  obtain ⟨go, ko, hv4, hok, hob, hos⟩ := own_some O4.out (by omega)
  subst hv3
  subst hv4
  obtain ⟨d4, hb4, e4, hb5, fz4⟩ := CE.out w4 B4.out
  have hgk2 : c.gates.length ≤ kg := by omega
  have hok2 : c.outs.length ≤ ko := by omega
  have hne1 : w.heap.size + 1 ≠ w.heap.size := by omega
  go_wp2

  refine wp_region_noPanic ?_
  refine wp_region_held_drew (S := fun W => ∀ j, W.cell? ⟨w.heap.size, j, none⟩ = (#[Value.string c.name, Value.slice sg c.gates.length cg, Value.slice so c.outs.length co] : Array Value)[j]?) (by kernel_rfl) d4 (fun hHeld => ?_)
  refine wpAnyH_take (i := 0) (v := ?_) (by simp only [List.getElem?_toArray, List.getElem?_cons_zero]; rfl) (by kernel_rfl) (by kernel_rfl) (by kernel_rfl) (fun _ _ _ h => h) (Or.inl ⟨by rfl, ?_⟩) (by assumption) ?_
  rotate_left 1
  · intro w hSw; (try dsimp only at hSw); go_simp; (try with_reducible rfl)
  try simp only [Act.put, List.setIfInBounds_toArray, List.set_cons_zero, List.set_cons_succ]
  refine wpAnyH_take (i := 1) (v := ?_) (by simp only [List.getElem?_toArray, List.getElem?_cons_succ, List.getElem?_cons_zero]; rfl) (by kernel_rfl) (by kernel_rfl) (by kernel_rfl) (fun _ _ _ h => h) (Or.inl ⟨by rfl, ?_⟩) (by assumption) ?_
  rotate_left 1
  · intro w hSw; (try dsimp only at hSw); go_simp; (try with_reducible rfl)
  try simp only [Act.put, List.setIfInBounds_toArray, List.set_cons_zero, List.set_cons_succ]
  refine wpAnyH_take (i := 2) (v := ?_) (by simp only [List.getElem?_toArray, List.getElem?_cons_succ, List.getElem?_cons_zero]; rfl) (by kernel_rfl) (by kernel_rfl) (by kernel_rfl) (fun _ _ _ h => h) (Or.inl ⟨by rfl, ?_⟩) (by assumption) ?_
  rotate_left 1
  · intro w hSw; (try dsimp only at hSw); go_simp; (try with_reducible rfl)
  try simp only [Act.put, List.setIfInBounds_toArray, List.set_cons_zero, List.set_cons_succ]
  refine wpAnyH_take (i := 3) (v := ?_) (by simp only [List.getElem?_toArray, List.getElem?_cons_succ, List.getElem?_cons_zero]; rfl) (by kernel_rfl) (by kernel_rfl) (by kernel_rfl) (fun _ _ _ h => h) (Or.inl ⟨by rfl, ?_⟩) (by assumption) ?_
  rotate_left 1
  · intro w hSw; (try dsimp only at hSw); go_simp; (try with_reducible rfl)
  try simp only [Act.put, List.setIfInBounds_toArray, List.set_cons_zero, List.set_cons_succ]
  refine wpAnyH_take (i := 4) (v := ?_) (by simp only [List.getElem?_toArray, List.getElem?_cons_succ, List.getElem?_cons_zero]; rfl) (by kernel_rfl) (by kernel_rfl) (by kernel_rfl) (fun _ _ _ h => h) (Or.inl ⟨by rfl, ?_⟩) (by assumption) ?_
  rotate_left 1
  · intro w hSw; (try dsimp only at hSw); go_simp; (try with_reducible rfl)
  try simp only [Act.put, List.setIfInBounds_toArray, List.set_cons_zero, List.set_cons_succ]
  refine wpAnyH_take (i := 5) (v := ?_) (by simp only [List.getElem?_toArray, List.getElem?_cons_succ, List.getElem?_cons_zero]; rfl) (by kernel_rfl) (by kernel_rfl) (by kernel_rfl) (fun _ _ _ h => h) (Or.inl ⟨by rfl, ?_⟩) (by assumption) ?_
  rotate_left 1
  · intro w hSw; (try dsimp only at hSw); go_simp; (try with_reducible rfl)
  try simp only [Act.put, List.setIfInBounds_toArray, List.set_cons_zero, List.set_cons_succ]
  refine wpAnyH_take (i := 6) (v := .slice (some ⟨gg, 0, none⟩) c.gates.length kg) (by simp only [List.getElem?_toArray, List.getElem?_cons_succ, List.getElem?_cons_zero]; rfl) (by kernel_rfl) (by kernel_rfl) (by kernel_rfl) (fun _ _ _ h => h) (Or.inl ⟨by rfl, ?_⟩) (by assumption) ?_
  · intro w hSw; (try dsimp only at hSw); (try go_simp); ((try rw [if_pos (by omega)]); (try simp); (try omega))
  try simp only [Act.put, List.setIfInBounds_toArray, List.set_cons_zero, List.set_cons_succ]
  refine wpAnyH_take (i := 7) (v := ?_) (by simp only [List.getElem?_toArray, List.getElem?_cons_succ, List.getElem?_cons_zero]; rfl) (by kernel_rfl) (by kernel_rfl) (by kernel_rfl) (fun _ _ _ h => h) (Or.inl ⟨by rfl, ?_⟩) (by assumption) ?_
  rotate_left 1
  · intro w hSw; (try dsimp only at hSw); go_simp; (try with_reducible rfl)
  try simp only [Act.put, List.setIfInBounds_toArray, List.set_cons_zero, List.set_cons_succ]
  refine wpAnyH_take (i := 8) (v := ?_) (by simp only [List.getElem?_toArray, List.getElem?_cons_succ, List.getElem?_cons_zero]; rfl) (by kernel_rfl) (by kernel_rfl) (by kernel_rfl) (fun _ _ _ h => h) (Or.inl ⟨by rfl, ?_⟩) (by assumption) ?_
  rotate_left 1
  · intro w hSw; (try dsimp only at hSw); go_simp; (try with_reducible rfl)
  try simp only [Act.put, List.setIfInBounds_toArray, List.set_cons_zero, List.set_cons_succ]
  refine wpAnyH_take (i := 9) (v := ?_) (by simp only [List.getElem?_toArray, List.getElem?_cons_succ, List.getElem?_cons_zero]; rfl) (by kernel_rfl) (by kernel_rfl) (by kernel_rfl) (fun _ _ _ h => h) (Or.inl ⟨by rfl, ?_⟩) (by assumption) ?_
  rotate_left 1
  · intro w hSw; (try dsimp only at hSw); go_simp; (try with_reducible rfl)
  try simp only [Act.put, List.setIfInBounds_toArray, List.set_cons_zero, List.set_cons_succ]
  refine wpAnyH_take (i := 10) (v := ?_) (by simp only [List.getElem?_toArray, List.getElem?_cons_succ, List.getElem?_cons_zero]; rfl) (by kernel_rfl) (by kernel_rfl) (by kernel_rfl) (fun _ _ _ h => h) (Or.inl ⟨by rfl, ?_⟩) (by assumption) ?_
  rotate_left 1
  · intro w hSw; (try dsimp only at hSw); go_simp; (try with_reducible rfl)
  try simp only [Act.put, List.setIfInBounds_toArray, List.set_cons_zero, List.set_cons_succ]
  refine wpAnyH_take (i := 11) (v := .slice (some ⟨go, 0, none⟩) c.outs.length ko) (by simp only [List.getElem?_toArray, List.getElem?_cons_succ, List.getElem?_cons_zero]; rfl) (by kernel_rfl) (by kernel_rfl) (by kernel_rfl) (fun _ _ _ h => h) (Or.inl ⟨by rfl, ?_⟩) (by assumption) ?_
  · intro w hSw; (try dsimp only at hSw); (try go_simp); ((try rw [if_pos (by omega)]); (try simp); (try omega))
  try simp only [Act.put, List.setIfInBounds_toArray, List.set_cons_zero, List.set_cons_succ]
  refine wpAnyH_take (i := 12) (v := ?_) (by simp only [List.getElem?_toArray, List.getElem?_cons_succ, List.getElem?_cons_zero]; rfl) (by kernel_rfl) (by kernel_rfl) (by kernel_rfl) (fun _ _ _ h => h) (Or.inl ⟨by rfl, ?_⟩) (by assumption) ?_
  rotate_left 1
  · intro w hSw; (try dsimp only at hSw); go_simp; (try with_reducible rfl)
  try simp only [Act.put, List.setIfInBounds_toArray, List.set_cons_zero, List.set_cons_succ]
  refine wpAnyH_ready (rs := [13]) (by kernel_rfl) (by simp) ?_
  refine AllReadyH.cons (by simp only [List.getElem?_toArray, List.getElem?_cons_succ, List.getElem?_cons_zero]; rfl) (fun K hK => ?_) AllReadyH.nil
  go_simp
  clear hHeld
  refine hK.out _ _ (fun j => (World.cell?_setCell_far _ _ _ _ hne1).trans ((World.cell?_setCell_far _ _ _ _ hne1).trans ((World.cell?_setCell_far _ _ _ _ hne1).trans (d4 j)))) (fun hHeld => ?_)
  clear hK K
  try simp only [Act.put, List.setIfInBounds_toArray, List.set_cons_zero, List.set_cons_succ]
  refine wpAnyH_done (by kernel_rfl) ?_ _
  refine NoPanic.normal ?_
  go_wp2
  obtain ⟨Y, hY⟩ : ∃ Y, Y = (((w4.setCell ⟨w.heap.size + 1, 0, none⟩ (.string c.name)).setCell ⟨w.heap.size + 1, 1, none⟩ (.slice (some ⟨gg, 0, none⟩) c.gates.length kg)).setCell ⟨w.heap.size + 1, 2, none⟩ (.slice (some ⟨go, 0, none⟩) c.outs.length ko)).drew := ⟨_, rfl⟩
  have r4 : w4.heap[w.heap.size + 1]? = some (.cells #[Value.string ⟨#[]⟩, Value.slice none 0 0, Value.slice none 0 0] 26 (0, 0)) := (B4.out.block _ (Array.getElem?_eq_some_iff.1 R2.out).1).trans R2.out
  have r5 : Y.heap[w.heap.size + 1]? = some (.cells #[.string c.name, .slice (some ⟨gg, 0, none⟩) c.gates.length kg, .slice (some ⟨go, 0, none⟩) c.outs.length ko] 26 (0, 0)) := by
    have h1 := row_set (i := 0) (u := .string c.name) r4
    have h2 := row_set (i := 1) (u := .slice (some ⟨gg, 0, none⟩) c.gates.length kg) h1
    have h3 := row_set (i := 2) (u := .slice (some ⟨go, 0, none⟩) c.outs.length ko) h2
    rw [hY]
    exact h3
  have gy : w4.grownBy Y (some (w.heap.size + 1)) := by
    have h1 : w4.grownBy (((w4.setCell ⟨w.heap.size + 1, 0, none⟩ (.string c.name)).setCell ⟨w.heap.size + 1, 1, none⟩ (.slice (some ⟨gg, 0, none⟩) c.gates.length kg)).setCell ⟨w.heap.size + 1, 2, none⟩ (.slice (some ⟨go, 0, none⟩) c.outs.length ko)) (some (w.heap.size + 1)) := grown_set (grown_set (grown_set (World.grownBy.refl _ _)))
    rw [hY]
    exact ⟨h1.os, h1.tape, h1.output, h1.size, h1.block⟩
  rw [← hY]
  clear hY
  have hxs : w.heap.size + 1 < x.heap.size := (Array.getElem?_eq_some_iff.1 R2.out).1
  have z0 := cell_row r5 0
  have z1 := cell_row r5 1
  have z2 := cell_row r5 2
  have keep : ∀ {e size n : Nat} {v : Value} {xs : List Value}, w4.ownsRow x.heap.size e size v n xs → Y.ownsRow w.heap.size e size v n xs := fun {e size n v xs} ho => ShfKit.own_base (ShfKit.own_kept ho fun g hg => gy.block g (own_block ho hg).2 (fun e => by have := (own_block ho hg).1; have := Option.some.inj e; omega)) BX.out.size
  have e1 : gas (c.gates ++ [roomG, roomG]) = gas c.gates ++ gas [roomG, roomG] := by simp [gas]
  have e2 : nu (c.outs ++ [77, 78]) = nu c.outs ++ [.int .i64 77, .int .i64 78] := by simp [nu]
  have hB4 : Below w.heap.size w w4 := BX.out.trans (B4.out.mono BX.out.size)
  refine bodyPost_ret (v := .agg #[.string c.name, .slice (some ⟨gg, 0, none⟩) c.gates.length kg, .slice (some ⟨go, 0, none⟩) c.outs.length ko]) (by simp [results, Tryd.results20, go_sem, z0, z1, z2]) rfl ⟨gg, kg, go, ko, rfl, ⟨by rw [e1]; exact keep OC.out, by rw [e2]; exact keep O4.out⟩, hB4.grown gy hB4.size (fun j hj => by cases hj; omega)⟩
end Go.Proofs.YtfmmmhcpdinhgaaDoor
