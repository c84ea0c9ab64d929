import Derived.Test.YtfmmmhcpdinhgabGreatDoorZ22
/-
  The program's named of any value.
-/
namespace Go.Proofs.YtfmmmhcpdinhgabGreatDoor
open Go.RowKit Go.Deep PureNet Go.Maps Go.WideShapes
set_option maxRecDepth 100000

/-- no two of the first lines have one name. -/
def Apart (l : List Ga) (i : Nat) : Prop := ∀ (a b : Nat) (g h : Ga), a < i → b < i → l[a]? = some g → l[b]? = some h → g.name = h.name → a = b
/-- what named tells. -/
structure NamedIs (c : Net) : Prop where
  name : nameB c.name = true
  names : ∀ g ∈ c.gates, nameB g.name = true
  apart : Apart c.gates c.gates.length
/-- the names of the first lines, in a map. -/
structure Nam2 (x W : World) (l : List Ga) (i : Nat) (D : DataW Unit) : Prop where
  own : W.ownsMap Tryz.prog 9 (plainElem Tryz.prog 3) x.heap.size i D
  size : Maps.size D = i ↔ Apart l i
  tidy : Tidy D
  only : ∀ s : List UInt8, has D (.string s) = true ↔ ∃ j g, j < i ∧ l[j]? = some g ∧ s = g.name.data.toList
  good : ∀ (j : Nat) (g : Ga), j < i → l[j]? = some g → nameB g.name = true
  below : Below x.heap.size x W
theorem bytes_eq {a b : ByteArray} (h : a.data.toList = b.data.toList) : a = b := by
  cases a
  cases b
  exact congrArg _ (Array.ext' h)

set_option maxHeartbeats 4000000 in
theorem named_any (c : Net) (sg so : Option Addr) (cg co : Nat) (w : World) (hc : CellsAt w sg (gas c.gates)) (hn : c.name.size ≤ 140737488351232) (hns : ∀ g ∈ c.gates, g.name.size ≤ 140737488351232) (hl : c.gates.length ≤ 1099511627776) :
    Calls Tryz.prog 16 #[cirV c sg cg so co] w fun e w' => (∃ b, e = .returned (.bool b) ∧ (b = true ↔ NamedIs c)) ∧ Below w.heap.size w w' := by
  have short : ∀ s : ByteArray, nameB s = true → s.size ≤ 32 := fun s h => by
    apply Classical.byContradiction
    intro hn
    rw [nameB_long s (by omega)] at h
    cases h
  have HC := hid hc
  have NC : Hid (∀ W, _) := fun W => isName_any c.name W hn
  have NG : Hid (∀ (i : Nat) (g : Ga), c.gates[i]? = some g → ∀ W, Calls Tryz.prog 27 #[.string g.name] W fun e w' => e = .returned (.bool (nameB g.name)) ∧ w' = W) := fun i g hg W => isName_any g.name W (hns g (List.mem_of_getElem? hg))
  have SH := hid short
  clear hc hn hns short
  obtain ⟨x, hx⟩ : ∃ x, x = w.alloc (Obj.cells #[Value.string c.name, Value.slice sg c.gates.length cg, Value.slice so c.outs.length co] 25) := ⟨_, rfl⟩
  have RX : Hid (x.heap[w.heap.size]? = some (.cells #[Value.string c.name, Value.slice sg c.gates.length cg, Value.slice so c.outs.length co] 25 (0, 0))) := by rw [hx]; exact heap_alloc_new w _
  have BX : Hid (Below w.heap.size w x) := by rw [hx]; exact (Below.refl _ _).alloc (Nat.le_refl _) _
  have HX := hid hx
  clear hx
  have hmm := @run_makeMap Tryz.prog
  have cx := fun j => cell_row RX.out j
  have hbx := (Array.getElem?_eq_some_iff.1 RX.out).1
  go_enter Tryz.func16, Tryz.ntmps16
  go_wp2_with (rw [← HX.out])
  obtain ⟨y, hy⟩ : ∃ y, y = x.alloc (.map #[] 0) := ⟨_, rfl⟩
  have N0 : Hid (Nam2 x y c.gates 0 (.map [])) := by
    rw [hy]
    exact ⟨World.ownsMap_made x _ _ _, ⟨fun _ a b g h ha => by omega, fun _ => rfl⟩, tidy_empty, fun s => ⟨fun h => by simp [has] at h, fun ⟨j, g, hj, _⟩ => by omega⟩, fun j g hj => by omega, (Below.refl _ _).alloc (Nat.le_refl _) _⟩
  try rw [← hy]
  clear hy hmm cx hbx
  go_loopw [10] (fun iv W => ∃ i : Nat, i ≤ c.gates.length ∧ iv = .int .i64 (i : Int) ∧ Hid (∃ D, Nam2 x W c.gates i D)) (fun iv _ => c.gates.length - (intOf iv).toNat)
  case atStart => exact ⟨0, Nat.zero_le _, rfl, _, N0.out⟩
  case round =>
    clear N0
    obtain ⟨i, hi, rfl, HR⟩ := hrel
    obtain ⟨D, hN⟩ := HR.out
    clear HR
    have hwr : Below w.heap.size w wr := BX.out.trans (hN.below.mono BX.out.size)
    have hrow := (hN.below.block _ (Array.getElem?_eq_some_iff.1 RX.out).1).trans RX.out
    have c0 := fun j => cell_row hrow j
    have hb0 := (Array.getElem?_eq_some_iff.1 hrow).1
    have NM := hid hN
    have BW := hid hwr
    by_cases hlt : i < c.gates.length
    · obtain ⟨g, hg⟩ : ∃ g, c.gates[i]? = some g := ⟨_, List.getElem?_eq_getElem hlt⟩
      obtain ⟨b, o, rfl, hb, d0, d1, d2, d3, d4, d5⟩ := gate_at (HC.out.below hwr) i g hg
      have NI := hid (NG.out i g hg)
      have HG := hid hg
      cases hgn : nameB g.name with
      | false =>
        rw [hgn] at NI
        have HF : Hid (¬ NamedIs c) := fun h => by
          have := h.names g (List.mem_of_getElem? hg)
          rw [hgn] at this
          cases this
        clear hN hwr hrow hg hgn
        go_wp2_with (first | (go_at_call 27; refine Calls.mono (NI.out _) ?_; rintro e w2 ⟨rfl, rfl⟩))
        go_ret
        exact ⟨⟨false, rfl, by simp, fun h => absurd h HF.out⟩, BW.out.alloc BW.out.size _⟩
      | true =>
        rw [hgn] at NI
        have HGN := hid hgn
        have hsz : g.name.size ≤ maxLen := by have := SH.out _ hgn; unfold maxLen; omega
        have HK := hid (WideMaps.keyOf_string_mk (P := Tryz.prog) Tryz.underlying9 hsz)
        have HV : Hid (plainElem (H := Unit) Tryz.prog 3 (.int .i64 (i : Int)) = some (.lit (.int .i64 (i : Int)), [])) := plainElem_int Tryz.underlying3 (by
          have e1 : IntKind.i64.min = -9223372036854775808 := rfl
          have e2 : IntKind.i64.max = 9223372036854775807 := rfl
          simp [Lit.wf, e1, e2]
          omega)
        clear hN hwr hrow hg hgn
        go_wp2_with (first | (go_at_call 27; refine Calls.mono (NI.out _) ?_; rintro e w2 ⟨rfl, rfl⟩) | (at_mapUpdate; refine wpList_mapUpdate_own _ rfl _ _ _ 64 rfl 9 3 (string_keyed Tryz.underlying9) Tryz.underlying64 _ x.heap.size i D rfl (NM.out.own.alloc _) (by unfold maxLen; omega) _ _ (.string g.name.data.toList) rfl rfl HK.out (.lit (.int .i64 (i : Int))) [] HV.out ?_; intro w2 hown2 hg2; have OW := hid hown2; have GR := hid hg2; clear hown2 hg2))
        refine ⟨⟨i + 1, hlt, by go_num, _, OW.out, ?_, OW.out.tidy (string_keyed Tryz.underlying9), fun s => ?_, fun j h hj hh => ?_, ?_⟩, by simp [intOf]; omega⟩
        · rw [size_put NM.out.tidy]
          have hle := NM.out.own.size_le
          cases hh : has D (.string g.name.data.toList) with
          | false =>
            have hnew : ∀ (a : Nat) (h : Ga), a < i → c.gates[a]? = some h → g.name ≠ h.name := fun a h ha hah e => by
              have := (NM.out.only g.name.data.toList).2 ⟨a, h, ha, hah, by rw [e]⟩
              rw [hh] at this
              cases this
            rw [if_neg (by simp)]
            constructor
            · intro he a b p q ha hb hp hq hpq
              have hap := NM.out.size.1 (by omega)
              by_cases ea : a = i
              · by_cases eb : b = i
                · rw [ea, eb]
                · rw [ea, HG.out] at hp
                  cases hp
                  exact absurd hpq (hnew b q (by omega) hq)
              · by_cases eb : b = i
                · rw [eb, HG.out] at hq
                  cases hq
                  exact absurd hpq.symm (hnew a p (by omega) hp)
                · exact hap a b p q (by omega) (by omega) hp hq hpq
            · intro hap
              have := NM.out.size.2 (fun a b p q ha hb => hap a b p q (by omega) (by omega))
              omega
          | true =>
            obtain ⟨j, h, hj, hjh, e⟩ := (NM.out.only g.name.data.toList).1 hh
            rw [if_pos rfl]
            constructor
            · intro he
              omega
            · intro hap
              have := hap i j g h (by omega) (by omega) HG.out hjh (bytes_eq e)
              omega
        · by_cases e : (Lit.string s) = .string g.name.data.toList
          · rw [e, has_put_same NM.out.tidy.isMap (by trivial)]
            exact ⟨fun _ => ⟨i, g, by omega, HG.out, by simpa using e⟩, fun _ => rfl⟩
          · rw [has_put_other e, NM.out.only s]
            constructor
            · rintro ⟨j, h, hj, hjh, e2⟩
              exact ⟨j, h, by omega, hjh, e2⟩
            · rintro ⟨j, h, hj, hjh, e2⟩
              refine ⟨j, h, ?_, hjh, e2⟩
              have : j ≠ i := fun ej => by
                rw [ej, HG.out] at hjh
                cases hjh
                exact e (by rw [e2])
              omega
        · by_cases e : j = i
          · rw [e, HG.out] at hh
            cases hh
            exact HGN.out
          · exact NM.out.good j h (by omega) hh
        · exact (NM.out.below.alloc NM.out.below.size _).grown GR.out (by have := NM.out.below.size; simp; omega) (fun j hj => by cases hj; exact Nat.le_refl _)
    · have hin : i = c.gates.length := by omega
      have hlen := fun ty => hN.own.len Tryz.underlying64 ty
      obtain ⟨z, hz⟩ : ∃ z, z = Maps.size D := ⟨_, rfl⟩
      rw [← hz] at hlen
      have HZ : Hid (z = c.gates.length ↔ Apart c.gates c.gates.length) := by rw [hz, ← hin]; exact hN.size
      have HGD : Hid (∀ g ∈ c.gates, nameB g.name = true) := fun g hg => by
        obtain ⟨j, hj, e⟩ := List.getElem_of_mem hg
        exact hN.good j g (by omega) (by rw [List.getElem?_eq_getElem hj, e])
      clear hN hwr hrow hz hin
      cases hcn : nameB c.name with
      | false =>
        rw [hcn] at NC
        have HF : Hid (¬ NamedIs c) := fun h => by
          have := h.name
          rw [hcn] at this
          cases this
        clear hcn
        go_wp2_with (first | (go_at_call 27; refine Calls.mono (NC.out _) ?_; rintro e w2 ⟨rfl, rfl⟩))
        go_ret
        exact ⟨⟨false, rfl, by simp, fun h => absurd h HF.out⟩, BW.out⟩
      | true =>
        rw [hcn] at NC
        have HCN := hid hcn
        obtain ⟨bb, hbb⟩ : ∃ bb, bb = ((z : Int) == (c.gates.length : Int)) := ⟨_, rfl⟩
        have HBB : Hid (bb = true ↔ NamedIs c) := by
          rw [hbb]
          simp only [beq_iff_eq]
          constructor
          · intro h
            exact ⟨HCN.out, HGD.out, HZ.out.1 (by omega)⟩
          · intro h
            have := HZ.out.2 h.apart
            omega
        have hbb2 := hbb.symm
        clear hcn hbb
        go_wp2_with (first | (go_at_call 27; refine Calls.mono (NC.out _) ?_; rintro e w2 ⟨rfl, rfl⟩))
        go_ret
        exact ⟨⟨bb, rfl, HBB.out⟩, BW.out⟩
end Go.Proofs.YtfmmmhcpdinhgabGreatDoor
/-
  The program's Formed, of any value.
-/
namespace Go.Proofs.YtfmmmhcpdinhgabGreatDoor
open Go.RowKit Go.Deep PureNet
set_option maxRecDepth 100000

def FormedSays (c : Net) (e : Ending) : Prop := ∃ b : Bool, e = .returned (.bool b) ∧ (b = true ↔ PureNet.Formed c)
theorem FormedSays.no {c : Net} (h : ¬ PureNet.Formed c) : FormedSays c (.returned (.bool false)) := ⟨false, rfl, ⟨fun e => (by cases e), fun e => absurd e h⟩⟩
theorem placed_lines {c : Net} (h : placedB c = true) : (∀ (i : Nat) (g : Ga), c.gates[i]? = some g → lineB g c.gates.length = true) ∧ ∀ o ∈ c.outs, 0 ≤ o ∧ o < (c.gates.length : Int) := by
  simp only [placedB, Bool.and_eq_true, List.all_eq_true, belowB, decide_eq_true_eq] at h
  exact ⟨fun i g hg => h.1 g (List.mem_of_getElem? hg), h.2⟩
theorem formed_of {c : Net} (h1 : c.gates.length ≤ 65536 ∧ c.outs.length ≤ 65536) (h2 : NamedIs c) (h3 : placedB c = true) (h4 : ∀ i, ¬ PureNet.Way c.gates i i) : PureNet.Formed c where
  name := h2.name
  few := h1.1
  fewOuts := h1.2
  lines := fun i g hg => ⟨h2.names g (List.mem_of_getElem? hg), (placed_lines h3).1 i g hg⟩
  apart := fun i j g h hi hj e => h2.apart i j g h (List.getElem?_eq_some_iff.1 hi).1 (List.getElem?_eq_some_iff.1 hj).1 hi hj e
  outs := (placed_lines h3).2
  free := h4

set_option maxHeartbeats 2000000 in
theorem formed_gen (c : Net) (sg so : Option Addr) (cg co : Nat) (w : World) (hc : CirAt w c sg so) (hkd : KindsAt w) (hn : c.name.size ≤ 140737488351232) (hns : ∀ g ∈ c.gates, g.name.size ≤ 140737488351232) (hl : c.gates.length ≤ 1099511627776) (hlo : c.outs.length ≤ 1099511627776) :
    Calls Tryz.prog 7 #[cirV c sg cg so co] w fun e w' => FormedSays c e ∧ Below w.heap.size w w' := by
  by_cases hf : PureNet.Formed c
  · refine (formed_ok c sg so cg co w hc hkd hf).mono ?_
    rintro e w' ⟨rfl, hb⟩
    exact ⟨⟨true, rfl, ⟨fun _ => hf, fun _ => rfl⟩⟩, hb⟩
  obtain ⟨x, hx⟩ : ∃ x, x = w.alloc (Obj.cells #[Value.string c.name, Value.slice sg c.gates.length cg, Value.slice so c.outs.length co] 25) := ⟨_, rfl⟩
  have RX : Hid (x.heap[w.heap.size]? = some (.cells #[Value.string c.name, Value.slice sg c.gates.length cg, Value.slice so c.outs.length co] 25 (0, 0))) := by rw [hx]; exact heap_alloc_new w _
  have BX : Hid (Below w.heap.size w x) := by rw [hx]; exact (Below.refl _ _).alloc (Nat.le_refl _) _
  have CE : Hid (∀ W, Below x.heap.size x W → (∀ j, W.cell? ⟨w.heap.size, j, none⟩ = (#[Value.string c.name, Value.slice sg c.gates.length cg, Value.slice so c.outs.length co] : Array Value)[j]?) ∧ w.heap.size < W.heap.size) := fun W hW => by
    have h2 := (hW.block _ (Array.getElem?_eq_some_iff.1 RX.out).1).trans RX.out
    exact ⟨fun j => cell_row h2 j, (Array.getElem?_eq_some_iff.1 h2).1⟩
  have NO := hid (FormedSays.no hf)
  have C1 := hid (pwithin_any c sg so cg co x)
  have C2 : Hid (∀ W, Below x.heap.size x W → _) := fun W hW => named_any c sg so cg co W ((hc.below BX.out).below hW).gates hn hns hl
  have C3 : Hid (∀ W, Below x.heap.size x W → _) := fun W hW => placed_any c sg so cg co W ((hc.below BX.out).below hW) ((hkd.on BX.out).on hW) hl hlo
  have C4 : Hid (c.gates.length ≤ 65536 → placedB c = true → ∀ W, Below x.heap.size x W → _) := fun h1 h3 W hW => firstInCircle_gen c.gates sg cg c.gates.length W ((hc.below BX.out).below hW).gates ((hkd.on BX.out).on hW) rfl h1 (fun i g hg => ⟨lineB_kind ((placed_lines h3).1 i g hg), fun _ ha => lineB_leans ((placed_lines h3).1 i g hg) ha⟩)
  obtain ⟨d0, hb0⟩ := CE.out x (Below.refl _ _)
  have HX := hid hx
  have HNF := hid hf
  clear hx hc hkd hf hn hns hl hlo
  by_cases h1 : c.gates.length ≤ 65536 ∧ c.outs.length ≤ 65536
  rotate_left 1
  · have HB1 : Hid ((decide (c.gates.length ≤ 65536) && decide (c.outs.length ≤ 65536)) = false) := by
      show _ = _
      rw [Bool.eq_false_iff]
      intro h9
      simp only [Bool.and_eq_true, decide_eq_true_eq] at h9
      exact h1 h9
    clear h1 C2 C3 C4
    go_enter Tryz.func7, Tryz.ntmps7
    go_wp2_with (first
      | (rw [← HX.out])
      | (go_at_call 15; refine Calls.mono C1.out ?_; rintro e w1 ⟨rfl, b1⟩; rw [HB1.out]; have B1 : Hid (Below x.heap.size x w1) := b1; obtain ⟨d1, hb1⟩ := CE.out w1 B1.out; clear b1))
    go_ret
    exact ⟨NO.out, BX.out.trans (B1.out.mono BX.out.size)⟩
  have HB1 : Hid ((decide (c.gates.length ≤ 65536) && decide (c.outs.length ≤ 65536)) = true) := by
    show _ = _
    simp only [Bool.and_eq_true, decide_eq_true_eq]
    exact h1
  have H1 := hid h1
  clear h1
  by_cases h2 : NamedIs c
  rotate_left 1
  · have HB2 := hid h2
    clear h2 C3 C4
    go_enter Tryz.func7, Tryz.ntmps7
    go_wp2_with (first
      | (rw [← HX.out])
      | (go_at_call 16; refine Calls.mono (C2.out w1 B1.out) ?_; rintro e w2 ⟨⟨bb, rfl, hbb⟩, b2⟩; obtain rfl : bb = false := (Bool.eq_false_iff.2 fun h9 => HB2.out (hbb.1 h9)); have B2 : Hid (Below x.heap.size x w2) := B1.out.trans (b2.mono B1.out.size); obtain ⟨d2, hb2⟩ := CE.out w2 B2.out; clear b2 hbb)
      | (go_at_call 15; refine Calls.mono C1.out ?_; rintro e w1 ⟨rfl, b1⟩; rw [HB1.out]; have B1 : Hid (Below x.heap.size x w1) := b1; obtain ⟨d1, hb1⟩ := CE.out w1 B1.out; clear b1))
    go_ret
    exact ⟨NO.out, BX.out.trans (B2.out.mono BX.out.size)⟩
  have HB2 := hid h2
  clear h2
  by_cases h3 : placedB c = true
  rotate_left 1
  · have HB3 : Hid (placedB c = false) := Bool.eq_false_iff.2 h3
    clear h3 C4
    go_enter Tryz.func7, Tryz.ntmps7
    go_wp2_with (first
      | (rw [← HX.out])
      | (go_at_call 17; refine Calls.mono (C3.out w2 B2.out) ?_; rintro e w3 ⟨rfl, b3⟩; rw [HB3.out]; have B3 : Hid (Below x.heap.size x w3) := B2.out.trans (b3.mono B2.out.size); obtain ⟨d3, hb3⟩ := CE.out w3 B3.out; clear b3)
      | (go_at_call 16; refine Calls.mono (C2.out w1 B1.out) ?_; rintro e w2 ⟨⟨bb, rfl, hbb⟩, b2⟩; obtain rfl : bb = true := (hbb.2 HB2.out); have B2 : Hid (Below x.heap.size x w2) := B1.out.trans (b2.mono B1.out.size); obtain ⟨d2, hb2⟩ := CE.out w2 B2.out; clear b2 hbb)
      | (go_at_call 15; refine Calls.mono C1.out ?_; rintro e w1 ⟨rfl, b1⟩; rw [HB1.out]; have B1 : Hid (Below x.heap.size x w1) := b1; obtain ⟨d1, hb1⟩ := CE.out w1 B1.out; clear b1))
    go_ret
    exact ⟨NO.out, BX.out.trans (B3.out.mono BX.out.size)⟩
  have HB3 : Hid (placedB c = true) := h3
  have CR : Hid (∀ r, CircleIs c.gates r → (r == -1) = false) := fun r hr => by
    rcases hr with ⟨_, hr⟩ | ⟨i, rfl, _⟩
    · exact absurd (formed_of H1.out HB2.out h3 hr) HNF.out
    · exact beq_eq_false_iff_ne.2 (by omega)
  have C5 := hid (C4.out H1.out.1 h3)
  clear h3 C4
  have hgo : Calls Tryz.prog 7 #[cirV c sg cg so co] w fun e w' => FormedSays c e ∧ Below w.heap.size w w' := by
    go_enter Tryz.func7, Tryz.ntmps7
    go_wp2_with (first
      | (rw [← HX.out])
      | (go_at_call 18; refine Calls.mono (C5.out w3 B3.out) ?_; rintro e w4 ⟨⟨r, rfl, hr⟩, b4⟩; have hr2 : (r == -1) = false := (CR.out r hr); have B4 : Hid (Below x.heap.size x w4) := B3.out.trans (b4.mono B3.out.size); clear b4 hr)
      | (go_at_call 17; refine Calls.mono (C3.out w2 B2.out) ?_; rintro e w3 ⟨rfl, b3⟩; rw [HB3.out]; have B3 : Hid (Below x.heap.size x w3) := B2.out.trans (b3.mono B2.out.size); obtain ⟨d3, hb3⟩ := CE.out w3 B3.out; clear b3)
      | (go_at_call 16; refine Calls.mono (C2.out w1 B1.out) ?_; rintro e w2 ⟨⟨bb, rfl, hbb⟩, b2⟩; obtain rfl : bb = true := (hbb.2 HB2.out); have B2 : Hid (Below x.heap.size x w2) := B1.out.trans (b2.mono B1.out.size); obtain ⟨d2, hb2⟩ := CE.out w2 B2.out; clear b2 hbb)
      | (go_at_call 15; refine Calls.mono C1.out ?_; rintro e w1 ⟨rfl, b1⟩; rw [HB1.out]; have B1 : Hid (Below x.heap.size x w1) := b1; obtain ⟨d1, hb1⟩ := CE.out w1 B1.out; clear b1))
    go_ret
    exact ⟨NO.out, BX.out.trans (B4.out.mono BX.out.size)⟩
  exact hgo
end Go.Proofs.YtfmmmhcpdinhgabGreatDoor
/-
  Print, the landed one and the document's.
-/
namespace Go.Proofs.YtfmmmhcpdinhgabGreatDoor
open Go.RowKit Go.Deep PureNet
set_option maxRecDepth 100000

theorem name_size {s : ByteArray} (h : nameB s = true) : (bl s).length ≤ 32 := by
  unfold nameB at h
  show s.data.toList.length ≤ 32
  cases hl : s.data.toList with
  | nil => simp
  | cons a t =>
    rw [hl] at h
    simp only [nameL, Bool.and_eq_true, decide_eq_true_eq] at h
    simp only [List.length_cons]
    omega
theorem flat_le {α : Type} (f : α → List UInt8) (m : Nat) : ∀ (l : List α), (∀ x ∈ l, (f x).length ≤ m) → (l.flatMap f).length ≤ l.length * m
  | [], _ => by simp
  | a :: t, h => by
    have h1 := h a (by simp)
    have h2 := flat_le f m t (fun x hx => h x (by simp [hx]))
    simp only [List.flatMap_cons, List.length_append, List.length_cons, Nat.succ_mul]
    omega
theorem nmAt_le {c : Net} (h : PureNet.Formed c) (k : Int) : (bl (nmAt c k)).length ≤ 32 := by
  unfold nmAt
  cases hg : c.gates[k.toNat]? with
  | none => simp [bl]
  | some g => exact name_size (h.lines _ g hg).1
theorem words_le {T : Nat → ByteArray} {c : Net} (h : PureNet.Formed c) (hT : ∀ k, (bl (T k)).length ≤ 16) (g : Ga) (hg : nameB g.name = true) : (bl (wordsT T c g)).length ≤ 200 := by
  have h1 := name_size hg
  have ha := nmAt_le h g.a
  have hb := nmAt_le h g.b
  have hc := nmAt_le h g.c
  have ht := hT g.op.toNat
  simp only [bl] at h1 ha hb hc ht
  unfold wordsT
  by_cases h2 : g.kind = 2
  · simp [h2, bl] at h1 ha hb hc ht ⊢
    omega
  · by_cases h3 : g.kind = 3
    · by_cases h4 : g.op = 1
      · simp [h3, h4, bl] at h1 ha hb hc ht ⊢
        omega
      · simp [h3, h4, bl] at h1 ha hb hc ht ⊢
        omega
    · by_cases h4 : g.kind = 4
      · simp [h4, bl] at h1 ha hb hc ht ⊢
        omega
      · simp [h2, h3, h4, bl] at h1 ha hb hc ht ⊢
        omega
theorem text_small {T : Nat → ByteArray} {c : Net} (h : PureNet.Formed c) (hT : ∀ k, (bl (T k)).length ≤ 16) : (textT T c).length ≤ 140737488355328 := by
  have h1 := flat_le (lineT T c) 201 c.gates (fun g hg => by
    obtain ⟨i, hi⟩ := List.getElem?_of_mem hg
    have := words_le h hT g (h.lines i g hi).1
    simp only [lineT, List.length_append, List.length_cons, List.length_nil]
    omega)
  have h2 := flat_le (outT c) 40 c.outs (fun k _ => by
    have := nmAt_le h k
    simp only [outT, List.length_append, List.length_cons, List.length_nil]
    omega)
  have h3 := name_size h.name
  have h4 := h.few
  have h5 := h.fewOuts
  unfold textT headT
  simp only [List.length_append, List.length_cons, List.length_nil]
  omega

/-- what Print answers. -/
def PrintIs (T : Nat → ByteArray) (c : Net) (s : List UInt8) (e : Int) : Prop :=
  (¬ PureNet.Formed c ∧ s = [] ∧ e = 144) ∨ (PureNet.Formed c ∧ 1048576 < (textT T c).length ∧ s = [] ∧ e = 5) ∨ (PureNet.Formed c ∧ (textT T c).length ≤ 1048576 ∧ s = textT T c ∧ e = 0)

set_option maxHeartbeats 2000000 in
theorem print_any (T : Nat → ByteArray) (hT : ∀ k, (bl (T k)).length ≤ 16) (c : Net) (sg so : Option Addr) (cg co : Nat) (w : World) (hc : CirAt w c sg so) (hkd : KindsAt w) (hkw : KwAt w) (hop : OpsAt w 2 T) (hn : c.name.size ≤ 140737488351232) (hns : ∀ g ∈ c.gates, g.name.size ≤ 140737488351232) (hl : c.gates.length ≤ 1099511627776) (hlo : c.outs.length ≤ 1099511627776) (s : List UInt8) (er : Int) (hP : PrintIs T c s er) :
    Calls Tryz.prog 6 #[cirV c sg cg so co] w fun e w' => e = .returned (.tuple #[str s, .int .i64 er]) ∧ Below w.heap.size w w' := by
  obtain ⟨x, hx⟩ : ∃ x, x = w.alloc (Obj.cells (#[Value.string c.name, Value.slice sg c.gates.length cg, Value.slice so c.outs.length co] : Array Value) 25) := ⟨_, rfl⟩
  have R1 : x.heap[w.heap.size]? = some (.cells (#[Value.string c.name, Value.slice sg c.gates.length cg, Value.slice so c.outs.length co] : Array Value) 25 (0, 0)) := by rw [hx]; exact heap_alloc_new w _
  have BX : Hid (Below w.heap.size w x) := by rw [hx]; exact (Below.refl _ _).alloc (Nat.le_refl _) _
  have FM := hid (formed_gen c sg so cg co x (hc.below BX.out) (hkd.on BX.out) hn hns hl hlo)
  have TX : Hid (∀ W, Below x.heap.size x W → PureNet.Formed c → Calls Tryz.prog 14 #[cirV c sg cg so co] W fun e w' => e = .returned (str (textT T c)) ∧ Below W.heap.size W w') := fun W hW hf => write_text T c sg so cg co W ((hc.below BX.out).below hW) ((hkd.on BX.out).on hW) ((hkw.on hkd.pos BX.out).on (Nat.lt_of_lt_of_le hkd.pos BX.out.size) hW) ((hop.on BX.out).on hW) (fun i g hg => (hf.lines i g hg).2) hf.outs hl hlo (text_small hf hT)
  have q1 := fun j => cell_row R1 j
  have l1 := (Array.getElem?_eq_some_iff.1 R1).1
  have QW : Hid (∀ W, Below x.heap.size x W → (∀ j, W.cell? ⟨w.heap.size, j, none⟩ = (#[Value.string c.name, Value.slice sg c.gates.length cg, Value.slice so c.outs.length co] : Array Value)[j]?) ∧ w.heap.size < W.heap.size) := fun W hW => by
    have r := (hW.block _ l1).trans R1
    exact ⟨fun j => cell_row r j, (Array.getElem?_eq_some_iff.1 r).1⟩
  have HX := hid hx
  clear hx hc R1 hn hns hl hlo hkd hkw hop
  obtain ⟨X, hX⟩ : ∃ X, X = textT T c := ⟨_, rfl⟩
  unfold PrintIs at hP
  rw [← hX] at hP TX
  clear hX
  rcases hP with ⟨hf, rfl, rfl⟩ | ⟨hf, hlen, rfl, rfl⟩ | ⟨hf, hlen, rfl, rfl⟩
  · go_enter Tryz.func6, Tryz.ntmps6
    go_wp2_with (first | (rw [← HX.out]) | (go_at_call 7; refine FM.out.mono ?_; rintro e w1 ⟨⟨b, rfl, hb⟩, b1⟩; obtain rfl : b = false := (by cases b; rfl; exact absurd (hb.1 rfl) hf); have B1 : Hid (Below w.heap.size w w1) := BX.out.trans (b1.mono BX.out.size); clear b1 hb))
    go_ret2
    exact ⟨rfl, B1.out⟩
  · have HF := hid hf
    clear hf
    go_enter Tryz.func6, Tryz.ntmps6
    go_wp2_with (first | (rw [← HX.out]) | (have q := B1; clear q; go_at_call 14; refine (TX.out w1 B1.out HF.out).mono ?_; rintro e w2 ⟨rfl, b2⟩; have B2 : Hid (Below w.heap.size w w2) := BX.out.trans ((B1.out.trans (b2.mono B1.out.size)).mono BX.out.size); clear b2) | (go_at_call 7; refine FM.out.mono ?_; rintro e w1 ⟨⟨b, rfl, hb⟩, b1⟩; obtain rfl : b = true := hb.2 HF.out; obtain ⟨q2, l2⟩ := QW.out w1 b1; have B1 := hid b1; clear b1 hb))
    go_ret2
    exact ⟨rfl, B2.out⟩
  · have HF := hid hf
    clear hf
    go_enter Tryz.func6, Tryz.ntmps6
    go_wp2_with (first | (rw [← HX.out]) | (have q := B1; clear q; go_at_call 14; refine (TX.out w1 B1.out HF.out).mono ?_; rintro e w2 ⟨rfl, b2⟩; have B2 : Hid (Below w.heap.size w w2) := BX.out.trans ((B1.out.trans (b2.mono B1.out.size)).mono BX.out.size); clear b2) | (go_at_call 7; refine FM.out.mono ?_; rintro e w1 ⟨⟨b, rfl, hb⟩, b1⟩; obtain rfl : b = true := hb.2 HF.out; obtain ⟨q2, l2⟩ := QW.out w1 b1; have B1 := hid b1; clear b1 hb))
    go_ret2
    exact ⟨rfl, B2.out⟩

end Go.Proofs.YtfmmmhcpdinhgabGreatDoor
/-
  A formed circuit's text, respelt, is read back as it. Pure, then Parse.
-/
namespace Go.Proofs.YtfmmmhcpdinhgabGreatDoor
open Go.RowKit Go.Deep PureNet PureRd ShfKit
set_option maxRecDepth 100000

theorem sep_join : ∀ (l : List (List UInt8)), sepT l = joinW l
  | [] => rfl
  | [w] => by simp [sepT, joinW]
  | w :: v :: r => by
    have := sep_join (v :: r)
    simp only [sepT, joinW, List.flatMap_cons, List.cons_append] at this ⊢
    rw [← this]
/-- a table's words as strings. -/
def tbOf (T : Nat → List UInt8) : Nat → ByteArray := fun k => ⟨(T k).toArray⟩
/-- the operators' table is as it should be. -/
structure TabOk (T : Nat → List UInt8) : Prop where
  plain : ∀ k, k < 16 → PlainA (T k)
  op : ∀ k, k < 16 → opF T (T k) = (k : Int)
  small : ∀ k, (T k).length ≤ 16
theorem nm_G (c : Net) (k : Int) : bl (nmAt c k) = nmG c.gates k.toNat := by
  unfold nmAt nmG
  cases c.gates[k.toNat]? <;> rfl
theorem line_G (T : Nat → List UInt8) (c : Net) (g : Ga) (hl : lineB g c.gates.length = true) : lineW (tbOf T) c g = wordsG T c.gates g (bl g.name) := by
  have hk := lineB_kind hl
  simp only [lineB, Bool.and_eq_true, decide_eq_true_eq] at hl
  obtain ⟨⟨⟨⟨_, _, o0, o1⟩, _⟩, _⟩, _⟩ := hl
  unfold lineW frontW usedL wordsG usesG kw
  rcases (show g.kind = 1 ∨ g.kind = 2 ∨ g.kind = 3 ∨ g.kind = 4 by omega) with e | e | e | e
  · simp [e]
  · simp [e, nm_G, tbOf, bl]
  · simp only [mostOp, e] at o1
    have : g.op = 0 ∨ g.op = 1 := by
      simp at o1
      omega
    rcases this with q | q
    · simp [e, nm_G, fvW, q]
    · simp [e, nm_G, fvW, q]
  · simp [e, nm_G]
theorem flatMap_eq {α : Type} {f g : α → List UInt8} : ∀ {l : List α}, (∀ x ∈ l, f x = g x) → l.flatMap f = l.flatMap g := by
  intro l
  induction l with
  | nil => intro _; rfl
  | cons a t ih =>
    intro h
    rw [List.flatMap_cons, List.flatMap_cons, h a (by simp), ih (fun x hx => h x (List.mem_cons_of_mem _ hx))]
theorem text_words (T : Nat → List UInt8) (c : Net) (hl : ∀ (i : Nat) (g : Ga), c.gates[i]? = some g → lineB g c.gates.length = true) : textT (tbOf T) c = textW (wordsN T c.gates (bl c.name) c.outs) := by
  have h1 : c.gates.flatMap (lineT (tbOf T) c) = (c.gates.map (fun g => wordsG T c.gates g (bl g.name))).flatMap (fun l => joinW l ++ [10]) := by
    rw [List.flatMap_map]
    refine flatMap_eq fun g hg => ?_
    obtain ⟨i, hi⟩ := List.getElem?_of_mem hg
    unfold lineT
    rw [← words_line, line_G T c g (hl i g hi), sep_join]
  have h2 : c.outs.flatMap (outT c) = (c.outs.map (fun a => [[111, 117, 116, 112, 117, 116], nmG c.gates a.toNat])).flatMap (fun l => joinW l ++ [10]) := by
    rw [List.flatMap_map]
    refine flatMap_eq fun a _ => ?_
    unfold outT
    rw [nm_G]
    rfl
  unfold textT textW wordsN headT
  rw [h1, h2]
  simp [joinW, bl, List.flatMap_append]
/-- all of a formed circuit that its reading asks for, circles aside. -/
structure Named (c : Net) : Prop where
  name : nameB c.name = true
  few : c.gates.length ≤ 65536
  fewOuts : c.outs.length ≤ 65536
  lines : ∀ (i : Nat) (g : Ga), c.gates[i]? = some g → nameB g.name = true ∧ lineB g c.gates.length = true
  apart : ∀ (i j : Nat) (g h : Ga), c.gates[i]? = some g → c.gates[j]? = some h → g.name = h.name → i = j
  outs : ∀ o ∈ c.outs, 0 ≤ o ∧ o < (c.gates.length : Int)
theorem named_of {c : Net} (h : PureNet.Formed c) : Named c := ⟨h.name, h.few, h.fewOuts, h.lines, h.apart, h.outs⟩
theorem Named.nm {c : Net} (h : Named c) {k : Nat} (hk : k < c.gates.length) : nameL (nmG c.gates k) = true := by
  rw [nmG_at (List.getElem?_eq_getElem hk)]
  exact (h.lines k _ (List.getElem?_eq_getElem hk)).1
theorem Named.nmI {c : Net} (h : Named c) {v : Int} (hv : InR c.gates v) : nameL (nmG c.gates v.toNat) = true := h.nm (by have := hv.1; have := hv.2; omega)
theorem Named.nmApart {c : Net} (h : Named c) : NmApart c.gates := fun j k hj hk e => by
  rw [nmG_at (List.getElem?_eq_getElem hj), nmG_at (List.getElem?_eq_getElem hk)] at e
  refine h.apart j k _ _ (List.getElem?_eq_getElem hj) (List.getElem?_eq_getElem hk) ?_
  apply ByteArray.ext
  exact Array.ext' e
theorem Named.fits {c : Net} (h : Named c) : ∀ g ∈ c.gates, FitsG c.gates g := fun g hg => by
  obtain ⟨i, hi⟩ := List.getElem?_of_mem hg
  have hl := (h.lines i g hi).2
  have hk := lineB_kind hl
  simp only [lineB, Bool.and_eq_true, decide_eq_true_eq, fieldB] at hl
  obtain ⟨⟨⟨_, ha⟩, hb⟩, hc⟩ := hl
  refine ⟨hk, fun e => ?_, fun e => ?_, fun e => ?_, fun e => ?_⟩
  · simp [e] at ha hb hc; exact ⟨ha, hb, hc⟩
  · simp [e] at ha hb hc; exact ⟨ha, hb, hc⟩
  · simp [e] at ha hb hc; exact ⟨ha, hb, hc⟩
  · simp [e] at ha hb hc; exact ⟨ha, hb, hc⟩
theorem Named.lnv {T : Nat → List UInt8} {c : Net} (h : Named c) (hT : TabOk T) : ∀ g ∈ c.gates, LnV T c.gates g ∧ (g.kind = 2 → g.op.toNat < 16) := fun g hg => by
  have hf := h.fits g hg
  obtain ⟨i, hi⟩ := List.getElem?_of_mem hg
  have hl := (h.lines i g hi).2
  simp only [lineB, Bool.and_eq_true, decide_eq_true_eq] at hl
  obtain ⟨⟨⟨⟨_, _, o0, o1⟩, _⟩, _⟩, _⟩ := hl
  have o16 : g.kind = 2 → g.op.toNat < 16 := fun e => by
    simp [mostOp, e] at o1
    omega
  refine ⟨⟨hf.kind, fun e => ?_, fun e => ?_, fun e => ?_, fun u hu => ?_⟩, o16⟩
  · rcases e with e | e <;> simp [mostOp, e] at o1 <;> omega
  · have := hT.op g.op.toNat (o16 e)
    rw [this]
    omega
  · simp [mostOp, e] at o1
    omega
  · have hk := hf.kind
    unfold usesG at hu
    rcases (show g.kind = 1 ∨ g.kind = 2 ∨ g.kind = 3 ∨ g.kind = 4 by omega) with e | e | e | e
    · simp [e] at hu
    · simp [e] at hu
      obtain ⟨z1, z2, _⟩ := hf.two e
      rcases hu with rfl | rfl
      · exact h.nmI z1
      · exact h.nmI z2
    · simp [e] at hu
      obtain ⟨z1, _⟩ := hf.three e
      rw [hu]
      exact h.nmI z1
    · simp [e] at hu
      obtain ⟨z1, z2, z3⟩ := hf.four e
      rcases hu with rfl | rfl | rfl
      · exact h.nmI z1
      · exact h.nmI z2
      · exact h.nmI z3
theorem Named.done {T : Nat → List UInt8} {c : Net} (h : Named c) (hT : TabOk T) (b : List UInt8) (hb : Resp (textT (tbOf T) c) b) : Done c.gates (bl c.name) c.outs (readLinesF T b PureRd.start) ∧ ∀ x ∈ b, x.toNat < 128 := by
  rw [text_words T c (fun i g hg => (h.lines i g hg).2)] at hb
  exact resp_done b hb hT.plain (fun g hg => (h.lnv hT g hg).2) h.name h.nmApart (fun g hg => (h.lnv hT g hg).1) (fun g hg => by
    obtain ⟨i, hi⟩ := List.getElem?_of_mem hg
    exact (h.lines i g hi).1) h.few (fun a ha => h.nmI (h.outs a ha)) h.fewOuts
theorem Named.conn {T : Nat → List UInt8} {c : Net} (h : Named c) (hT : TabOk T) (b : List UInt8) (hb : Resp (textT (tbOf T) c) b) : connF (readLinesF T b PureRd.start) (readLinesF T b PureRd.start).lines [] [] = (none, c.gates, c.outs) :=
  (h.done hT b hb).1.conn h.nmApart h.fits h.outs
theorem read_back {T : Nat → List UInt8} {c : Net} (hf : PureNet.Formed c) (hT : TabOk T) (b : List UInt8) (hb : Resp (textT (tbOf T) c) b) {B : Nat} {e : Ending} {W : World} (hr : ReadIs B T b e W) :
    ∃ sg cg so co, e = .returned (.tuple #[cirV c sg cg so co, .agg #[.int .i64 0, .int .i64 0, .int .i64 0]]) ∧ CirAt W c sg so := by
  have hd := ((named_of hf).done hT b hb).1
  have hc := (named_of hf).conn hT b hb
  rcases hr with ⟨p, hp, _⟩ | ⟨_, y, gs, os, hy, _⟩ | ⟨_, gs, os, k, hy, hci, hr⟩
  · rw [hd.fault] at hp
    cases hp
  · rw [hc] at hy
    cases hy
  · rw [hc] at hy
    simp only [Prod.mk.injEq, true_and] at hy
    obtain ⟨rfl, rfl⟩ := hy
    have hk : k = -1 := by
      rcases hci with ⟨h1, _⟩ | ⟨i, _, _, h2, _⟩
      · exact h1
      · exact absurd h2 (hf.free i)
    rcases hr with ⟨h1, _⟩ | ⟨_, sg, cg, so, co, he, h1, h2, _⟩
    · exact absurd hk h1
    · rw [hd.cname] at he
      exact ⟨sg, cg, so, co, he, ⟨h1, h2⟩⟩
theorem parse_back {T : Nat → List UInt8} {c : Net} (hf : PureNet.Formed c) (hT : TabOk T) (b : List UInt8) (hb : Resp (textT (tbOf T) c) b) (hl : b.length ≤ 1048576) (w : World) (hops : OpsT w T) (hkd : KindsAt w) :
    Calls Tryz.prog 8 #[str b] w fun e W => (∃ sg cg so co, e = .returned (.tuple #[cirV c sg cg so co, .agg #[.int .i64 0, .int .i64 0, .int .i64 0]]) ∧ ∀ W', (∀ k, w.heap.size ≤ k → k < W.heap.size → W'.heap[k]? = W.heap[k]?) → CirAt W' c sg so) ∧ Below w.heap.size w W := by
  refine (parse_any T b w hl ((named_of hf).done hT b hb).2 hops hkd).mono fun e W ⟨h1, h2⟩ => ⟨?_, h2⟩
  obtain ⟨sg, cg, so, co, he, _⟩ := read_back hf hT b hb h1
  refine ⟨sg, cg, so, co, he, fun W' hk => ?_⟩
  obtain ⟨sg', cg', so', co', he', hc'⟩ := read_back hf hT b hb (h1.later (Nat.le_refl _) hk)
  rw [he] at he'
  simp only [Ending.returned.injEq, Value.tuple.injEq, cirV, Array.mk.injEq, List.cons.injEq, Value.agg.injEq, Value.slice.injEq, true_and, and_true] at he'
  obtain ⟨⟨e1, _⟩, e2, _⟩ := he'
  rw [e1, e2]
  exact hc'
end Go.Proofs.YtfmmmhcpdinhgabGreatDoor
