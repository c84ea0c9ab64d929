import Derived.Test.YtfmmmhcpdinhgaaDoorZ14
/-
  A player's get and step.
-/
namespace PureNet
/-- what a line of the order does to the values. -/
def playOne (l : List Ga) (v : List Bool) (x : Nat) : List Bool := match l[x]? with
  | some g => if g.kind = 2 then v.set x (tab g.op (valAt v g.a) (valAt v g.b)) else if g.kind = 4 then v.set x (if valAt v g.a then valAt v g.b else valAt v g.c) else v
  | none => v
def playL (l : List Ga) : List Bool → List Nat → List Bool
  | v, [] => v
  | v, x :: r => playL l (playOne l v x) r
theorem playOne_len (l : List Ga) (v : List Bool) (x : Nat) : (playOne l v x).length = v.length := by
  unfold playOne
  cases l[x]? with
  | none => rfl
  | some g =>
    dsimp only
    split
    · simp
    · split <;> simp
theorem playL_len (l : List Ga) : ∀ (r : List Nat) (v : List Bool), (playL l v r).length = v.length
  | [], _ => rfl
  | x :: r, v => by rw [playL, playL_len l r, playOne_len]
theorem playL_snoc (l : List Ga) : ∀ (r : List Nat) (v : List Bool) (x : Nat), playL l v (r ++ [x]) = playOne l (playL l v r) x
  | [], _, _ => rfl
  | y :: r, v, x => by
    show playL l (playOne l v y) (r ++ [x]) = _
    rw [playL_snoc l r]
    rfl
end PureNet
namespace Go.Proofs.YtfmmmhcpdinhgaaDoor
open Go.RowKit Go.Deep PureNet ShfKit
set_option maxRecDepth 100000

set_option maxHeartbeats 2000000 in
theorem get_ok (d : Pn) (v : List Bool) (L : List Int) (s : Option Addr) (cl : Nat) (w : World) (h : Pl w d v) (hL : CellsAt w s (nu L)) (hl : L.length ≤ 65536) (hr : ∀ x ∈ L, 0 ≤ x ∧ x < (d.c.gates.length : Int)) :
    Calls Tryd.prog 69 #[.pointer (some ⟨d.p, 0, none⟩), .slice s L.length cl] w fun e w' => ∃ b, e = .returned (.slice (some ⟨b, 0, none⟩) L.length L.length) ∧ w.heap.size ≤ b ∧ w'.heap[b]? = some (.cells (bo (L.map (valAt v))).toArray 4 (0, 0)) ∧ Below w.heap.size w w' := by
  obtain ⟨m, hm⟩ : ∃ m, m = L.length := ⟨_, rfl⟩
  have hmk : ∀ W : World, (Instr.makeSlice 29 (.int .i64 (m : Int)) (.int .i64 (m : Int))).run Tryd.prog W = .ok (.slice (some ⟨W.heap.size, 0, none⟩) m m) (W.alloc (.cells (madeCells #[.bool false] m) 4)) := fun W =>
    run_make_row' (P := Tryd.prog) 29 4 (.bool false) 1 Tryd.underlying29 info4 rfl .i64 .i64 m (by omega) (by omega) W
  have H0 := hid h
  have HL := hid hL
  have HR := hid hr
  have HM := hid hm
  have hmle : m ≤ 65536 := by omega
  rw [← hm]
  clear h hL hr hm hl
  go_enter Tryd.func69, Tryd.ntmps69
  go_wp2
  obtain ⟨x, hx⟩ : ∃ x, x = w.alloc (.cells (madeCells #[.bool false] m) 4) := ⟨_, rfl⟩
  have BX : Hid (Below w.heap.size w x) := by rw [hx]; exact (Below.refl _ _).alloc (Nat.le_refl _) _
  have R0 : Hid (x.heap[w.heap.size]? = some (.cells (bo (List.replicate m false)).toArray 4 (0, 0))) := by
    show _ = _
    rw [hx, heap_alloc_new]
    congr 2
    apply Array.ext'
    rw [toList_madeCells_one]
    simp [bo]
  rw [← hx]
  clear hx hmk
  go_loopw [13] (fun iv W => ∃ i : Nat, i ≤ m ∧ iv = .int .i64 (i : Int) ∧ Hid (∃ M : List Bool, M.length = m ∧ W.heap[w.heap.size]? = some (.cells (bo M).toArray 4 (0, 0)) ∧ Below w.heap.size w W ∧ ∀ j y, j < i → L[j]? = some y → M[j]? = some (valAt v y))) (fun iv _ => m - (intOf iv).toNat)
  case atStart => exact ⟨0, Nat.zero_le _, rfl, _, by simp, R0.out, BX.out, fun j y hj => by omega⟩
  case round =>
    clear R0 BX
    obtain ⟨i, hi, rfl, HQ⟩ := hrel
    obtain ⟨M, hMl, hrow, hbw, hall⟩ := HQ.out
    clear HQ
    by_cases hlt : i < m
    · obtain ⟨y, hy⟩ : ∃ y, L[i]? = some y := ⟨_, List.getElem?_eq_getElem (by rw [← HM.out]; exact hlt)⟩
      obtain ⟨hy0, hy1⟩ := HR.out y (List.mem_of_getElem? hy)
      obtain ⟨a, rfl⟩ : ∃ a : Nat, y = (a : Int) := ⟨y.toNat, by omega⟩
      have hal : a < d.c.gates.length := by omega
      have hpl := H0.out.on hbw
      obtain ⟨g, o, rfl, hgs, hcy⟩ := num_at (HL.out.below hbw) i _ hy
      have c0 := hpl.cell
      have hp0 := hpl.size
      obtain ⟨hva, _, hvs⟩ := hpl.val hal
      have hfz := unfrozen_row hrow i
      have hci : wr.cell? ⟨w.heap.size, i, none⟩ = some (.bool (M.getD i false)) := by
        rw [cell_row hrow]
        simp [bo, List.getD_eq_getElem?_getD, List.getElem?_eq_getElem (show i < M.length by omega)]
      have hbs := (Array.getElem?_eq_some_iff.1 hrow).1
      have NX : Hid (∃ M' : List Bool, M'.length = m ∧ (wr.setCell ⟨w.heap.size, i, none⟩ (.bool (valAt v (a : Int)))).heap[w.heap.size]? = some (.cells (bo M').toArray 4 (0, 0)) ∧ Below w.heap.size w (wr.setCell ⟨w.heap.size, i, none⟩ (.bool (valAt v (a : Int)))) ∧ ∀ j y, j < i + 1 → L[j]? = some y → M'[j]? = some (valAt v y)) := by
        refine ⟨M.set i (valAt v (a : Int)), by rw [List.length_set]; exact hMl, by rw [row_set hrow, bo_set], hbw.setCell (Nat.le_refl _) _, fun j z hj hz => ?_⟩
        rw [List.getElem?_set]
        by_cases e : i = j
        · rw [if_pos e, if_pos (by omega)]
          rw [← e, hy] at hz
          obtain rfl := Option.some.inj hz
          rfl
        · rw [if_neg e]
          exact hall j z (by omega) hz
      clear hpl hy hrow hbw hall hMl
      go_wp2
      exact ⟨⟨i + 1, hlt, by go_num, NX.out⟩, by simp [intOf]; omega⟩
    · have FI : Hid (wr.heap[w.heap.size]? = some (.cells (bo (L.map (valAt v))).toArray 4 (0, 0))) := by
        have e : M = L.map (valAt v) := by
          apply List.ext_getElem?
          intro j
          by_cases hj : j < L.length
          · rw [hall j _ (by have := HM.out; omega) (List.getElem?_eq_getElem hj)]
            simp [hj]
          · rw [List.getElem?_eq_none (by have := HM.out; omega), List.getElem?_eq_none (by simp; omega)]
        rw [← e]
        exact hrow
      have BW := hid hbw
      clear hrow hbw hall hMl
      go_wp2
      go_ret
      exact ⟨_, rfl, Nat.le_refl _, FI.out, BW.out⟩

/-- a player that is sound. -/
structure Good (d : Pn) : Prop where
  few : d.c.gates.length ≤ 65536
  fewO : d.c.outs.length ≤ 65536
  fewI : d.ins.length ≤ 65536
  fewL : d.las.length ≤ 65536
  fewS : d.srcs.length ≤ 65536
  fewR : d.ord.length ≤ 65536
  line : ∀ (i : Nat) (g : Ga), d.c.gates[i]? = some g → lineB g d.c.gates.length = true
  ins : ∀ x ∈ d.ins, x < d.c.gates.length
  las : ∀ x ∈ d.las, x < d.c.gates.length
  ord : ∀ x ∈ d.ord, x < d.c.gates.length
  srcs : ∀ x ∈ d.srcs, 0 ≤ x ∧ x < (d.c.gates.length : Int)
  outs : ∀ x ∈ d.c.outs, 0 ≤ x ∧ x < (d.c.gates.length : Int)
theorem line_two {g : Ga} {n : Nat} (h : lineB g n = true) (hk : g.kind = 2) : (0 ≤ g.op ∧ g.op ≤ 15) ∧ (0 ≤ g.a ∧ g.a < (n : Int)) ∧ 0 ≤ g.b ∧ g.b < (n : Int) := by
  obtain ⟨h1, h2, _⟩ := line_parts h (k := 2) hk (by omega) (by omega)
  have ha := h2 g.a (by simp [usesN])
  have hb := h2 g.b (by simp [usesN])
  simp [mostN] at h1
  exact ⟨h1, ha, hb⟩
theorem line_four {g : Ga} {n : Nat} (h : lineB g n = true) (hk : g.kind = 4) : (0 ≤ g.a ∧ g.a < (n : Int)) ∧ (0 ≤ g.b ∧ g.b < (n : Int)) ∧ 0 ≤ g.c ∧ g.c < (n : Int) := by
  obtain ⟨_, h2, _⟩ := line_parts h (k := 4) hk (by omega) (by omega)
  exact ⟨h2 g.a (by simp [usesN]), h2 g.b (by simp [usesN]), h2 g.c (by simp [usesN])⟩

set_option maxHeartbeats 8000000 in
theorem step_ok (d : Pn) (v0 I La : List Bool) (si sl : Option Addr) (ci cl : Nat) (w : World) (h : Pl w d v0) (hI : CellsAt w si (bo I)) (hLa : CellsAt w sl (bo La)) (hIl : I.length = d.ins.length) (hLl : La.length = d.las.length) (hfI : Off (bo I) si d.vb) (hfL : Off (bo La) sl d.vb) (hG : Good d) :
    Calls Tryd.prog 43 #[.pointer (some ⟨d.p, 0, none⟩), .slice si d.ins.length ci, .slice sl d.las.length cl] w fun e w' => ∃ b1 b2, e = .returned (.tuple #[.slice (some ⟨b1, 0, none⟩) d.c.outs.length d.c.outs.length, .slice (some ⟨b2, 0, none⟩) d.srcs.length d.srcs.length]) ∧ w.heap.size ≤ b1 ∧ w.heap.size ≤ b2 ∧
      w'.heap[b1]? = some (.cells (bo (d.c.outs.map (valAt (playL d.c.gates (setAll (setAll v0 d.ins I) d.las La) d.ord)))).toArray 4 (0, 0)) ∧ w'.heap[b2]? = some (.cells (bo (d.srcs.map (valAt (playL d.c.gates (setAll (setAll v0 d.ins I) d.las La) d.ord)))).toArray 4 (0, 0)) ∧
      Pl w' d (playL d.c.gates (setAll (setAll v0 d.ins I) d.las La) d.ord) ∧ w.grownBy w' (some d.vb) ∧ b1 ≠ b2 := by
  have S1 := hid (set_ok d v0 d.ins I d.s2 si d.c2 ci w h h.ins hI (by rw [hIl]) hG.fewI h.far2 hfI hG.ins)
  have S2 : Hid (∀ W, w.grownBy W (some d.vb) → Pl W d (setAll v0 d.ins I) → _) := fun W hW hP => set_ok d (setAll v0 d.ins I) d.las La d.s3 sl d.c3 cl W hP hP.las (hLa.grown2 hW hfL) (by rw [hLl]) hG.fewL h.far3 hfL hG.las
  have H0 := hid h
  have GD := hid hG
  have hfr := hG.fewR
  have hfew := hG.few
  have c0 := h.cell
  have hp0 := h.size
  obtain ⟨v2, hv2⟩ : ∃ v2, v2 = setAll (setAll v0 d.ins I) d.las La := ⟨_, rfl⟩
  have HV2 := hid hv2
  rw [← hv2] at S2 ⊢
  clear h hI hLa hIl hLl hfI hfL hG hv2
  go_enter Tryd.func43, Tryd.ntmps43
  go_wp2_with (first
    | (have q := P1; clear q; go_at_call 66; refine Calls.mono (S2.out w1 G1.out P1.out) ?_; rintro e w2 ⟨⟨u2, rfl⟩, hp2, hg2⟩; have P2 := hid hp2; have G2 : Hid (w.grownBy w2 (some d.vb)) := grown_trans G1.out hg2; have c2 := hp2.cell; have hs2 := hp2.size; clear hp2 hg2)
    | (go_at_call 66; refine Calls.mono S1.out ?_; rintro e w1 ⟨⟨u1, rfl⟩, hp1, hg1⟩; have P1 := hid hp1; have G1 := hid hg1; have c1 := hp1.cell; have hs1 := hp1.size; clear hp1 hg1))
  clear c0 hp0 c1 hs1 S1 S2 H0 P1 G1
  obtain ⟨L, hL⟩ : ∃ L, L = d.c.gates := ⟨_, rfl⟩
  go_loopg [30] d.ord.length (fun k iv W => ∃ i : Nat, i ≤ d.ord.length ∧ k = d.ord.length - i ∧ iv = .int .i64 (i : Int) ∧ Hid (Pl W d (playL d.c.gates v2 (d.ord.take i)) ∧ w.grownBy W (some d.vb)))
  case atStart => exact ⟨0, Nat.zero_le _, rfl, rfl, P2.out, G2.out⟩
  case round =>
    clear P2 G2 c2 hs2 L hL
    obtain ⟨i, hi, hgk, rfl, HR⟩ := hrel
    subst hgk
    obtain ⟨hpl, hgr⟩ := HR.out
    clear HR
    have GR := hid hgr
    have c0 := hpl.cell
    have hp0 := hpl.size
    by_cases hlt : i < d.ord.length
    · obtain ⟨x, hx⟩ : ∃ x, d.ord[i]? = some x := ⟨_, List.getElem?_eq_getElem hlt⟩
      have hxl : x < d.c.gates.length := GD.out.ord x (List.mem_of_getElem? hx)
      obtain ⟨g, hg⟩ : ∃ g, d.c.gates[x]? = some g := ⟨_, List.getElem?_eq_getElem hxl⟩
      obtain ⟨o1, q1, hs1, ho1, hcx⟩ := hpl.ord.at_ i _ (places_at d.ord i x hx)
      obtain ⟨gb, go, hsg, hgb, a0, a1, a2, a3, a4, a5⟩ := gate_at hpl.cir.gates x g hg
      obtain ⟨v, hv⟩ : ∃ v, v = playL d.c.gates v2 (d.ord.take i) := ⟨_, rfl⟩
      have hnext : playL d.c.gates v2 (d.ord.take (i + 1)) = playOne d.c.gates v x := by
        rw [List.take_add_one, hx, hv]
        exact playL_snoc _ _ _ _
      rw [← hv] at hpl
      obtain ⟨Y, hY⟩ : ∃ Y, Y = wr.alloc (Obj.cells #[Value.int .i64 g.kind, .string g.name, .int .i64 g.op, .int .i64 g.a, .int .i64 g.b, .int .i64 g.c] 38) := ⟨_, rfl⟩
      have BY : Hid (Below wr.heap.size wr Y) := by rw [hY]; exact (Below.refl _ _).alloc (Nat.le_refl _) _
      have RY : Hid (Y.heap[wr.heap.size]? = some (.cells #[Value.int .i64 g.kind, .string g.name, .int .i64 g.op, .int .i64 g.a, .int .i64 g.b, .int .i64 g.c] 38 (0, 0))) := by rw [hY]; exact heap_alloc_new wr _
      have PY := hid (hpl.on BY.out)
      have GY : Hid (w.grownBy Y (some d.vb)) := grown_below hgr BY.out
      have CY : Hid (∀ W, Below Y.heap.size Y W → ∀ j, W.cell? ⟨wr.heap.size, j, none⟩ = (#[Value.int .i64 g.kind, .string g.name, .int .i64 g.op, .int .i64 g.a, .int .i64 g.b, .int .i64 g.c] : Array Value)[j]?) := fun W hW j => cell_row ((hW.block _ (Array.getElem?_eq_some_iff.1 RY.out).1).trans RY.out) j
      have hvbY : wr.heap.size ≠ d.vb := fun e => by
        have := (Array.getElem?_eq_some_iff.1 hpl.vals).1
        omega
      have hcy := CY.out Y (Below.refl _ _)
      have hby := (Array.getElem?_eq_some_iff.1 RY.out).1
      have hline := GD.out.line x g hg
      have HY := hid hY
      have hn1 := hpl.farp
      have HS1 := hid hs1
      have SET : Hid (∀ (t : Bool) (Z : World), Below Y.heap.size Y Z → playOne d.c.gates v x = v.set x t → Pl (Z.setCell ⟨d.vb, x, none⟩ (.bool t)) d (playL d.c.gates v2 (d.ord.take (i + 1))) ∧ w.grownBy (Z.setCell ⟨d.vb, x, none⟩ (.bool t)) (some d.vb)) := fun t Z hZ ht => by
        obtain ⟨h1, h2⟩ := (PY.out.on hZ).set x t
        rw [hnext, ht]
        exact ⟨h1, grown_trans (grown_below GY.out hZ) h2⟩
      by_cases hk2 : g.kind = 2
      · obtain ⟨⟨ho0, ho15⟩, ⟨ha0, ha1⟩, hb0, hb1⟩ := line_two hline hk2
        obtain ⟨q, hq⟩ : ∃ q : Nat, g.op = (q : Int) := ⟨g.op.toNat, by omega⟩
        obtain ⟨a, ha⟩ : ∃ a : Nat, g.a = (a : Int) := ⟨g.a.toNat, by omega⟩
        obtain ⟨b, hb⟩ : ∃ b : Nat, g.b = (b : Int) := ⟨g.b.toNat, by omega⟩
        have hq2 : q ≤ 15 := by omega
        have hal : a < d.c.gates.length := by omega
        have hbl : b < d.c.gates.length := by omega
        have KS : Hid (∀ W, Below Y.heap.size Y W → W.cell? ⟨d.p, 6, none⟩ = some (.slice (some ⟨d.vb, 0, none⟩) d.c.gates.length d.c.gates.length) ∧ W.cell? ⟨wr.heap.size, 2, none⟩ = some (.int .i64 (q : Int)) ∧ W.cell? ⟨wr.heap.size, 3, none⟩ = some (.int .i64 (a : Int)) ∧ W.cell? ⟨wr.heap.size, 4, none⟩ = some (.int .i64 (b : Int))) := fun W hW => by
          have h5 := CY.out W hW
          rw [hq, ha, hb] at h5
          exact ⟨(PY.out.on hW).cell 6, h5 2, h5 3, h5 4⟩
        have KS2 : Hid (∀ t : Bool, (Y.setCell ⟨d.vb, x, none⟩ (.bool t)).cell? ⟨d.p, 6, none⟩ = some (.slice (some ⟨d.vb, 0, none⟩) d.c.gates.length d.c.gates.length) ∧ (Y.setCell ⟨d.vb, x, none⟩ (.bool t)).cell? ⟨wr.heap.size, 2, none⟩ = some (.int .i64 (q : Int)) ∧ (Y.setCell ⟨d.vb, x, none⟩ (.bool t)).cell? ⟨wr.heap.size, 3, none⟩ = some (.int .i64 (a : Int)) ∧ (Y.setCell ⟨d.vb, x, none⟩ (.bool t)).cell? ⟨wr.heap.size, 4, none⟩ = some (.int .i64 (b : Int))) := fun t => by
          obtain ⟨k1, k2, k3, k4⟩ := KS.out Y (Below.refl _ _)
          exact ⟨(World.cell?_setCell_far _ _ _ _ (Ne.symm hn1)).trans k1, (World.cell?_setCell_far _ _ _ _ (Ne.symm hvbY)).trans k2, (World.cell?_setCell_far _ _ _ _ (Ne.symm hvbY)).trans k3, (World.cell?_setCell_far _ _ _ _ (Ne.symm hvbY)).trans k4⟩
        have BA : Hid (∀ W, Below Y.heap.size Y W → _) := fun W hW => bit_ok d v a W (PY.out.on hW) hal
        have BB : Hid (∀ W, Below Y.heap.size Y W → _) := fun W hW => bit_ok d v b W (PY.out.on hW) hbl
        have FI0 : ∀ xa xb, valAt v (a : Int) = xa → valAt v (b : Int) = xb → Hid (∀ t : Bool, t = tab (q : Int) xa xb → Pl (Y.setCell ⟨d.vb, x, none⟩ (.bool t)).drew d (playL d.c.gates v2 (d.ord.take (i + 1))) ∧ w.grownBy (Y.setCell ⟨d.vb, x, none⟩ (.bool t)).drew (some d.vb)) := fun xa xb hxa hxb t ht => by
          obtain ⟨h1, h2⟩ := SET.out t Y (Below.refl _ _) (by
            unfold playOne
            rw [hg]
            simp only [hk2, if_true]
            rw [ht, hq, ha, hb, hxa, hxb])
          exact ⟨h1.on (Below.refl _ _).drew, grown_below h2 (Below.refl _ _).drew⟩
        obtain ⟨hvx, hfx, hvl⟩ := PY.out.val hxl
        have hdp := c0
        clear hpl hgr hx hg hv hnext hY hline ho0 ho15 ha0 ha1 hb0 hb1 hq ha hb SET
        rw [hk2] at a0 HY hcy
        rw [hs1, hsg] at c0
        cases hxa : valAt v (a : Int) with
        | false =>
          rw [hxa] at BA
          cases hxb : valAt v (b : Int) with
          | false =>
            rw [hxb] at BB
            have FIN := FI0 false false hxa hxb
            clear FI0 hxa hxb
            go_wp2_with (rw [← HY.out])
            refine wp_region_noPanic ?_
            refine wp_region_held_drew (S := fun W => W.cell? ⟨d.p, 6, none⟩ = some (.slice (some ⟨d.vb, 0, none⟩) d.c.gates.length d.c.gates.length) ∧ W.cell? ⟨wr.heap.size, 2, none⟩ = some (.int .i64 (q : Int)) ∧ W.cell? ⟨wr.heap.size, 3, none⟩ = some (.int .i64 (a : Int)) ∧ W.cell? ⟨wr.heap.size, 4, none⟩ = some (.int .i64 (b : Int))) (by kernel_rfl) (KS.out _ (Below.refl _ _).drew) (fun hHeld => ?_)
            refine wpAnyH_take (i := 0) (v := ?_) (by simp only [List.getElem?_toArray, List.getElem?_cons_zero]; rfl) (by kernel_rfl) (by kernel_rfl) (by kernel_rfl) (fun _ _ _ h => h) (Or.inl ⟨by rfl, ?_⟩) (by assumption) ?_
            rotate_left 1
            · intro w hSw; (try dsimp only at hSw); go_simp; (try with_reducible rfl)
            try simp only [Act.put, List.setIfInBounds_toArray, List.set_cons_zero, List.set_cons_succ]
            refine wpAnyH_take (i := 1) (v := ?_) (by simp only [List.getElem?_toArray, List.getElem?_cons_succ, List.getElem?_cons_zero]; rfl) (by kernel_rfl) (by kernel_rfl) (by kernel_rfl) (fun _ _ _ h => h) (Or.inl ⟨by rfl, ?_⟩) (by assumption) ?_
            rotate_left 1
            · intro w hSw; (try dsimp only at hSw); go_simp; (try with_reducible rfl)
            try simp only [Act.put, List.setIfInBounds_toArray, List.set_cons_zero, List.set_cons_succ]
            refine wpAnyH_take (i := 2) (v := ?_) (by simp only [List.getElem?_toArray, List.getElem?_cons_succ, List.getElem?_cons_zero]; rfl) (by kernel_rfl) (by kernel_rfl) (by kernel_rfl) (fun _ _ _ h => h) (Or.inl ⟨by rfl, ?_⟩) (by assumption) ?_
            rotate_left 1
            · intro w hSw; (try dsimp only at hSw); go_simp; (try with_reducible rfl)
            try simp only [Act.put, List.setIfInBounds_toArray, List.set_cons_zero, List.set_cons_succ]
            refine wpAnyH_take (i := 3) (v := ?_) (by simp only [List.getElem?_toArray, List.getElem?_cons_succ, List.getElem?_cons_zero]; rfl) (by kernel_rfl) (by kernel_rfl) (by kernel_rfl) (fun _ _ _ h => h) (Or.inl ⟨by rfl, ?_⟩) (by assumption) ?_
            rotate_left 1
            · intro w hSw; (try dsimp only at hSw); go_simp; (try with_reducible rfl)
            try simp only [Act.put, List.setIfInBounds_toArray, List.set_cons_zero, List.set_cons_succ]
            refine wpAnyH_take (i := 4) (v := ?_) (by simp only [List.getElem?_toArray, List.getElem?_cons_succ, List.getElem?_cons_zero]; rfl) (by kernel_rfl) (by kernel_rfl) (by kernel_rfl) (fun _ _ _ h => h) (Or.inl ⟨by rfl, ?_⟩) (by assumption) ?_
            rotate_left 1
            · intro w hSw; (try dsimp only at hSw); go_simp; (try with_reducible rfl)
            try simp only [Act.put, List.setIfInBounds_toArray, List.set_cons_zero, List.set_cons_succ]
            refine wpAnyH_take (i := 5) (v := ?_) (by simp only [List.getElem?_toArray, List.getElem?_cons_succ, List.getElem?_cons_zero]; rfl) (by kernel_rfl) (by kernel_rfl) (by kernel_rfl) (fun _ _ _ h => h) (Or.inl ⟨by rfl, ?_⟩) (by assumption) ?_
            rotate_left 1
            · intro w hSw; (try dsimp only at hSw); go_simp; (try with_reducible rfl)
            try simp only [Act.put, List.setIfInBounds_toArray, List.set_cons_zero, List.set_cons_succ]
            refine wpAnyH_take (i := 6) (v := ?_) (by simp only [List.getElem?_toArray, List.getElem?_cons_succ, List.getElem?_cons_zero]; rfl) (by kernel_rfl) (by kernel_rfl) (by kernel_rfl) (fun _ _ _ h => h) (Or.inl ⟨by rfl, ?_⟩) (by assumption) ?_
            rotate_left 1
            · intro w hSw; (try dsimp only at hSw); go_simp; (try with_reducible rfl)
            try simp only [Act.put, List.setIfInBounds_toArray, List.set_cons_zero, List.set_cons_succ]
            refine wpAnyH_take (i := 7) (v := ?_) (by simp only [List.getElem?_toArray, List.getElem?_cons_succ, List.getElem?_cons_zero]; rfl) (by kernel_rfl) (by kernel_rfl) (by kernel_rfl) (fun _ _ _ h => h) (Or.inl ⟨by rfl, ?_⟩) (by assumption) ?_
            rotate_left 1
            · intro w hSw; (try dsimp only at hSw); go_simp; (try with_reducible rfl)
            try simp only [Act.put, List.setIfInBounds_toArray, List.set_cons_zero, List.set_cons_succ]
            refine wpAnyH_take (i := 8) (v := ?_) (by simp only [List.getElem?_toArray, List.getElem?_cons_succ, List.getElem?_cons_zero]; rfl) (by kernel_rfl) (by kernel_rfl) (by kernel_rfl) (fun _ _ _ h => h) (Or.inl ⟨by rfl, ?_⟩) (by assumption) ?_
            rotate_left 1
            · intro w hSw; (try dsimp only at hSw); go_simp; (try with_reducible rfl)
            try simp only [Act.put, List.setIfInBounds_toArray, List.set_cons_zero, List.set_cons_succ]
            refine wpAnyH_take (i := 9) (v := ?_) (by simp only [List.getElem?_toArray, List.getElem?_cons_succ, List.getElem?_cons_zero]; rfl) (by kernel_rfl) (by kernel_rfl) (by kernel_rfl) (fun _ _ _ h => h) (Or.inl ⟨by rfl, ?_⟩) (by assumption) ?_
            rotate_left 1
            · intro w hSw; (try dsimp only at hSw); go_simp; (try with_reducible rfl)
            try simp only [Act.put, List.setIfInBounds_toArray, List.set_cons_zero, List.set_cons_succ]
            refine wpAnyH_take (i := 12) (v := ?_) (by simp only [List.getElem?_toArray, List.getElem?_cons_succ, List.getElem?_cons_zero]; rfl) (by kernel_rfl) (by kernel_rfl) (by kernel_rfl) (fun _ _ _ h => h) (Or.inl ⟨by rfl, ?_⟩) (by assumption) ?_
            rotate_left 1
            · intro w hSw; (try dsimp only at hSw); go_simp; (try with_reducible rfl)
            try simp only [Act.put, List.setIfInBounds_toArray, List.set_cons_zero, List.set_cons_succ]
            refine wpAnyH_take (i := 13) (v := ?_) (by simp only [List.getElem?_toArray, List.getElem?_cons_succ, List.getElem?_cons_zero]; rfl) (by kernel_rfl) (by kernel_rfl) (by kernel_rfl) (fun _ _ _ h => h) (Or.inl ⟨by rfl, ?_⟩) (by assumption) ?_
            rotate_left 1
            · intro w hSw; (try dsimp only at hSw); go_simp; (try with_reducible rfl)
            try simp only [Act.put, List.setIfInBounds_toArray, List.set_cons_zero, List.set_cons_succ]
            refine wpAnyH_take (i := 14) (v := ?_) (by simp only [List.getElem?_toArray, List.getElem?_cons_succ, List.getElem?_cons_zero]; rfl) (by kernel_rfl) (by kernel_rfl) (by kernel_rfl) (fun _ _ _ h => h) (Or.inl ⟨by rfl, ?_⟩) (by assumption) ?_
            rotate_left 1
            · intro w hSw; (try dsimp only at hSw); go_simp; (try with_reducible rfl)
            try simp only [Act.put, List.setIfInBounds_toArray, List.set_cons_zero, List.set_cons_succ]
            refine wpAnyH_ready (rs := [10]) (by kernel_rfl) (by simp) ?_
            refine AllReadyH.cons (by simp only [List.getElem?_toArray, List.getElem?_cons_succ, List.getElem?_cons_zero]; rfl) (fun K hK => ?_) AllReadyH.nil
            go_simp
            go_at_call 67
            refine Calls.mono (BA.out _ (Below.refl _ _).drew) ?_
            rintro e w7 ⟨rfl, rfl⟩
            clear hHeld
            refine hK.out _ _ (KS.out _ (Below.refl _ _).drew) (fun hHeld => ?_)
            clear hK K
            try simp only [Act.put, List.setIfInBounds_toArray, List.set_cons_zero, List.set_cons_succ]
            refine wpAnyH_take (i := 11) (v := .int .i64 0) (by simp only [List.getElem?_toArray, List.getElem?_cons_succ, List.getElem?_cons_zero]; rfl) (by kernel_rfl) (by kernel_rfl) (by kernel_rfl) (fun _ _ _ h => h) (Or.inl ⟨by rfl, ?_⟩) (by assumption) ?_
            · intro w hSw; (try dsimp only at hSw); (try go_simp); (first | done | (with_reducible rfl) | rfl | omega | (simp; done) | (simp; omega))
            try simp only [Act.put, List.setIfInBounds_toArray, List.set_cons_zero, List.set_cons_succ]
            refine wpAnyH_ready (rs := [15]) (by kernel_rfl) (by simp) ?_
            refine AllReadyH.cons (by simp only [List.getElem?_toArray, List.getElem?_cons_succ, List.getElem?_cons_zero]; rfl) (fun K hK => ?_) AllReadyH.nil
            go_simp
            go_at_call 67
            refine Calls.mono (BB.out _ (Below.refl _ _).drew) ?_
            rintro e w7 ⟨rfl, rfl⟩
            clear hHeld
            refine hK.out _ _ (KS.out _ (Below.refl _ _).drew) (fun hHeld => ?_)
            clear hK K
            try simp only [Act.put, List.setIfInBounds_toArray, List.set_cons_zero, List.set_cons_succ]
            refine wpAnyH_take (i := 16) (v := .int .i64 0) (by simp only [List.getElem?_toArray, List.getElem?_cons_succ, List.getElem?_cons_zero]; rfl) (by kernel_rfl) (by kernel_rfl) (by kernel_rfl) (fun _ _ _ h => h) (Or.inl ⟨by rfl, ?_⟩) (by assumption) ?_
            · intro w hSw; (try dsimp only at hSw); (try go_simp); (first | done | (with_reducible rfl) | rfl | omega | (simp; done) | (simp; omega))
            try simp only [Act.put, List.setIfInBounds_toArray, List.set_cons_zero, List.set_cons_succ]
            refine wpAnyH_take (i := 17) (v := .int .i64 (q : Int)) (by simp only [List.getElem?_toArray, List.getElem?_cons_succ, List.getElem?_cons_zero]; rfl) (by kernel_rfl) (by kernel_rfl) (by kernel_rfl) (fun _ _ _ h => h) (Or.inl ⟨by rfl, ?_⟩) (by assumption) ?_
            · intro w hSw; (try dsimp only at hSw); (try go_simp); (first | done | (with_reducible rfl) | rfl | omega | (simp; done) | (simp; omega))
            try simp only [Act.put, List.setIfInBounds_toArray, List.set_cons_zero, List.set_cons_succ]
            refine wpAnyH_take (i := 18) (v := ?_) (by simp only [List.getElem?_toArray, List.getElem?_cons_succ, List.getElem?_cons_zero]; rfl) (by kernel_rfl) (by kernel_rfl) (by kernel_rfl) (fun _ _ _ h => h) (Or.inl ⟨by rfl, ?_⟩) (by assumption) ?_
            rotate_left 1
            · intro w hSw; (try dsimp only at hSw); go_simp; (try with_reducible rfl)
            try simp only [Act.put, List.setIfInBounds_toArray, List.set_cons_zero, List.set_cons_succ]
            refine wpAnyH_take (i := 19) (v := ?_) (by simp only [List.getElem?_toArray, List.getElem?_cons_succ, List.getElem?_cons_zero]; rfl) (by kernel_rfl) (by kernel_rfl) (by kernel_rfl) (fun _ _ _ h => h) (Or.inl ⟨by rfl, ?_⟩) (by assumption) ?_
            rotate_left 1
            · intro w hSw; (try dsimp only at hSw); go_simp; (try with_reducible rfl)
            try simp only [Act.put, List.setIfInBounds_toArray, List.set_cons_zero, List.set_cons_succ]
            refine wpAnyH_take (i := 20) (v := .pointer (some ⟨d.vb, x, none⟩)) (by simp only [List.getElem?_toArray, List.getElem?_cons_succ, List.getElem?_cons_zero]; rfl) (by kernel_rfl) (by kernel_rfl) (by kernel_rfl) (fun _ _ _ h => h) (Or.inl ⟨by rfl, ?_⟩) (by assumption) ?_
            · intro w hSw; (try dsimp only at hSw); (try go_simp); ((try rw [if_pos (by omega)]); (try simp); (try (intro h9; omega)))
            try simp only [Act.put, List.setIfInBounds_toArray, List.set_cons_zero, List.set_cons_succ]
            refine wpAnyH_ready (rs := [21]) (by kernel_rfl) (by simp) ?_
            refine AllReadyH.cons (by simp only [List.getElem?_toArray, List.getElem?_cons_succ, List.getElem?_cons_zero]; rfl) (fun K hK => ?_) AllReadyH.nil
            go_simp
            clear hHeld
            refine hK.out _ _ (KS2.out _) (fun hHeld => ?_)
            clear hK K
            try simp only [Act.put, List.setIfInBounds_toArray, List.set_cons_zero, List.set_cons_succ]
            refine wpAnyH_done (by kernel_rfl) ?_ _
            refine NoPanic.normal ?_
            go_wp2
            (try rw [← HS1.out])
            go_roundg (d.ord.length - (i + 1))
            case measure => omega
            case rel => exact ⟨i + 1, hlt, rfl, by go_num, FIN.out _ (tab_1 q hq2)⟩
          | true =>
            rw [hxb] at BB
            have FIN := FI0 false true hxa hxb
            clear FI0 hxa hxb
            go_wp2_with (rw [← HY.out])
            refine wp_region_noPanic ?_
            refine wp_region_held_drew (S := fun W => W.cell? ⟨d.p, 6, none⟩ = some (.slice (some ⟨d.vb, 0, none⟩) d.c.gates.length d.c.gates.length) ∧ W.cell? ⟨wr.heap.size, 2, none⟩ = some (.int .i64 (q : Int)) ∧ W.cell? ⟨wr.heap.size, 3, none⟩ = some (.int .i64 (a : Int)) ∧ W.cell? ⟨wr.heap.size, 4, none⟩ = some (.int .i64 (b : Int))) (by kernel_rfl) (KS.out _ (Below.refl _ _).drew) (fun hHeld => ?_)
            refine wpAnyH_take (i := 0) (v := ?_) (by simp only [List.getElem?_toArray, List.getElem?_cons_zero]; rfl) (by kernel_rfl) (by kernel_rfl) (by kernel_rfl) (fun _ _ _ h => h) (Or.inl ⟨by rfl, ?_⟩) (by assumption) ?_
            rotate_left 1
            · intro w hSw; (try dsimp only at hSw); go_simp; (try with_reducible rfl)
            try simp only [Act.put, List.setIfInBounds_toArray, List.set_cons_zero, List.set_cons_succ]
            refine wpAnyH_take (i := 1) (v := ?_) (by simp only [List.getElem?_toArray, List.getElem?_cons_succ, List.getElem?_cons_zero]; rfl) (by kernel_rfl) (by kernel_rfl) (by kernel_rfl) (fun _ _ _ h => h) (Or.inl ⟨by rfl, ?_⟩) (by assumption) ?_
            rotate_left 1
            · intro w hSw; (try dsimp only at hSw); go_simp; (try with_reducible rfl)
            try simp only [Act.put, List.setIfInBounds_toArray, List.set_cons_zero, List.set_cons_succ]
            refine wpAnyH_take (i := 2) (v := ?_) (by simp only [List.getElem?_toArray, List.getElem?_cons_succ, List.getElem?_cons_zero]; rfl) (by kernel_rfl) (by kernel_rfl) (by kernel_rfl) (fun _ _ _ h => h) (Or.inl ⟨by rfl, ?_⟩) (by assumption) ?_
            rotate_left 1
            · intro w hSw; (try dsimp only at hSw); go_simp; (try with_reducible rfl)
            try simp only [Act.put, List.setIfInBounds_toArray, List.set_cons_zero, List.set_cons_succ]
            refine wpAnyH_take (i := 3) (v := ?_) (by simp only [List.getElem?_toArray, List.getElem?_cons_succ, List.getElem?_cons_zero]; rfl) (by kernel_rfl) (by kernel_rfl) (by kernel_rfl) (fun _ _ _ h => h) (Or.inl ⟨by rfl, ?_⟩) (by assumption) ?_
            rotate_left 1
            · intro w hSw; (try dsimp only at hSw); go_simp; (try with_reducible rfl)
            try simp only [Act.put, List.setIfInBounds_toArray, List.set_cons_zero, List.set_cons_succ]
            refine wpAnyH_take (i := 4) (v := ?_) (by simp only [List.getElem?_toArray, List.getElem?_cons_succ, List.getElem?_cons_zero]; rfl) (by kernel_rfl) (by kernel_rfl) (by kernel_rfl) (fun _ _ _ h => h) (Or.inl ⟨by rfl, ?_⟩) (by assumption) ?_
            rotate_left 1
            · intro w hSw; (try dsimp only at hSw); go_simp; (try with_reducible rfl)
            try simp only [Act.put, List.setIfInBounds_toArray, List.set_cons_zero, List.set_cons_succ]
            refine wpAnyH_take (i := 5) (v := ?_) (by simp only [List.getElem?_toArray, List.getElem?_cons_succ, List.getElem?_cons_zero]; rfl) (by kernel_rfl) (by kernel_rfl) (by kernel_rfl) (fun _ _ _ h => h) (Or.inl ⟨by rfl, ?_⟩) (by assumption) ?_
            rotate_left 1
            · intro w hSw; (try dsimp only at hSw); go_simp; (try with_reducible rfl)
            try simp only [Act.put, List.setIfInBounds_toArray, List.set_cons_zero, List.set_cons_succ]
            refine wpAnyH_take (i := 6) (v := ?_) (by simp only [List.getElem?_toArray, List.getElem?_cons_succ, List.getElem?_cons_zero]; rfl) (by kernel_rfl) (by kernel_rfl) (by kernel_rfl) (fun _ _ _ h => h) (Or.inl ⟨by rfl, ?_⟩) (by assumption) ?_
            rotate_left 1
            · intro w hSw; (try dsimp only at hSw); go_simp; (try with_reducible rfl)
            try simp only [Act.put, List.setIfInBounds_toArray, List.set_cons_zero, List.set_cons_succ]
            refine wpAnyH_take (i := 7) (v := ?_) (by simp only [List.getElem?_toArray, List.getElem?_cons_succ, List.getElem?_cons_zero]; rfl) (by kernel_rfl) (by kernel_rfl) (by kernel_rfl) (fun _ _ _ h => h) (Or.inl ⟨by rfl, ?_⟩) (by assumption) ?_
            rotate_left 1
            · intro w hSw; (try dsimp only at hSw); go_simp; (try with_reducible rfl)
            try simp only [Act.put, List.setIfInBounds_toArray, List.set_cons_zero, List.set_cons_succ]
            refine wpAnyH_take (i := 8) (v := ?_) (by simp only [List.getElem?_toArray, List.getElem?_cons_succ, List.getElem?_cons_zero]; rfl) (by kernel_rfl) (by kernel_rfl) (by kernel_rfl) (fun _ _ _ h => h) (Or.inl ⟨by rfl, ?_⟩) (by assumption) ?_
            rotate_left 1
            · intro w hSw; (try dsimp only at hSw); go_simp; (try with_reducible rfl)
            try simp only [Act.put, List.setIfInBounds_toArray, List.set_cons_zero, List.set_cons_succ]
            refine wpAnyH_take (i := 9) (v := ?_) (by simp only [List.getElem?_toArray, List.getElem?_cons_succ, List.getElem?_cons_zero]; rfl) (by kernel_rfl) (by kernel_rfl) (by kernel_rfl) (fun _ _ _ h => h) (Or.inl ⟨by rfl, ?_⟩) (by assumption) ?_
            rotate_left 1
            · intro w hSw; (try dsimp only at hSw); go_simp; (try with_reducible rfl)
            try simp only [Act.put, List.setIfInBounds_toArray, List.set_cons_zero, List.set_cons_succ]
            refine wpAnyH_take (i := 12) (v := ?_) (by simp only [List.getElem?_toArray, List.getElem?_cons_succ, List.getElem?_cons_zero]; rfl) (by kernel_rfl) (by kernel_rfl) (by kernel_rfl) (fun _ _ _ h => h) (Or.inl ⟨by rfl, ?_⟩) (by assumption) ?_
            rotate_left 1
            · intro w hSw; (try dsimp only at hSw); go_simp; (try with_reducible rfl)
            try simp only [Act.put, List.setIfInBounds_toArray, List.set_cons_zero, List.set_cons_succ]
            refine wpAnyH_take (i := 13) (v := ?_) (by simp only [List.getElem?_toArray, List.getElem?_cons_succ, List.getElem?_cons_zero]; rfl) (by kernel_rfl) (by kernel_rfl) (by kernel_rfl) (fun _ _ _ h => h) (Or.inl ⟨by rfl, ?_⟩) (by assumption) ?_
            rotate_left 1
            · intro w hSw; (try dsimp only at hSw); go_simp; (try with_reducible rfl)
            try simp only [Act.put, List.setIfInBounds_toArray, List.set_cons_zero, List.set_cons_succ]
            refine wpAnyH_take (i := 14) (v := ?_) (by simp only [List.getElem?_toArray, List.getElem?_cons_succ, List.getElem?_cons_zero]; rfl) (by kernel_rfl) (by kernel_rfl) (by kernel_rfl) (fun _ _ _ h => h) (Or.inl ⟨by rfl, ?_⟩) (by assumption) ?_
            rotate_left 1
            · intro w hSw; (try dsimp only at hSw); go_simp; (try with_reducible rfl)
            try simp only [Act.put, List.setIfInBounds_toArray, List.set_cons_zero, List.set_cons_succ]
            refine wpAnyH_ready (rs := [10]) (by kernel_rfl) (by simp) ?_
            refine AllReadyH.cons (by simp only [List.getElem?_toArray, List.getElem?_cons_succ, List.getElem?_cons_zero]; rfl) (fun K hK => ?_) AllReadyH.nil
            go_simp
            go_at_call 67
            refine Calls.mono (BA.out _ (Below.refl _ _).drew) ?_
            rintro e w7 ⟨rfl, rfl⟩
            clear hHeld
            refine hK.out _ _ (KS.out _ (Below.refl _ _).drew) (fun hHeld => ?_)
            clear hK K
            try simp only [Act.put, List.setIfInBounds_toArray, List.set_cons_zero, List.set_cons_succ]
            refine wpAnyH_take (i := 11) (v := .int .i64 0) (by simp only [List.getElem?_toArray, List.getElem?_cons_succ, List.getElem?_cons_zero]; rfl) (by kernel_rfl) (by kernel_rfl) (by kernel_rfl) (fun _ _ _ h => h) (Or.inl ⟨by rfl, ?_⟩) (by assumption) ?_
            · intro w hSw; (try dsimp only at hSw); (try go_simp); (first | done | (with_reducible rfl) | rfl | omega | (simp; done) | (simp; omega))
            try simp only [Act.put, List.setIfInBounds_toArray, List.set_cons_zero, List.set_cons_succ]
            refine wpAnyH_ready (rs := [15]) (by kernel_rfl) (by simp) ?_
            refine AllReadyH.cons (by simp only [List.getElem?_toArray, List.getElem?_cons_succ, List.getElem?_cons_zero]; rfl) (fun K hK => ?_) AllReadyH.nil
            go_simp
            go_at_call 67
            refine Calls.mono (BB.out _ (Below.refl _ _).drew) ?_
            rintro e w7 ⟨rfl, rfl⟩
            clear hHeld
            refine hK.out _ _ (KS.out _ (Below.refl _ _).drew) (fun hHeld => ?_)
            clear hK K
            try simp only [Act.put, List.setIfInBounds_toArray, List.set_cons_zero, List.set_cons_succ]
            refine wpAnyH_take (i := 16) (v := .int .i64 1) (by simp only [List.getElem?_toArray, List.getElem?_cons_succ, List.getElem?_cons_zero]; rfl) (by kernel_rfl) (by kernel_rfl) (by kernel_rfl) (fun _ _ _ h => h) (Or.inl ⟨by rfl, ?_⟩) (by assumption) ?_
            · intro w hSw; (try dsimp only at hSw); (try go_simp); (first | done | (with_reducible rfl) | rfl | omega | (simp; done) | (simp; omega))
            try simp only [Act.put, List.setIfInBounds_toArray, List.set_cons_zero, List.set_cons_succ]
            refine wpAnyH_take (i := 17) (v := .int .i64 ((q : Int) / 2)) (by simp only [List.getElem?_toArray, List.getElem?_cons_succ, List.getElem?_cons_zero]; rfl) (by kernel_rfl) (by kernel_rfl) (by kernel_rfl) (fun _ _ _ h => h) (Or.inl ⟨by rfl, ?_⟩) (by assumption) ?_
            · intro w hSw; (try dsimp only at hSw); (try go_simp); (first | done | (with_reducible rfl) | rfl | omega | (simp; done) | (simp; omega))
            try simp only [Act.put, List.setIfInBounds_toArray, List.set_cons_zero, List.set_cons_succ]
            refine wpAnyH_take (i := 18) (v := ?_) (by simp only [List.getElem?_toArray, List.getElem?_cons_succ, List.getElem?_cons_zero]; rfl) (by kernel_rfl) (by kernel_rfl) (by kernel_rfl) (fun _ _ _ h => h) (Or.inl ⟨by rfl, ?_⟩) (by assumption) ?_
            rotate_left 1
            · intro w hSw; (try dsimp only at hSw); go_simp; (try with_reducible rfl)
            try simp only [Act.put, List.setIfInBounds_toArray, List.set_cons_zero, List.set_cons_succ]
            refine wpAnyH_take (i := 19) (v := ?_) (by simp only [List.getElem?_toArray, List.getElem?_cons_succ, List.getElem?_cons_zero]; rfl) (by kernel_rfl) (by kernel_rfl) (by kernel_rfl) (fun _ _ _ h => h) (Or.inl ⟨by rfl, ?_⟩) (by assumption) ?_
            rotate_left 1
            · intro w hSw; (try dsimp only at hSw); go_simp; (try with_reducible rfl)
            try simp only [Act.put, List.setIfInBounds_toArray, List.set_cons_zero, List.set_cons_succ]
            refine wpAnyH_take (i := 20) (v := .pointer (some ⟨d.vb, x, none⟩)) (by simp only [List.getElem?_toArray, List.getElem?_cons_succ, List.getElem?_cons_zero]; rfl) (by kernel_rfl) (by kernel_rfl) (by kernel_rfl) (fun _ _ _ h => h) (Or.inl ⟨by rfl, ?_⟩) (by assumption) ?_
            · intro w hSw; (try dsimp only at hSw); (try go_simp); ((try rw [if_pos (by omega)]); (try simp); (try (intro h9; omega)))
            try simp only [Act.put, List.setIfInBounds_toArray, List.set_cons_zero, List.set_cons_succ]
            refine wpAnyH_ready (rs := [21]) (by kernel_rfl) (by simp) ?_
            refine AllReadyH.cons (by simp only [List.getElem?_toArray, List.getElem?_cons_succ, List.getElem?_cons_zero]; rfl) (fun K hK => ?_) AllReadyH.nil
            go_simp
            clear hHeld
            refine hK.out _ _ (KS2.out _) (fun hHeld => ?_)
            clear hK K
            try simp only [Act.put, List.setIfInBounds_toArray, List.set_cons_zero, List.set_cons_succ]
            refine wpAnyH_done (by kernel_rfl) ?_ _
            refine NoPanic.normal ?_
            go_wp2
            (try rw [← HS1.out])
            go_roundg (d.ord.length - (i + 1))
            case measure => omega
            case rel => exact ⟨i + 1, hlt, rfl, by go_num, FIN.out _ (tab_2 q hq2)⟩
        | true =>
          rw [hxa] at BA
          cases hxb : valAt v (b : Int) with
          | false =>
            rw [hxb] at BB
            have FIN := FI0 true false hxa hxb
            clear FI0 hxa hxb
            go_wp2_with (rw [← HY.out])
            refine wp_region_noPanic ?_
            refine wp_region_held_drew (S := fun W => W.cell? ⟨d.p, 6, none⟩ = some (.slice (some ⟨d.vb, 0, none⟩) d.c.gates.length d.c.gates.length) ∧ W.cell? ⟨wr.heap.size, 2, none⟩ = some (.int .i64 (q : Int)) ∧ W.cell? ⟨wr.heap.size, 3, none⟩ = some (.int .i64 (a : Int)) ∧ W.cell? ⟨wr.heap.size, 4, none⟩ = some (.int .i64 (b : Int))) (by kernel_rfl) (KS.out _ (Below.refl _ _).drew) (fun hHeld => ?_)
            refine wpAnyH_take (i := 0) (v := ?_) (by simp only [List.getElem?_toArray, List.getElem?_cons_zero]; rfl) (by kernel_rfl) (by kernel_rfl) (by kernel_rfl) (fun _ _ _ h => h) (Or.inl ⟨by rfl, ?_⟩) (by assumption) ?_
            rotate_left 1
            · intro w hSw; (try dsimp only at hSw); go_simp; (try with_reducible rfl)
            try simp only [Act.put, List.setIfInBounds_toArray, List.set_cons_zero, List.set_cons_succ]
            refine wpAnyH_take (i := 1) (v := ?_) (by simp only [List.getElem?_toArray, List.getElem?_cons_succ, List.getElem?_cons_zero]; rfl) (by kernel_rfl) (by kernel_rfl) (by kernel_rfl) (fun _ _ _ h => h) (Or.inl ⟨by rfl, ?_⟩) (by assumption) ?_
            rotate_left 1
            · intro w hSw; (try dsimp only at hSw); go_simp; (try with_reducible rfl)
            try simp only [Act.put, List.setIfInBounds_toArray, List.set_cons_zero, List.set_cons_succ]
            refine wpAnyH_take (i := 2) (v := ?_) (by simp only [List.getElem?_toArray, List.getElem?_cons_succ, List.getElem?_cons_zero]; rfl) (by kernel_rfl) (by kernel_rfl) (by kernel_rfl) (fun _ _ _ h => h) (Or.inl ⟨by rfl, ?_⟩) (by assumption) ?_
            rotate_left 1
            · intro w hSw; (try dsimp only at hSw); go_simp; (try with_reducible rfl)
            try simp only [Act.put, List.setIfInBounds_toArray, List.set_cons_zero, List.set_cons_succ]
            refine wpAnyH_take (i := 3) (v := ?_) (by simp only [List.getElem?_toArray, List.getElem?_cons_succ, List.getElem?_cons_zero]; rfl) (by kernel_rfl) (by kernel_rfl) (by kernel_rfl) (fun _ _ _ h => h) (Or.inl ⟨by rfl, ?_⟩) (by assumption) ?_
            rotate_left 1
            · intro w hSw; (try dsimp only at hSw); go_simp; (try with_reducible rfl)
            try simp only [Act.put, List.setIfInBounds_toArray, List.set_cons_zero, List.set_cons_succ]
            refine wpAnyH_take (i := 4) (v := ?_) (by simp only [List.getElem?_toArray, List.getElem?_cons_succ, List.getElem?_cons_zero]; rfl) (by kernel_rfl) (by kernel_rfl) (by kernel_rfl) (fun _ _ _ h => h) (Or.inl ⟨by rfl, ?_⟩) (by assumption) ?_
            rotate_left 1
            · intro w hSw; (try dsimp only at hSw); go_simp; (try with_reducible rfl)
            try simp only [Act.put, List.setIfInBounds_toArray, List.set_cons_zero, List.set_cons_succ]
            refine wpAnyH_take (i := 5) (v := ?_) (by simp only [List.getElem?_toArray, List.getElem?_cons_succ, List.getElem?_cons_zero]; rfl) (by kernel_rfl) (by kernel_rfl) (by kernel_rfl) (fun _ _ _ h => h) (Or.inl ⟨by rfl, ?_⟩) (by assumption) ?_
            rotate_left 1
            · intro w hSw; (try dsimp only at hSw); go_simp; (try with_reducible rfl)
            try simp only [Act.put, List.setIfInBounds_toArray, List.set_cons_zero, List.set_cons_succ]
            refine wpAnyH_take (i := 6) (v := ?_) (by simp only [List.getElem?_toArray, List.getElem?_cons_succ, List.getElem?_cons_zero]; rfl) (by kernel_rfl) (by kernel_rfl) (by kernel_rfl) (fun _ _ _ h => h) (Or.inl ⟨by rfl, ?_⟩) (by assumption) ?_
            rotate_left 1
            · intro w hSw; (try dsimp only at hSw); go_simp; (try with_reducible rfl)
            try simp only [Act.put, List.setIfInBounds_toArray, List.set_cons_zero, List.set_cons_succ]
            refine wpAnyH_take (i := 7) (v := ?_) (by simp only [List.getElem?_toArray, List.getElem?_cons_succ, List.getElem?_cons_zero]; rfl) (by kernel_rfl) (by kernel_rfl) (by kernel_rfl) (fun _ _ _ h => h) (Or.inl ⟨by rfl, ?_⟩) (by assumption) ?_
            rotate_left 1
            · intro w hSw; (try dsimp only at hSw); go_simp; (try with_reducible rfl)
            try simp only [Act.put, List.setIfInBounds_toArray, List.set_cons_zero, List.set_cons_succ]
            refine wpAnyH_take (i := 8) (v := ?_) (by simp only [List.getElem?_toArray, List.getElem?_cons_succ, List.getElem?_cons_zero]; rfl) (by kernel_rfl) (by kernel_rfl) (by kernel_rfl) (fun _ _ _ h => h) (Or.inl ⟨by rfl, ?_⟩) (by assumption) ?_
            rotate_left 1
            · intro w hSw; (try dsimp only at hSw); go_simp; (try with_reducible rfl)
            try simp only [Act.put, List.setIfInBounds_toArray, List.set_cons_zero, List.set_cons_succ]
            refine wpAnyH_take (i := 9) (v := ?_) (by simp only [List.getElem?_toArray, List.getElem?_cons_succ, List.getElem?_cons_zero]; rfl) (by kernel_rfl) (by kernel_rfl) (by kernel_rfl) (fun _ _ _ h => h) (Or.inl ⟨by rfl, ?_⟩) (by assumption) ?_
            rotate_left 1
            · intro w hSw; (try dsimp only at hSw); go_simp; (try with_reducible rfl)
            try simp only [Act.put, List.setIfInBounds_toArray, List.set_cons_zero, List.set_cons_succ]
            refine wpAnyH_take (i := 12) (v := ?_) (by simp only [List.getElem?_toArray, List.getElem?_cons_succ, List.getElem?_cons_zero]; rfl) (by kernel_rfl) (by kernel_rfl) (by kernel_rfl) (fun _ _ _ h => h) (Or.inl ⟨by rfl, ?_⟩) (by assumption) ?_
            rotate_left 1
            · intro w hSw; (try dsimp only at hSw); go_simp; (try with_reducible rfl)
            try simp only [Act.put, List.setIfInBounds_toArray, List.set_cons_zero, List.set_cons_succ]
            refine wpAnyH_take (i := 13) (v := ?_) (by simp only [List.getElem?_toArray, List.getElem?_cons_succ, List.getElem?_cons_zero]; rfl) (by kernel_rfl) (by kernel_rfl) (by kernel_rfl) (fun _ _ _ h => h) (Or.inl ⟨by rfl, ?_⟩) (by assumption) ?_
            rotate_left 1
            · intro w hSw; (try dsimp only at hSw); go_simp; (try with_reducible rfl)
            try simp only [Act.put, List.setIfInBounds_toArray, List.set_cons_zero, List.set_cons_succ]
            refine wpAnyH_take (i := 14) (v := ?_) (by simp only [List.getElem?_toArray, List.getElem?_cons_succ, List.getElem?_cons_zero]; rfl) (by kernel_rfl) (by kernel_rfl) (by kernel_rfl) (fun _ _ _ h => h) (Or.inl ⟨by rfl, ?_⟩) (by assumption) ?_
            rotate_left 1
            · intro w hSw; (try dsimp only at hSw); go_simp; (try with_reducible rfl)
            try simp only [Act.put, List.setIfInBounds_toArray, List.set_cons_zero, List.set_cons_succ]
            refine wpAnyH_ready (rs := [10]) (by kernel_rfl) (by simp) ?_
            refine AllReadyH.cons (by simp only [List.getElem?_toArray, List.getElem?_cons_succ, List.getElem?_cons_zero]; rfl) (fun K hK => ?_) AllReadyH.nil
            go_simp
            go_at_call 67
            refine Calls.mono (BA.out _ (Below.refl _ _).drew) ?_
            rintro e w7 ⟨rfl, rfl⟩
            clear hHeld
            refine hK.out _ _ (KS.out _ (Below.refl _ _).drew) (fun hHeld => ?_)
            clear hK K
            try simp only [Act.put, List.setIfInBounds_toArray, List.set_cons_zero, List.set_cons_succ]
            refine wpAnyH_take (i := 11) (v := .int .i64 2) (by simp only [List.getElem?_toArray, List.getElem?_cons_succ, List.getElem?_cons_zero]; rfl) (by kernel_rfl) (by kernel_rfl) (by kernel_rfl) (fun _ _ _ h => h) (Or.inl ⟨by rfl, ?_⟩) (by assumption) ?_
            · intro w hSw; (try dsimp only at hSw); (try go_simp); (first | done | (with_reducible rfl) | rfl | omega | (simp; done) | (simp; omega))
            try simp only [Act.put, List.setIfInBounds_toArray, List.set_cons_zero, List.set_cons_succ]
            refine wpAnyH_ready (rs := [15]) (by kernel_rfl) (by simp) ?_
            refine AllReadyH.cons (by simp only [List.getElem?_toArray, List.getElem?_cons_succ, List.getElem?_cons_zero]; rfl) (fun K hK => ?_) AllReadyH.nil
            go_simp
            go_at_call 67
            refine Calls.mono (BB.out _ (Below.refl _ _).drew) ?_
            rintro e w7 ⟨rfl, rfl⟩
            clear hHeld
            refine hK.out _ _ (KS.out _ (Below.refl _ _).drew) (fun hHeld => ?_)
            clear hK K
            try simp only [Act.put, List.setIfInBounds_toArray, List.set_cons_zero, List.set_cons_succ]
            refine wpAnyH_take (i := 16) (v := .int .i64 2) (by simp only [List.getElem?_toArray, List.getElem?_cons_succ, List.getElem?_cons_zero]; rfl) (by kernel_rfl) (by kernel_rfl) (by kernel_rfl) (fun _ _ _ h => h) (Or.inl ⟨by rfl, ?_⟩) (by assumption) ?_
            · intro w hSw; (try dsimp only at hSw); (try go_simp); (first | done | (with_reducible rfl) | rfl | omega | (simp; done) | (simp; omega))
            try simp only [Act.put, List.setIfInBounds_toArray, List.set_cons_zero, List.set_cons_succ]
            refine wpAnyH_take (i := 17) (v := .int .i64 ((q : Int) / 4)) (by simp only [List.getElem?_toArray, List.getElem?_cons_succ, List.getElem?_cons_zero]; rfl) (by kernel_rfl) (by kernel_rfl) (by kernel_rfl) (fun _ _ _ h => h) (Or.inl ⟨by rfl, ?_⟩) (by assumption) ?_
            · intro w hSw; (try dsimp only at hSw); (try go_simp); (first | done | (with_reducible rfl) | rfl | omega | (simp; done) | (simp; omega))
            try simp only [Act.put, List.setIfInBounds_toArray, List.set_cons_zero, List.set_cons_succ]
            refine wpAnyH_take (i := 18) (v := ?_) (by simp only [List.getElem?_toArray, List.getElem?_cons_succ, List.getElem?_cons_zero]; rfl) (by kernel_rfl) (by kernel_rfl) (by kernel_rfl) (fun _ _ _ h => h) (Or.inl ⟨by rfl, ?_⟩) (by assumption) ?_
            rotate_left 1
            · intro w hSw; (try dsimp only at hSw); go_simp; (try with_reducible rfl)
            try simp only [Act.put, List.setIfInBounds_toArray, List.set_cons_zero, List.set_cons_succ]
            refine wpAnyH_take (i := 19) (v := ?_) (by simp only [List.getElem?_toArray, List.getElem?_cons_succ, List.getElem?_cons_zero]; rfl) (by kernel_rfl) (by kernel_rfl) (by kernel_rfl) (fun _ _ _ h => h) (Or.inl ⟨by rfl, ?_⟩) (by assumption) ?_
            rotate_left 1
            · intro w hSw; (try dsimp only at hSw); go_simp; (try with_reducible rfl)
            try simp only [Act.put, List.setIfInBounds_toArray, List.set_cons_zero, List.set_cons_succ]
            refine wpAnyH_take (i := 20) (v := .pointer (some ⟨d.vb, x, none⟩)) (by simp only [List.getElem?_toArray, List.getElem?_cons_succ, List.getElem?_cons_zero]; rfl) (by kernel_rfl) (by kernel_rfl) (by kernel_rfl) (fun _ _ _ h => h) (Or.inl ⟨by rfl, ?_⟩) (by assumption) ?_
            · intro w hSw; (try dsimp only at hSw); (try go_simp); ((try rw [if_pos (by omega)]); (try simp); (try (intro h9; omega)))
            try simp only [Act.put, List.setIfInBounds_toArray, List.set_cons_zero, List.set_cons_succ]
            refine wpAnyH_ready (rs := [21]) (by kernel_rfl) (by simp) ?_
            refine AllReadyH.cons (by simp only [List.getElem?_toArray, List.getElem?_cons_succ, List.getElem?_cons_zero]; rfl) (fun K hK => ?_) AllReadyH.nil
            go_simp
            clear hHeld
            refine hK.out _ _ (KS2.out _) (fun hHeld => ?_)
            clear hK K
            try simp only [Act.put, List.setIfInBounds_toArray, List.set_cons_zero, List.set_cons_succ]
            refine wpAnyH_done (by kernel_rfl) ?_ _
            refine NoPanic.normal ?_
            go_wp2
            (try rw [← HS1.out])
            go_roundg (d.ord.length - (i + 1))
            case measure => omega
            case rel => exact ⟨i + 1, hlt, rfl, by go_num, FIN.out _ (tab_4 q hq2)⟩
          | true =>
            rw [hxb] at BB
            have FIN := FI0 true true hxa hxb
            clear FI0 hxa hxb
            go_wp2_with (rw [← HY.out])
            refine wp_region_noPanic ?_
            refine wp_region_held_drew (S := fun W => W.cell? ⟨d.p, 6, none⟩ = some (.slice (some ⟨d.vb, 0, none⟩) d.c.gates.length d.c.gates.length) ∧ W.cell? ⟨wr.heap.size, 2, none⟩ = some (.int .i64 (q : Int)) ∧ W.cell? ⟨wr.heap.size, 3, none⟩ = some (.int .i64 (a : Int)) ∧ W.cell? ⟨wr.heap.size, 4, none⟩ = some (.int .i64 (b : Int))) (by kernel_rfl) (KS.out _ (Below.refl _ _).drew) (fun hHeld => ?_)
            refine wpAnyH_take (i := 0) (v := ?_) (by simp only [List.getElem?_toArray, List.getElem?_cons_zero]; rfl) (by kernel_rfl) (by kernel_rfl) (by kernel_rfl) (fun _ _ _ h => h) (Or.inl ⟨by rfl, ?_⟩) (by assumption) ?_
            rotate_left 1
            · intro w hSw; (try dsimp only at hSw); go_simp; (try with_reducible rfl)
            try simp only [Act.put, List.setIfInBounds_toArray, List.set_cons_zero, List.set_cons_succ]
            refine wpAnyH_take (i := 1) (v := ?_) (by simp only [List.getElem?_toArray, List.getElem?_cons_succ, List.getElem?_cons_zero]; rfl) (by kernel_rfl) (by kernel_rfl) (by kernel_rfl) (fun _ _ _ h => h) (Or.inl ⟨by rfl, ?_⟩) (by assumption) ?_
            rotate_left 1
            · intro w hSw; (try dsimp only at hSw); go_simp; (try with_reducible rfl)
            try simp only [Act.put, List.setIfInBounds_toArray, List.set_cons_zero, List.set_cons_succ]
            refine wpAnyH_take (i := 2) (v := ?_) (by simp only [List.getElem?_toArray, List.getElem?_cons_succ, List.getElem?_cons_zero]; rfl) (by kernel_rfl) (by kernel_rfl) (by kernel_rfl) (fun _ _ _ h => h) (Or.inl ⟨by rfl, ?_⟩) (by assumption) ?_
            rotate_left 1
            · intro w hSw; (try dsimp only at hSw); go_simp; (try with_reducible rfl)
            try simp only [Act.put, List.setIfInBounds_toArray, List.set_cons_zero, List.set_cons_succ]
            refine wpAnyH_take (i := 3) (v := ?_) (by simp only [List.getElem?_toArray, List.getElem?_cons_succ, List.getElem?_cons_zero]; rfl) (by kernel_rfl) (by kernel_rfl) (by kernel_rfl) (fun _ _ _ h => h) (Or.inl ⟨by rfl, ?_⟩) (by assumption) ?_
            rotate_left 1
            · intro w hSw; (try dsimp only at hSw); go_simp; (try with_reducible rfl)
            try simp only [Act.put, List.setIfInBounds_toArray, List.set_cons_zero, List.set_cons_succ]
            refine wpAnyH_take (i := 4) (v := ?_) (by simp only [List.getElem?_toArray, List.getElem?_cons_succ, List.getElem?_cons_zero]; rfl) (by kernel_rfl) (by kernel_rfl) (by kernel_rfl) (fun _ _ _ h => h) (Or.inl ⟨by rfl, ?_⟩) (by assumption) ?_
            rotate_left 1
            · intro w hSw; (try dsimp only at hSw); go_simp; (try with_reducible rfl)
            try simp only [Act.put, List.setIfInBounds_toArray, List.set_cons_zero, List.set_cons_succ]
            refine wpAnyH_take (i := 5) (v := ?_) (by simp only [List.getElem?_toArray, List.getElem?_cons_succ, List.getElem?_cons_zero]; rfl) (by kernel_rfl) (by kernel_rfl) (by kernel_rfl) (fun _ _ _ h => h) (Or.inl ⟨by rfl, ?_⟩) (by assumption) ?_
            rotate_left 1
            · intro w hSw; (try dsimp only at hSw); go_simp; (try with_reducible rfl)
            try simp only [Act.put, List.setIfInBounds_toArray, List.set_cons_zero, List.set_cons_succ]
            refine wpAnyH_take (i := 6) (v := ?_) (by simp only [List.getElem?_toArray, List.getElem?_cons_succ, List.getElem?_cons_zero]; rfl) (by kernel_rfl) (by kernel_rfl) (by kernel_rfl) (fun _ _ _ h => h) (Or.inl ⟨by rfl, ?_⟩) (by assumption) ?_
            rotate_left 1
            · intro w hSw; (try dsimp only at hSw); go_simp; (try with_reducible rfl)
            try simp only [Act.put, List.setIfInBounds_toArray, List.set_cons_zero, List.set_cons_succ]
            refine wpAnyH_take (i := 7) (v := ?_) (by simp only [List.getElem?_toArray, List.getElem?_cons_succ, List.getElem?_cons_zero]; rfl) (by kernel_rfl) (by kernel_rfl) (by kernel_rfl) (fun _ _ _ h => h) (Or.inl ⟨by rfl, ?_⟩) (by assumption) ?_
            rotate_left 1
            · intro w hSw; (try dsimp only at hSw); go_simp; (try with_reducible rfl)
            try simp only [Act.put, List.setIfInBounds_toArray, List.set_cons_zero, List.set_cons_succ]
            refine wpAnyH_take (i := 8) (v := ?_) (by simp only [List.getElem?_toArray, List.getElem?_cons_succ, List.getElem?_cons_zero]; rfl) (by kernel_rfl) (by kernel_rfl) (by kernel_rfl) (fun _ _ _ h => h) (Or.inl ⟨by rfl, ?_⟩) (by assumption) ?_
            rotate_left 1
            · intro w hSw; (try dsimp only at hSw); go_simp; (try with_reducible rfl)
            try simp only [Act.put, List.setIfInBounds_toArray, List.set_cons_zero, List.set_cons_succ]
            refine wpAnyH_take (i := 9) (v := ?_) (by simp only [List.getElem?_toArray, List.getElem?_cons_succ, List.getElem?_cons_zero]; rfl) (by kernel_rfl) (by kernel_rfl) (by kernel_rfl) (fun _ _ _ h => h) (Or.inl ⟨by rfl, ?_⟩) (by assumption) ?_
            rotate_left 1
            · intro w hSw; (try dsimp only at hSw); go_simp; (try with_reducible rfl)
            try simp only [Act.put, List.setIfInBounds_toArray, List.set_cons_zero, List.set_cons_succ]
            refine wpAnyH_take (i := 12) (v := ?_) (by simp only [List.getElem?_toArray, List.getElem?_cons_succ, List.getElem?_cons_zero]; rfl) (by kernel_rfl) (by kernel_rfl) (by kernel_rfl) (fun _ _ _ h => h) (Or.inl ⟨by rfl, ?_⟩) (by assumption) ?_
            rotate_left 1
            · intro w hSw; (try dsimp only at hSw); go_simp; (try with_reducible rfl)
            try simp only [Act.put, List.setIfInBounds_toArray, List.set_cons_zero, List.set_cons_succ]
            refine wpAnyH_take (i := 13) (v := ?_) (by simp only [List.getElem?_toArray, List.getElem?_cons_succ, List.getElem?_cons_zero]; rfl) (by kernel_rfl) (by kernel_rfl) (by kernel_rfl) (fun _ _ _ h => h) (Or.inl ⟨by rfl, ?_⟩) (by assumption) ?_
            rotate_left 1
            · intro w hSw; (try dsimp only at hSw); go_simp; (try with_reducible rfl)
            try simp only [Act.put, List.setIfInBounds_toArray, List.set_cons_zero, List.set_cons_succ]
            refine wpAnyH_take (i := 14) (v := ?_) (by simp only [List.getElem?_toArray, List.getElem?_cons_succ, List.getElem?_cons_zero]; rfl) (by kernel_rfl) (by kernel_rfl) (by kernel_rfl) (fun _ _ _ h => h) (Or.inl ⟨by rfl, ?_⟩) (by assumption) ?_
            rotate_left 1
            · intro w hSw; (try dsimp only at hSw); go_simp; (try with_reducible rfl)
            try simp only [Act.put, List.setIfInBounds_toArray, List.set_cons_zero, List.set_cons_succ]
            refine wpAnyH_ready (rs := [10]) (by kernel_rfl) (by simp) ?_
            refine AllReadyH.cons (by simp only [List.getElem?_toArray, List.getElem?_cons_succ, List.getElem?_cons_zero]; rfl) (fun K hK => ?_) AllReadyH.nil
            go_simp
            go_at_call 67
            refine Calls.mono (BA.out _ (Below.refl _ _).drew) ?_
            rintro e w7 ⟨rfl, rfl⟩
            clear hHeld
            refine hK.out _ _ (KS.out _ (Below.refl _ _).drew) (fun hHeld => ?_)
            clear hK K
            try simp only [Act.put, List.setIfInBounds_toArray, List.set_cons_zero, List.set_cons_succ]
            refine wpAnyH_take (i := 11) (v := .int .i64 2) (by simp only [List.getElem?_toArray, List.getElem?_cons_succ, List.getElem?_cons_zero]; rfl) (by kernel_rfl) (by kernel_rfl) (by kernel_rfl) (fun _ _ _ h => h) (Or.inl ⟨by rfl, ?_⟩) (by assumption) ?_
            · intro w hSw; (try dsimp only at hSw); (try go_simp); (first | done | (with_reducible rfl) | rfl | omega | (simp; done) | (simp; omega))
            try simp only [Act.put, List.setIfInBounds_toArray, List.set_cons_zero, List.set_cons_succ]
            refine wpAnyH_ready (rs := [15]) (by kernel_rfl) (by simp) ?_
            refine AllReadyH.cons (by simp only [List.getElem?_toArray, List.getElem?_cons_succ, List.getElem?_cons_zero]; rfl) (fun K hK => ?_) AllReadyH.nil
            go_simp
            go_at_call 67
            refine Calls.mono (BB.out _ (Below.refl _ _).drew) ?_
            rintro e w7 ⟨rfl, rfl⟩
            clear hHeld
            refine hK.out _ _ (KS.out _ (Below.refl _ _).drew) (fun hHeld => ?_)
            clear hK K
            try simp only [Act.put, List.setIfInBounds_toArray, List.set_cons_zero, List.set_cons_succ]
            refine wpAnyH_take (i := 16) (v := .int .i64 3) (by simp only [List.getElem?_toArray, List.getElem?_cons_succ, List.getElem?_cons_zero]; rfl) (by kernel_rfl) (by kernel_rfl) (by kernel_rfl) (fun _ _ _ h => h) (Or.inl ⟨by rfl, ?_⟩) (by assumption) ?_
            · intro w hSw; (try dsimp only at hSw); (try go_simp); (first | done | (with_reducible rfl) | rfl | omega | (simp; done) | (simp; omega))
            try simp only [Act.put, List.setIfInBounds_toArray, List.set_cons_zero, List.set_cons_succ]
            refine wpAnyH_take (i := 17) (v := .int .i64 ((q : Int) / 8)) (by simp only [List.getElem?_toArray, List.getElem?_cons_succ, List.getElem?_cons_zero]; rfl) (by kernel_rfl) (by kernel_rfl) (by kernel_rfl) (fun _ _ _ h => h) (Or.inl ⟨by rfl, ?_⟩) (by assumption) ?_
            · intro w hSw; (try dsimp only at hSw); (try go_simp); (first | done | (with_reducible rfl) | rfl | omega | (simp; done) | (simp; omega))
            try simp only [Act.put, List.setIfInBounds_toArray, List.set_cons_zero, List.set_cons_succ]
            refine wpAnyH_take (i := 18) (v := ?_) (by simp only [List.getElem?_toArray, List.getElem?_cons_succ, List.getElem?_cons_zero]; rfl) (by kernel_rfl) (by kernel_rfl) (by kernel_rfl) (fun _ _ _ h => h) (Or.inl ⟨by rfl, ?_⟩) (by assumption) ?_
            rotate_left 1
            · intro w hSw; (try dsimp only at hSw); go_simp; (try with_reducible rfl)
            try simp only [Act.put, List.setIfInBounds_toArray, List.set_cons_zero, List.set_cons_succ]
            refine wpAnyH_take (i := 19) (v := ?_) (by simp only [List.getElem?_toArray, List.getElem?_cons_succ, List.getElem?_cons_zero]; rfl) (by kernel_rfl) (by kernel_rfl) (by kernel_rfl) (fun _ _ _ h => h) (Or.inl ⟨by rfl, ?_⟩) (by assumption) ?_
            rotate_left 1
            · intro w hSw; (try dsimp only at hSw); go_simp; (try with_reducible rfl)
            try simp only [Act.put, List.setIfInBounds_toArray, List.set_cons_zero, List.set_cons_succ]
            refine wpAnyH_take (i := 20) (v := .pointer (some ⟨d.vb, x, none⟩)) (by simp only [List.getElem?_toArray, List.getElem?_cons_succ, List.getElem?_cons_zero]; rfl) (by kernel_rfl) (by kernel_rfl) (by kernel_rfl) (fun _ _ _ h => h) (Or.inl ⟨by rfl, ?_⟩) (by assumption) ?_
            · intro w hSw; (try dsimp only at hSw); (try go_simp); ((try rw [if_pos (by omega)]); (try simp); (try (intro h9; omega)))
            try simp only [Act.put, List.setIfInBounds_toArray, List.set_cons_zero, List.set_cons_succ]
            refine wpAnyH_ready (rs := [21]) (by kernel_rfl) (by simp) ?_
            refine AllReadyH.cons (by simp only [List.getElem?_toArray, List.getElem?_cons_succ, List.getElem?_cons_zero]; rfl) (fun K hK => ?_) AllReadyH.nil
            go_simp
            clear hHeld
            refine hK.out _ _ (KS2.out _) (fun hHeld => ?_)
            clear hK K
            try simp only [Act.put, List.setIfInBounds_toArray, List.set_cons_zero, List.set_cons_succ]
            refine wpAnyH_done (by kernel_rfl) ?_ _
            refine NoPanic.normal ?_
            go_wp2
            (try rw [← HS1.out])
            go_roundg (d.ord.length - (i + 1))
            case measure => omega
            case rel => exact ⟨i + 1, hlt, rfl, by go_num, FIN.out _ (tab_8 q hq2)⟩
      · have hk2b : (g.kind == 2) = false := beq_eq_false_iff_ne.2 hk2
        by_cases hk4 : g.kind = 4
        · obtain ⟨⟨ha0, ha1⟩, ⟨hb0, hb1⟩, hc0, hc1⟩ := line_four hline hk4
          obtain ⟨a, ha⟩ : ∃ a : Nat, g.a = (a : Int) := ⟨g.a.toNat, by omega⟩
          have hal : a < d.c.gates.length := by omega
          obtain ⟨m, hm⟩ : ∃ m : Nat, (if valAt v g.a = true then g.b else g.c) = (m : Int) := ⟨(if valAt v g.a = true then g.b else g.c).toNat, by split <;> omega⟩
          have hml : m < d.c.gates.length := by
            have : (m : Int) < (d.c.gates.length : Int) := by rw [← hm]; split <;> omega
            omega
          have HM := hid hm
          have hk4b : (g.kind == 4) = true := by rw [hk4]; rfl
          have KS : Hid (∀ W, Below Y.heap.size Y W → W.cell? ⟨d.p, 6, none⟩ = some (.slice (some ⟨d.vb, 0, none⟩) d.c.gates.length d.c.gates.length) ∧ W.cell? ⟨wr.heap.size, 0, none⟩ = some (.int .i64 g.kind) ∧ W.cell? ⟨wr.heap.size, 1, none⟩ = some (.string g.name) ∧ W.cell? ⟨wr.heap.size, 2, none⟩ = some (.int .i64 g.op) ∧ W.cell? ⟨wr.heap.size, 3, none⟩ = some (.int .i64 g.a) ∧ W.cell? ⟨wr.heap.size, 4, none⟩ = some (.int .i64 g.b) ∧ W.cell? ⟨wr.heap.size, 5, none⟩ = some (.int .i64 g.c)) := fun W hW => by
            have h5 := CY.out W hW
            exact ⟨(PY.out.on hW).cell 6, h5 0, h5 1, h5 2, h5 3, h5 4, h5 5⟩
          have KS3 : Hid (∀ W, Below Y.heap.size Y W → (W.setCell ⟨d.vb, x, none⟩ (.bool (valAt v (m : Int)))).cell? ⟨d.p, 6, none⟩ = some (.slice (some ⟨d.vb, 0, none⟩) d.c.gates.length d.c.gates.length) ∧ (W.setCell ⟨d.vb, x, none⟩ (.bool (valAt v (m : Int)))).cell? ⟨wr.heap.size, 0, none⟩ = some (.int .i64 g.kind) ∧ (W.setCell ⟨d.vb, x, none⟩ (.bool (valAt v (m : Int)))).cell? ⟨wr.heap.size, 1, none⟩ = some (.string g.name) ∧ (W.setCell ⟨d.vb, x, none⟩ (.bool (valAt v (m : Int)))).cell? ⟨wr.heap.size, 2, none⟩ = some (.int .i64 g.op) ∧ (W.setCell ⟨d.vb, x, none⟩ (.bool (valAt v (m : Int)))).cell? ⟨wr.heap.size, 3, none⟩ = some (.int .i64 g.a) ∧ (W.setCell ⟨d.vb, x, none⟩ (.bool (valAt v (m : Int)))).cell? ⟨wr.heap.size, 4, none⟩ = some (.int .i64 g.b) ∧ (W.setCell ⟨d.vb, x, none⟩ (.bool (valAt v (m : Int)))).cell? ⟨wr.heap.size, 5, none⟩ = some (.int .i64 g.c)) := fun W hW => by
            obtain ⟨k1, k2, k3, k4, k5, k6, k7⟩ := KS.out W hW
            have far := fun j : Nat => World.cell?_setCell_far W ⟨d.vb, x, none⟩ ⟨wr.heap.size, j, none⟩ (.bool (valAt v (m : Int))) (Ne.symm hvbY)
            exact ⟨(World.cell?_setCell_far _ _ _ _ (Ne.symm hn1)).trans k1, (far 0).trans k2, (far 1).trans k3, (far 2).trans k4, (far 3).trans k5, (far 4).trans k6, (far 5).trans k7⟩
          have CH : Hid (∀ W, Below Y.heap.size Y W → _) := fun W hW => chosen_ok d v g a W (PY.out.on hW) ha hal
          have FIN : Hid (∀ Z, Below Y.heap.size Y Z → Pl (Z.setCell ⟨d.vb, x, none⟩ (.bool (valAt v (m : Int)))) d (playL d.c.gates v2 (d.ord.take (i + 1))) ∧ w.grownBy (Z.setCell ⟨d.vb, x, none⟩ (.bool (valAt v (m : Int)))) (some d.vb)) := fun Z hZ => SET.out _ Z hZ (by
            unfold playOne
            rw [hg]
            simp only [hk4]
            rw [← hm]
            cases valAt v g.a <;> simp)
          obtain ⟨hvx, hfx, hvl⟩ := PY.out.val hxl
          clear hpl hgr hx hg hv hnext hY hline ha0 ha1 hb0 hb1 hc0 hc1 ha hm hk2 hk4 SET
          rw [hs1, hsg] at c0
          go_wp2_with (rw [← HY.out])
          refine wp_region_noPanic ?_
          refine wp_region_held_drew (S := fun W => W.cell? ⟨d.p, 6, none⟩ = some (.slice (some ⟨d.vb, 0, none⟩) d.c.gates.length d.c.gates.length) ∧ W.cell? ⟨wr.heap.size, 0, none⟩ = some (.int .i64 g.kind) ∧ W.cell? ⟨wr.heap.size, 1, none⟩ = some (.string g.name) ∧ W.cell? ⟨wr.heap.size, 2, none⟩ = some (.int .i64 g.op) ∧ W.cell? ⟨wr.heap.size, 3, none⟩ = some (.int .i64 g.a) ∧ W.cell? ⟨wr.heap.size, 4, none⟩ = some (.int .i64 g.b) ∧ W.cell? ⟨wr.heap.size, 5, none⟩ = some (.int .i64 g.c)) (by kernel_rfl) (KS.out _ (Below.refl _ _).drew) (fun hHeld => ?_)
          refine wpAnyH_take (i := 0) (v := ?_) (by simp only [List.getElem?_toArray, List.getElem?_cons_zero]; rfl) (by kernel_rfl) (by kernel_rfl) (by kernel_rfl) (fun _ _ _ h => h) (Or.inl ⟨by rfl, ?_⟩) (by assumption) ?_
          rotate_left 1
          · intro w hSw; (try dsimp only at hSw); go_simp; (try with_reducible rfl)
          try simp only [Act.put, List.setIfInBounds_toArray, List.set_cons_zero, List.set_cons_succ]
          refine wpAnyH_take (i := 1) (v := ?_) (by simp only [List.getElem?_toArray, List.getElem?_cons_succ, List.getElem?_cons_zero]; rfl) (by kernel_rfl) (by kernel_rfl) (by kernel_rfl) (fun _ _ _ h => h) (Or.inl ⟨by rfl, ?_⟩) (by assumption) ?_
          rotate_left 1
          · intro w hSw; (try dsimp only at hSw); go_simp; (try with_reducible rfl)
          try simp only [Act.put, List.setIfInBounds_toArray, List.set_cons_zero, List.set_cons_succ]
          refine wpAnyH_take (i := 2) (v := ?_) (by simp only [List.getElem?_toArray, List.getElem?_cons_succ, List.getElem?_cons_zero]; rfl) (by kernel_rfl) (by kernel_rfl) (by kernel_rfl) (fun _ _ _ h => h) (Or.inl ⟨by rfl, ?_⟩) (by assumption) ?_
          rotate_left 1
          · intro w hSw; (try dsimp only at hSw); go_simp; (try with_reducible rfl)
          try simp only [Act.put, List.setIfInBounds_toArray, List.set_cons_zero, List.set_cons_succ]
          refine wpAnyH_take (i := 3) (v := ?_) (by simp only [List.getElem?_toArray, List.getElem?_cons_succ, List.getElem?_cons_zero]; rfl) (by kernel_rfl) (by kernel_rfl) (by kernel_rfl) (fun _ _ _ h => h) (Or.inl ⟨by rfl, ?_⟩) (by assumption) ?_
          rotate_left 1
          · intro w hSw; (try dsimp only at hSw); go_simp; (try with_reducible rfl)
          try simp only [Act.put, List.setIfInBounds_toArray, List.set_cons_zero, List.set_cons_succ]
          refine wpAnyH_take (i := 4) (v := ?_) (by simp only [List.getElem?_toArray, List.getElem?_cons_succ, List.getElem?_cons_zero]; rfl) (by kernel_rfl) (by kernel_rfl) (by kernel_rfl) (fun _ _ _ h => h) (Or.inl ⟨by rfl, ?_⟩) (by assumption) ?_
          rotate_left 1
          · intro w hSw; (try dsimp only at hSw); go_simp; (try with_reducible rfl)
          try simp only [Act.put, List.setIfInBounds_toArray, List.set_cons_zero, List.set_cons_succ]
          refine wpAnyH_take (i := 5) (v := ?_) (by simp only [List.getElem?_toArray, List.getElem?_cons_succ, List.getElem?_cons_zero]; rfl) (by kernel_rfl) (by kernel_rfl) (by kernel_rfl) (fun _ _ _ h => h) (Or.inl ⟨by rfl, ?_⟩) (by assumption) ?_
          rotate_left 1
          · intro w hSw; (try dsimp only at hSw); go_simp; (try with_reducible rfl)
          try simp only [Act.put, List.setIfInBounds_toArray, List.set_cons_zero, List.set_cons_succ]
          refine wpAnyH_take (i := 6) (v := ?_) (by simp only [List.getElem?_toArray, List.getElem?_cons_succ, List.getElem?_cons_zero]; rfl) (by kernel_rfl) (by kernel_rfl) (by kernel_rfl) (fun _ _ _ h => h) (Or.inl ⟨by rfl, ?_⟩) (by assumption) ?_
          rotate_left 1
          · intro w hSw; (try dsimp only at hSw); go_simp; (try with_reducible rfl)
          try simp only [Act.put, List.setIfInBounds_toArray, List.set_cons_zero, List.set_cons_succ]
          refine wpAnyH_take (i := 7) (v := ?_) (by simp only [List.getElem?_toArray, List.getElem?_cons_succ, List.getElem?_cons_zero]; rfl) (by kernel_rfl) (by kernel_rfl) (by kernel_rfl) (fun _ _ _ h => h) (Or.inl ⟨by rfl, ?_⟩) (by assumption) ?_
          rotate_left 1
          · intro w hSw; (try dsimp only at hSw); go_simp; (try with_reducible rfl)
          try simp only [Act.put, List.setIfInBounds_toArray, List.set_cons_zero, List.set_cons_succ]
          refine wpAnyH_take (i := 8) (v := ?_) (by simp only [List.getElem?_toArray, List.getElem?_cons_succ, List.getElem?_cons_zero]; rfl) (by kernel_rfl) (by kernel_rfl) (by kernel_rfl) (fun _ _ _ h => h) (Or.inl ⟨by rfl, ?_⟩) (by assumption) ?_
          rotate_left 1
          · intro w hSw; (try dsimp only at hSw); go_simp; (try with_reducible rfl)
          try simp only [Act.put, List.setIfInBounds_toArray, List.set_cons_zero, List.set_cons_succ]
          refine wpAnyH_take (i := 9) (v := ?_) (by simp only [List.getElem?_toArray, List.getElem?_cons_succ, List.getElem?_cons_zero]; rfl) (by kernel_rfl) (by kernel_rfl) (by kernel_rfl) (fun _ _ _ h => h) (Or.inl ⟨by rfl, ?_⟩) (by assumption) ?_
          rotate_left 1
          · intro w hSw; (try dsimp only at hSw); go_simp; (try with_reducible rfl)
          try simp only [Act.put, List.setIfInBounds_toArray, List.set_cons_zero, List.set_cons_succ]
          refine wpAnyH_take (i := 10) (v := ?_) (by simp only [List.getElem?_toArray, List.getElem?_cons_succ, List.getElem?_cons_zero]; rfl) (by kernel_rfl) (by kernel_rfl) (by kernel_rfl) (fun _ _ _ h => h) (Or.inl ⟨by rfl, ?_⟩) (by assumption) ?_
          rotate_left 1
          · intro w hSw; (try dsimp only at hSw); go_simp; (try with_reducible rfl)
          try simp only [Act.put, List.setIfInBounds_toArray, List.set_cons_zero, List.set_cons_succ]
          refine wpAnyH_ready (rs := [11]) (by kernel_rfl) (by simp) ?_
          refine AllReadyH.cons (by simp only [List.getElem?_toArray, List.getElem?_cons_succ, List.getElem?_cons_zero]; rfl) (fun K hK => ?_) AllReadyH.nil
          go_simp
          go_at_call 68
          refine Calls.mono (CH.out _ (Below.refl _ _).drew) ?_
          rintro e w7 ⟨rfl, b7⟩
          have B7 : Hid (Below Y.heap.size Y w7) := (Below.refl Y.heap.size Y).drew.trans b7
          have hm7 : w7.cell? ⟨d.vb, m, none⟩ = some (.bool (valAt v (m : Int))) := ((PY.out.on B7.out).val hml).1
          have hf7 : w7.frozen? ⟨d.vb, x, none⟩ = false := ((PY.out.on B7.out).val hxl).2.1
          have hx7 := ((PY.out.on B7.out).val hxl).1
          have F7 := hid (FIN.out w7 B7.out)
          have K7 := hid (KS3.out w7 B7.out)
          rw [HM.out]
          clear b7
          clear hHeld
          refine hK.out _ _ (KS.out _ B7.out) (fun hHeld => ?_)
          clear hK K
          try simp only [Act.put, List.setIfInBounds_toArray, List.set_cons_zero, List.set_cons_succ]
          refine wpAnyH_take (i := 12) (v := .pointer (some ⟨d.vb, m, none⟩)) (by simp only [List.getElem?_toArray, List.getElem?_cons_succ, List.getElem?_cons_zero]; rfl) (by kernel_rfl) (by kernel_rfl) (by kernel_rfl) (fun _ _ _ h => h) (Or.inl ⟨by rfl, ?_⟩) (by assumption) ?_
          · intro w hSw; (try dsimp only at hSw); (try go_simp); ((try rw [if_pos (by omega)]); (try simp); (try (intro h9; omega)))
          try simp only [Act.put, List.setIfInBounds_toArray, List.set_cons_zero, List.set_cons_succ]
          refine wpAnyH_ready (rs := [13]) (by kernel_rfl) (by simp) ?_
          refine AllReadyH.cons (by simp only [List.getElem?_toArray, List.getElem?_cons_succ, List.getElem?_cons_zero]; rfl) (fun K hK => ?_) AllReadyH.nil
          go_simp
          clear hHeld
          refine hK.out _ _ (KS.out _ B7.out) (fun hHeld => ?_)
          clear hK K
          try simp only [Act.put, List.setIfInBounds_toArray, List.set_cons_zero, List.set_cons_succ]
          refine wpAnyH_take (i := 14) (v := .pointer (some ⟨d.vb, x, none⟩)) (by simp only [List.getElem?_toArray, List.getElem?_cons_succ, List.getElem?_cons_zero]; rfl) (by kernel_rfl) (by kernel_rfl) (by kernel_rfl) (fun _ _ _ h => h) (Or.inl ⟨by rfl, ?_⟩) (by assumption) ?_
          · intro w hSw; (try dsimp only at hSw); (try go_simp); ((try rw [if_pos (by omega)]); (try simp); (try (intro h9; omega)))
          try simp only [Act.put, List.setIfInBounds_toArray, List.set_cons_zero, List.set_cons_succ]
          refine wpAnyH_ready (rs := [15]) (by kernel_rfl) (by simp) ?_
          refine AllReadyH.cons (by simp only [List.getElem?_toArray, List.getElem?_cons_succ, List.getElem?_cons_zero]; rfl) (fun K hK => ?_) AllReadyH.nil
          go_simp
          clear hHeld
          refine hK.out _ _ K7.out (fun hHeld => ?_)
          clear hK K
          try simp only [Act.put, List.setIfInBounds_toArray, List.set_cons_zero, List.set_cons_succ]
          refine wpAnyH_done (by kernel_rfl) ?_ _
          refine NoPanic.normal ?_
          go_wp2
          (try rw [← HS1.out])
          go_roundg (d.ord.length - (i + 1))
          case measure => omega
          case rel => exact ⟨i + 1, hlt, rfl, by go_num, F7.out⟩
        · have hk4b : (g.kind == 4) = false := beq_eq_false_iff_ne.2 hk4
          have FIN : Hid (Pl Y d (playL d.c.gates v2 (d.ord.take (i + 1))) ∧ w.grownBy Y (some d.vb)) := by
            rw [hnext, show playOne d.c.gates v x = v by unfold playOne; rw [hg]; simp [hk2, hk4]]
            exact ⟨PY.out, GY.out⟩
          clear hpl hgr hx hg hv hnext hY hline hk2 hk4 SET
          rw [hs1, hsg] at c0
          go_wp2_with (rw [← HY.out])
          (try rw [← HS1.out])
          go_roundg (d.ord.length - (i + 1))
          case measure => omega
          case rel => exact ⟨i + 1, hlt, rfl, by go_num, FIN.out⟩
    · rw [List.take_of_length_le (by omega)] at hpl
      have PW := hid hpl
      have KS : Hid (∀ W, Below wr.heap.size wr W → W.cell? ⟨d.p, 5, none⟩ = some (.slice d.so d.c.outs.length d.co) ∧ W.cell? ⟨d.p, 4, none⟩ = some (.slice d.s4 d.srcs.length d.c4)) := fun W hW => ⟨(PW.out.on hW).cell 5, (PW.out.on hW).cell 4⟩
      have GO : Hid (∀ W, Below wr.heap.size wr W → _) := fun W hW => get_ok d _ d.c.outs d.so d.co W (PW.out.on hW) (PW.out.on hW).cir.outs GD.out.fewO GD.out.outs
      have GS : Hid (∀ W, Below wr.heap.size wr W → _) := fun W hW => get_ok d _ d.srcs d.s4 d.c4 W (PW.out.on hW) (PW.out.on hW).src GD.out.fewS GD.out.srcs
      clear hpl hgr
      go_wp2
      refine wp_region_noPanic ?_
      refine wp_region_held_drew (S := fun W => W.cell? ⟨d.p, 5, none⟩ = some (.slice d.so d.c.outs.length d.co) ∧ W.cell? ⟨d.p, 4, none⟩ = some (.slice d.s4 d.srcs.length d.c4)) (by kernel_rfl) (KS.out _ (Below.refl _ _).drew) (fun hHeld => ?_)
      refine wpAnyH_take (i := 0) (v := ?_) (by simp only [List.getElem?_toArray, List.getElem?_cons_zero]; rfl) (by kernel_rfl) (by kernel_rfl) (by kernel_rfl) (fun _ _ _ h => h) (Or.inl ⟨by rfl, ?_⟩) (by assumption) ?_
      rotate_left 1
      · intro w hSw; (try dsimp only at hSw); go_simp; (try with_reducible rfl)
      try simp only [Act.put, List.setIfInBounds_toArray, List.set_cons_zero, List.set_cons_succ]
      refine wpAnyH_take (i := 1) (v := ?_) (by simp only [List.getElem?_toArray, List.getElem?_cons_succ, List.getElem?_cons_zero]; rfl) (by kernel_rfl) (by kernel_rfl) (by kernel_rfl) (fun _ _ _ h => h) (Or.inl ⟨by rfl, ?_⟩) (by assumption) ?_
      rotate_left 1
      · intro w hSw; (try dsimp only at hSw); go_simp; (try with_reducible rfl)
      try simp only [Act.put, List.setIfInBounds_toArray, List.set_cons_zero, List.set_cons_succ]
      refine wpAnyH_take (i := 2) (v := ?_) (by simp only [List.getElem?_toArray, List.getElem?_cons_succ, List.getElem?_cons_zero]; rfl) (by kernel_rfl) (by kernel_rfl) (by kernel_rfl) (fun _ _ _ h => h) (Or.inl ⟨by rfl, ?_⟩) (by assumption) ?_
      rotate_left 1
      · intro w hSw; (try dsimp only at hSw); go_simp; (try with_reducible rfl)
      try simp only [Act.put, List.setIfInBounds_toArray, List.set_cons_zero, List.set_cons_succ]
      refine wpAnyH_take (i := 3) (v := ?_) (by simp only [List.getElem?_toArray, List.getElem?_cons_succ, List.getElem?_cons_zero]; rfl) (by kernel_rfl) (by kernel_rfl) (by kernel_rfl) (fun _ _ _ h => h) (Or.inl ⟨by rfl, ?_⟩) (by assumption) ?_
      rotate_left 1
      · intro w hSw; (try dsimp only at hSw); go_simp; (try with_reducible rfl)
      try simp only [Act.put, List.setIfInBounds_toArray, List.set_cons_zero, List.set_cons_succ]
      refine wpAnyH_take (i := 4) (v := ?_) (by simp only [List.getElem?_toArray, List.getElem?_cons_succ, List.getElem?_cons_zero]; rfl) (by kernel_rfl) (by kernel_rfl) (by kernel_rfl) (fun _ _ _ h => h) (Or.inl ⟨by rfl, ?_⟩) (by assumption) ?_
      rotate_left 1
      · intro w hSw; (try dsimp only at hSw); go_simp; (try with_reducible rfl)
      try simp only [Act.put, List.setIfInBounds_toArray, List.set_cons_zero, List.set_cons_succ]
      refine wpAnyH_take (i := 6) (v := ?_) (by simp only [List.getElem?_toArray, List.getElem?_cons_succ, List.getElem?_cons_zero]; rfl) (by kernel_rfl) (by kernel_rfl) (by kernel_rfl) (fun _ _ _ h => h) (Or.inl ⟨by rfl, ?_⟩) (by assumption) ?_
      rotate_left 1
      · intro w hSw; (try dsimp only at hSw); go_simp; (try with_reducible rfl)
      try simp only [Act.put, List.setIfInBounds_toArray, List.set_cons_zero, List.set_cons_succ]
      refine wpAnyH_take (i := 7) (v := ?_) (by simp only [List.getElem?_toArray, List.getElem?_cons_succ, List.getElem?_cons_zero]; rfl) (by kernel_rfl) (by kernel_rfl) (by kernel_rfl) (fun _ _ _ h => h) (Or.inl ⟨by rfl, ?_⟩) (by assumption) ?_
      rotate_left 1
      · intro w hSw; (try dsimp only at hSw); go_simp; (try with_reducible rfl)
      try simp only [Act.put, List.setIfInBounds_toArray, List.set_cons_zero, List.set_cons_succ]
      refine wpAnyH_take (i := 8) (v := ?_) (by simp only [List.getElem?_toArray, List.getElem?_cons_succ, List.getElem?_cons_zero]; rfl) (by kernel_rfl) (by kernel_rfl) (by kernel_rfl) (fun _ _ _ h => h) (Or.inl ⟨by rfl, ?_⟩) (by assumption) ?_
      rotate_left 1
      · intro w hSw; (try dsimp only at hSw); go_simp; (try with_reducible rfl)
      try simp only [Act.put, List.setIfInBounds_toArray, List.set_cons_zero, List.set_cons_succ]
      refine wpAnyH_take (i := 9) (v := ?_) (by simp only [List.getElem?_toArray, List.getElem?_cons_succ, List.getElem?_cons_zero]; rfl) (by kernel_rfl) (by kernel_rfl) (by kernel_rfl) (fun _ _ _ h => h) (Or.inl ⟨by rfl, ?_⟩) (by assumption) ?_
      rotate_left 1
      · intro w hSw; (try dsimp only at hSw); go_simp; (try with_reducible rfl)
      try simp only [Act.put, List.setIfInBounds_toArray, List.set_cons_zero, List.set_cons_succ]
      refine wpAnyH_take (i := 10) (v := ?_) (by simp only [List.getElem?_toArray, List.getElem?_cons_succ, List.getElem?_cons_zero]; rfl) (by kernel_rfl) (by kernel_rfl) (by kernel_rfl) (fun _ _ _ h => h) (Or.inl ⟨by rfl, ?_⟩) (by assumption) ?_
      rotate_left 1
      · intro w hSw; (try dsimp only at hSw); go_simp; (try with_reducible rfl)
      try simp only [Act.put, List.setIfInBounds_toArray, List.set_cons_zero, List.set_cons_succ]
      refine wpAnyH_ready (rs := [5]) (by kernel_rfl) (by simp) ?_
      refine AllReadyH.cons (by simp only [List.getElem?_toArray, List.getElem?_cons_succ, List.getElem?_cons_zero]; rfl) (fun K hK => ?_) AllReadyH.nil
      go_simp
      go_at_call 69
      refine Calls.mono (GO.out _ (Below.refl _ _).drew) ?_
      rintro e w7 ⟨b7, rfl, hb7, hr7, bb7⟩
      have BB7 : Hid (Below wr.heap.size wr w7) := (Below.refl wr.heap.size wr).drew.trans bb7
      have HR7 := hid hr7
      have BL7 := hid bb7
      have hbs7 : wr.heap.size ≤ b7 := hb7
      clear hr7 bb7 hb7
      clear hHeld
      refine hK.out _ _ (KS.out _ BB7.out) (fun hHeld => ?_)
      clear hK K
      try simp only [Act.put, List.setIfInBounds_toArray, List.set_cons_zero, List.set_cons_succ]
      refine wpAnyH_ready (rs := [11]) (by kernel_rfl) (by simp) ?_
      refine AllReadyH.cons (by simp only [List.getElem?_toArray, List.getElem?_cons_succ, List.getElem?_cons_zero]; rfl) (fun K hK => ?_) AllReadyH.nil
      go_simp
      go_at_call 69
      refine Calls.mono (GS.out _ BB7.out) ?_
      rintro e w8 ⟨b8, rfl, hb8, hr8, bb8⟩
      have BB8 : Hid (Below wr.heap.size wr w8) := BB7.out.trans (bb8.mono BB7.out.size)
      have HR8 := hid hr8
      have BL8 := hid bb8
      have hbs8 : wr.heap.size ≤ b8 := Nat.le_trans BB7.out.size hb8
      have hne78 : b7 ≠ b8 := fun e => by have h9 := (Array.getElem?_eq_some_iff.1 HR7.out).1; omega
      clear hr8 bb8 hb8
      clear hHeld
      refine hK.out _ _ (KS.out _ BB8.out) (fun hHeld => ?_)
      clear hK K
      try simp only [Act.put, List.setIfInBounds_toArray, List.set_cons_zero, List.set_cons_succ]
      refine wpAnyH_take (i := 12) (v := ?_) (by simp only [List.getElem?_toArray, List.getElem?_cons_succ, List.getElem?_cons_zero]; rfl) (by kernel_rfl) (by kernel_rfl) (by kernel_rfl) (fun _ _ _ h => h) (Or.inl ⟨by rfl, ?_⟩) (by assumption) ?_
      rotate_left 1
      · intro w hSw; (try dsimp only at hSw); go_simp; (try with_reducible rfl)
      try simp only [Act.put, List.setIfInBounds_toArray, List.set_cons_zero, List.set_cons_succ]
      refine wpAnyH_take (i := 13) (v := ?_) (by simp only [List.getElem?_toArray, List.getElem?_cons_succ, List.getElem?_cons_zero]; rfl) (by kernel_rfl) (by kernel_rfl) (by kernel_rfl) (fun _ _ _ h => h) (Or.inl ⟨by rfl, ?_⟩) (by assumption) ?_
      rotate_left 1
      · intro w hSw; (try dsimp only at hSw); go_simp; (try with_reducible rfl)
      try simp only [Act.put, List.setIfInBounds_toArray, List.set_cons_zero, List.set_cons_succ]
      refine wpAnyH_done (by kernel_rfl) ?_ _
      refine NoPanic.normal ?_
      go_wp2
      have hold := (BL8.out.block _ (Array.getElem?_eq_some_iff.1 HR7.out).1).trans HR7.out
      exact bodyPost_ret (v := .tuple #[.slice (some ⟨b7, 0, none⟩) d.c.outs.length d.c.outs.length, .slice (some ⟨b8, 0, none⟩) d.srcs.length d.srcs.length]) (by simp [results, Tryd.results43, go_sem]) rfl ⟨b7, b8, rfl, Nat.le_trans GR.out.size hbs7, Nat.le_trans GR.out.size hbs8, hold, HR8.out, PW.out.on BB8.out, grown_below GR.out BB8.out, hne78⟩
end Go.Proofs.YtfmmmhcpdinhgaaDoor
