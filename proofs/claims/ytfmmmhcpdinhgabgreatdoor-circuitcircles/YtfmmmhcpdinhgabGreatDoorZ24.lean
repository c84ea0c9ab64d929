import Derived.Test.YtfmmmhcpdinhgabGreatDoorZ23
/-
  The law's made circuits.
-/
namespace Go.Proofs.YtfmmmhcpdinhgabGreatDoor
open Go.RowKit Go.Deep PureNet
set_option maxRecDepth 100000

theorem wrap_range (z : Int) : -9223372036854775808 ≤ IntKind.i64.wrap z ∧ IntKind.i64.wrap z ≤ 9223372036854775807 := by rw [IntKind.wrap_i64]; omega
theorem ownsRow_store {W : World} {b B e size n t i : Nat} {v u : Value} {xs : List Value} {cs : Array Value} {fz : Nat × Nat} (h : W.ownsRow B e size v n xs) (hr : W.heap[b]? = some (.cells cs t fz)) (hte : t ≠ e) : (W.setCell ⟨b, i, none⟩ u).ownsRow B e size v n xs := by
  have hne := own_ne h hr hte
  refine ⟨h.1, ?_⟩
  rcases h.2 with hn | ⟨g, cap, cur, hv, hB, hg, rest⟩
  · exact .inl hn
  · refine .inr ⟨g, cap, cur, hv, hB, (Below.heap_setCell W _ _ _ ?_).trans hg, rest⟩
    intro e
    exact hne (by rw [hv]; simp [Value.ownBlock]; exact e)
/-- the circuit that is being made: its box, its two lists. -/
structure Mc (w W : World) (bx : Nat) (nm : ByteArray) (gv ov : Value) (G : List Ga) (O : List Int) : Prop where
  row : W.heap[bx]? = some (.cells #[.string nm, gv, ov] 25 (0, 0))
  res : W.heap[w.heap.size]? = some (.cells #[.string ⟨#[]⟩, .slice none 0 0, .slice none 0 0] 25 (0, 0))
  hB : w.heap.size < bx
  og : W.ownsRow w.heap.size 42 6 gv G.length (gas G)
  oo : W.ownsRow w.heap.size 3 1 ov O.length (nu O)
  below : Below w.heap.size w W
section
variable {w W W' : World} {bx : Nat} {nm : ByteArray} {gv ov gv' ov' : Value} {G : List Ga} {O : List Int}
theorem Mc.size (h : Mc w W bx nm gv ov G O) : bx < W.heap.size := (Array.getElem?_eq_some_iff.1 h.row).1
theorem Mc.on (h : Mc w W bx nm gv ov G O) (hb : Below W.heap.size W W') : Mc w W' bx nm gv ov G O :=
  ⟨(hb.block _ h.size).trans h.row, (hb.block _ (Array.getElem?_eq_some_iff.1 h.res).1).trans h.res, h.hB, ownsRow_below h.og hb, ownsRow_below h.oo hb, h.below.trans (hb.mono h.below.size)⟩
theorem Mc.alloc (h : Mc w W bx nm gv ov G O) (o : Obj) : Mc w (W.alloc o) bx nm gv ov G O := h.on ((Below.refl _ _).alloc (Nat.le_refl _) o)
/-- one line more. -/
theorem Mc.gate (h : Mc w W bx nm gv ov G O) {g : Ga} (ho : W'.ownsRow w.heap.size 42 6 gv' (G.length + 1) (gas G ++ ga g)) (hg : W.grownBy W' gv.ownBlock) :
    W'.heap[bx]? = some (.cells #[.string nm, gv, ov] 25 (0, 0)) ∧ Mc w (W'.setCell ⟨bx, 1, none⟩ gv') bx nm gv' ov (G ++ [g]) O := by
  have hrow : W'.heap[bx]? = some (.cells #[.string nm, gv, ov] 25 (0, 0)) := (hg.block bx h.size (Ne.symm (own_ne h.og h.row (by decide)))).trans h.row
  have hres : W'.heap[w.heap.size]? = _ := (hg.block _ (Array.getElem?_eq_some_iff.1 h.res).1 (Ne.symm (own_ne h.og h.res (by decide)))).trans h.res
  refine ⟨hrow, ⟨by have := row_set (i := 1) (u := gv') hrow; simpa using this, (Below.heap_setCell W' _ _ _ (by have := h.hB; exact Nat.ne_of_lt this)).trans hres, h.hB, ?_, ownsRow_store (own_kept h.oo h.og hg (by decide)) hrow (by decide), ?_⟩⟩
  · have := ownsRow_store (i := 1) (u := gv') ho hrow (by decide)
    rw [gas_snoc, List.length_append]
    exact this
  · exact (h.below.grown hg h.below.size (fun j hj => (h.og.lt j hj).1)).setCell (Nat.le_of_lt h.hB) _
/-- one out more. -/
theorem Mc.out (h : Mc w W bx nm gv ov G O) {x : Int} (ho : W'.ownsRow w.heap.size 3 1 ov' (O.length + 1) (nu O ++ [.int .i64 x])) (hg : W.grownBy W' ov.ownBlock) :
    W'.heap[bx]? = some (.cells #[.string nm, gv, ov] 25 (0, 0)) ∧ Mc w (W'.setCell ⟨bx, 2, none⟩ ov') bx nm gv ov' G (O ++ [x]) := by
  have hrow : W'.heap[bx]? = some (.cells #[.string nm, gv, ov] 25 (0, 0)) := (hg.block bx h.size (Ne.symm (own_ne h.oo h.row (by decide)))).trans h.row
  have hres : W'.heap[w.heap.size]? = _ := (hg.block _ (Array.getElem?_eq_some_iff.1 h.res).1 (Ne.symm (own_ne h.oo h.res (by decide)))).trans h.res
  refine ⟨hrow, ⟨by have := row_set (i := 2) (u := ov') hrow; simpa using this, (Below.heap_setCell W' _ _ _ (by have := h.hB; exact Nat.ne_of_lt this)).trans hres, h.hB, ownsRow_store (own_kept h.og h.oo hg (by decide)) hrow (by decide), ?_, ?_⟩⟩
  · have := ownsRow_store (i := 2) (u := ov') ho hrow (by decide)
    rw [List.length_append, nu, List.map_append]
    exact this
  · exact (h.below.grown hg h.below.size (fun j hj => (h.oo.lt j hj).1)).setCell (Nat.le_of_lt h.hB) _
end
theorem three_rows (w : World) (A B C : Obj) : (((w.alloc A).alloc B).alloc C).heap[w.heap.size]? = some A ∧ (((w.alloc A).alloc B).alloc C).heap[w.heap.size + 1]? = some B ∧ (((w.alloc A).alloc B).alloc C).heap[w.heap.size + 1 + 1]? = some C := by
  have s1 : (w.alloc A).heap.size = w.heap.size + 1 := by simp
  have s2 : ((w.alloc A).alloc B).heap.size = w.heap.size + 1 + 1 := by simp
  refine ⟨?_, ?_, ?_⟩
  · rw [Below.heap_alloc _ _ _ (by omega), Below.heap_alloc _ _ _ (by omega)]
    exact heap_alloc_new w A
  · rw [Below.heap_alloc _ _ _ (by omega), ← s1]
    exact heap_alloc_new _ B
  · rw [← s2]
    exact heap_alloc_new _ C
theorem fin_row {W : World} {B : Nat} {a b c : Value} (hr : W.heap[B]? = some (.cells #[a, b, c] 25 (0, 0))) (x y z : Value) :
    (((W.setCell ⟨B, 0, none⟩ x).setCell ⟨B, 1, none⟩ y).setCell ⟨B, 2, none⟩ z).heap[B]? = some (.cells #[x, y, z] 25 (0, 0)) ∧
    (∀ {B' e size n : Nat} {v : Value} {xs : List Value}, 25 ≠ e → W.ownsRow B' e size v n xs → (((W.setCell ⟨B, 0, none⟩ x).setCell ⟨B, 1, none⟩ y).setCell ⟨B, 2, none⟩ z).ownsRow B' e size v n xs) ∧
    ∀ {w : World} {B' : Nat}, B' ≤ B → Below B' w W → Below B' w (((W.setCell ⟨B, 0, none⟩ x).setCell ⟨B, 1, none⟩ y).setCell ⟨B, 2, none⟩ z) := by
  have r1 := row_set (i := 0) (u := x) hr
  have r2 := row_set (i := 1) (u := y) r1
  have r3 := row_set (i := 2) (u := z) r2
  exact ⟨by simpa using r3, fun he h => ownsRow_store (ownsRow_store (ownsRow_store h hr he) r1 he) r2 he, fun hB h => ((h.setCell hB _).setCell hB _).setCell hB _⟩
/-- what stands so far. -/
structure MadeS (G : List Ga) (O : List Int) : Prop where
  pos : 0 < G.length
  few : G.length ≤ 200
  lines : ∀ (i : Nat) (g : Ga), G[i]? = some g → LineM i g
  fewOuts : O.length + 1 ≤ G.length
  outs : ∀ o ∈ O, 0 ≤ o ∧ o < (G.length : Int)
theorem nm_eq (n : Nat) (h : 0 < n) : (⟨#[110]⟩ : ByteArray) ++ ⟨(decN n).toArray⟩ = nmOf n := by
  unfold nmOf
  rw [if_neg (by omega)]
  exact str_add [110] (decN n)
theorem MadeS.made {G : List Ga} {O : List Int} {nm : ByteArray} (h : MadeS G O) (hn : nm = ⟨#[109, 97, 100, 101]⟩) : Made ⟨nm, G, O⟩ := ⟨hn, h.pos, h.few, h.lines, by have := h.fewOuts; have := h.few; show O.length ≤ 200; omega, h.outs⟩
theorem MadeS.made1 {G : List Ga} {O : List Int} {nm : ByteArray} (h : MadeS G O) (hn : nm = ⟨#[109, 97, 100, 101]⟩) : Made ⟨nm, G, [(G.length : Int) - 1]⟩ := ⟨hn, h.pos, h.few, h.lines, by show [(G.length : Int) - 1].length ≤ 200; simp, fun o ho => by
  have := h.pos
  obtain rfl : o = (G.length : Int) - 1 := by simpa using ho
  show 0 ≤ (G.length : Int) - 1 ∧ (G.length : Int) - 1 < (G.length : Int)
  omega⟩
def g0 : Ga := ⟨1, ⟨#[105, 48]⟩, 0, 0, 0, 0⟩
theorem MadeS.first : MadeS [g0] [] := ⟨by decide, by decide, fun i g hg => by
  cases i with
  | zero =>
    obtain rfl : g0 = g := by simpa using hg
    exact ⟨rfl, .inl ⟨rfl, rfl, rfl, rfl, rfl⟩⟩
  | succ i => simp at hg, by decide, fun o ho => by cases ho⟩
theorem MadeS.gate {G : List Ga} {O : List Int} (h : MadeS G O) (hl : G.length < 200) {g : Ga} (hg : LineM G.length g) : MadeS (G ++ [g]) O := ⟨by simp, by simp; omega, fun i k hk => by
  by_cases hi : i < G.length
  · rw [List.getElem?_append_left hi] at hk
    exact h.lines i k hk
  · rw [List.getElem?_append_right (by omega)] at hk
    have hz : i - G.length = 0 := by
      have := (List.getElem?_eq_some_iff.1 hk).1
      simp at this
      omega
    rw [hz] at hk
    obtain rfl : g = k := by simpa using hk
    rwa [show i = G.length by omega], by have := h.fewOuts; simp; omega, fun o ho => by have := h.outs o ho; simp; omega⟩
theorem MadeS.out {G : List Ga} {O : List Int} {g : Ga} (h : MadeS (G ++ [g]) O) (hO : O.length + 1 ≤ G.length) : MadeS (G ++ [g]) (O ++ [(G.length : Int)]) := ⟨h.pos, h.few, h.lines, by simp; omega, fun o ho => by
  simp only [List.mem_append, List.mem_singleton] at ho
  rcases ho with ho | rfl
  · exact h.outs o ho
  · simp; omega⟩

set_option maxHeartbeats 4000000 in
set_option maxRecDepth 100000 in
theorem made_any (code : List Int) (sc : Option Addr) (cc : Nat) (w : World) (hc : CellsAt w sc (nu code)) (hr : ∀ x ∈ code, -9223372036854775808 ≤ x ∧ x ≤ 9223372036854775807) (hl : code.length ≤ 17592186043904) :
    Calls Tryz.prog 5 #[.slice sc code.length cc] w fun e w' => ∃ c sg cg so co, e = .returned (cirV c sg cg so co) ∧ Made c ∧ Mk w w' 42 6 (.slice sg c.gates.length cg) c.gates.length (gas c.gates) ∧ Mk w w' 3 1 (.slice so c.outs.length co) c.outs.length (nu c.outs) := by
  have HC := hid hc
  have HR := hid hr
  clear hc hr
  go_enter Tryz.func5, Tryz.ntmps5
  go_wp2
  obtain ⟨X, hX⟩ : ∃ X, X = (((w.alloc (Obj.cells #[Value.string { data := #[] }, Value.slice none 0 0, Value.slice none 0 0] 25)).alloc (Obj.cells #[Value.int IntKind.i64 1, Value.string { data := #[105, 48] }, Value.int IntKind.i64 0, Value.int IntKind.i64 0, Value.int IntKind.i64 0, Value.int IntKind.i64 0] 42)).alloc (Obj.cells #[Value.string { data := #[109, 97, 100, 101] }, Value.slice (some { block := w.heap.size + 1, off := 0 }) 1 1, Value.slice none 0 0] 25)) := ⟨_, rfl⟩
  have M0 : Hid (Mc w X (w.heap.size + 1 + 1) ⟨#[109, 97, 100, 101]⟩ (.slice (some ⟨w.heap.size + 1, 0, none⟩) 1 1) (.slice none 0 0) [g0] []) := by
    rw [hX]
    have hb : Below w.heap.size w (w.alloc (Obj.cells #[Value.string { data := #[] }, Value.slice none 0 0, Value.slice none 0 0] 25)) := (Below.refl _ _).alloc (Nat.le_refl _) _
    refine ⟨?_, ?_, by omega, ⟨rfl, .inr ⟨w.heap.size + 1, 1, (ga g0).toArray, rfl, by omega, ?_, Nat.le_refl _, ?_, rfl, rfl⟩⟩, World.ownsRow_nil _ _ _ _, (hb.alloc (by simp) _).alloc (by simp; omega) _⟩
    · exact (three_rows w _ _ _).2.2
    · exact (three_rows w _ _ _).1
    · exact (three_rows w _ _ _).2.1
    · decide
  rw [← hX]
  clear hX
  obtain ⟨nm, hnm⟩ : ∃ nm : ByteArray, nm = ⟨#[109, 97, 100, 101]⟩ := ⟨_, rfl⟩
  rw [← hnm] at M0
  obtain ⟨bx, hbx⟩ : ∃ bx, bx = w.heap.size + 1 + 1 := ⟨_, rfl⟩
  rw [← hbx] at M0 ⊢
  clear hbx
  have HNM := hid hnm
  clear hnm
  go_loopw [4] (fun iv W => ∃ (i : Nat) (G : List Ga) (O : List Int) (gv ov : Value), i ≤ code.length + 3 ∧ iv = .int .i64 (i : Int) ∧ Hid (Mc w W bx nm gv ov G O ∧ MadeS G O)) (fun iv _ => code.length + 4 - (intOf iv).toNat)
  case atStart => exact ⟨0, _, _, _, _, Nat.zero_le _, rfl, M0.out, MadeS.first⟩
  case round =>
    clear M0
    obtain ⟨i, G, O, gv, ov, hi, rfl, HS⟩ := hrel
    obtain ⟨hmc, hms⟩ := HS.out
    have M := hid hmc
    have MS := hid hms
    have hn200 := hms.few
    have hnpos := hms.pos
    obtain ⟨sg, cg, rfl⟩ := own_shape hmc.og
    obtain ⟨so, co, rfl⟩ := own_shape hmc.oo
    have c0 := fun j => cell_row hmc.row j
    have hb0 := hmc.size
    clear HS hms
    by_cases h2 : i + 2 < code.length
    · by_cases h3 : G.length < 200
      · obtain ⟨x0, hx0⟩ : ∃ y, code[i]? = some y := ⟨_, List.getElem?_eq_getElem (by omega)⟩
        obtain ⟨x1, hx1⟩ : ∃ y, code[i + 1]? = some y := ⟨_, List.getElem?_eq_getElem (by omega)⟩
        obtain ⟨x2, hx2⟩ : ∃ y, code[i + 2]? = some y := ⟨_, List.getElem?_eq_getElem (by omega)⟩
        have R0 := HR.out x0 (List.mem_of_getElem? hx0)
        have R1 := HR.out x1 (List.mem_of_getElem? hx1)
        have R2 := HR.out x2 (List.mem_of_getElem? hx2)
        obtain ⟨b, o, rfl, hb, q0⟩ := num_at HC.out _ _ hx0
        obtain ⟨b1, o1, he1, _, q1⟩ := num_at HC.out _ _ hx1
        obtain ⟨b2, o2, he2, _, q2⟩ := num_at HC.out _ _ hx2
        cases he1
        cases he2
        have CD : Hid (∀ W, Below w.heap.size w W → W.cell? ⟨b, o + i, none⟩ = some (.int .i64 x0) ∧ W.cell? ⟨b, o + (i + 1), none⟩ = some (.int .i64 x1) ∧ W.cell? ⟨b, o + (i + 2), none⟩ = some (.int .i64 x2) ∧ b < W.heap.size) := fun W hW => ⟨below_cell hW hb q0, below_cell hW hb q1, below_cell hW hb q2, Nat.lt_of_lt_of_le hb hW.size⟩
        have NUM : Hid (∀ W, Calls Tryz.prog 13 #[.int .i64 (G.length : Int)] W fun e w' => e = .returned (str (decN G.length)) ∧ Below W.heap.size W w') := fun W => number_any G.length W (by omega)
        obtain ⟨k, hk⟩ : ∃ k, k = wi x0 24 := ⟨_, rfl⟩
        obtain ⟨ka, hka⟩ : ∃ k, k = wi x1 G.length := ⟨_, rfl⟩
        obtain ⟨kb, hkb⟩ : ∃ k, k = wi x2 G.length := ⟨_, rfl⟩
        have WI0 : Hid (∀ W, Calls Tryz.prog 10 #[.int .i64 x0, .int .i64 24] W fun e w' => e = .returned (.int .i64 (k : Int)) ∧ w' = W) := fun W => by rw [hk]; exact within_any x0 24 W R0 (by omega) (by omega)
        have WI1 : Hid (∀ W, Calls Tryz.prog 10 #[.int .i64 x1, .int .i64 (G.length : Int)] W fun e w' => e = .returned (.int .i64 (ka : Int)) ∧ w' = W) := fun W => by rw [hka]; exact within_any x1 G.length W R1 (by omega) (by omega)
        have WI2 : Hid (∀ W, Calls Tryz.prog 10 #[.int .i64 x2, .int .i64 (G.length : Int)] W fun e w' => e = .returned (.int .i64 (kb : Int)) ∧ w' = W) := fun W => by rw [hkb]; exact within_any x2 G.length W R2 (by omega) (by omega)
        have hk24 : k < 24 := by rw [hk]; exact wi_lt _ (by omega)
        have hka2 : ka < G.length := by rw [hka]; exact wi_lt _ (by omega)
        have hkb2 : kb < G.length := by rw [hkb]; exact wi_lt _ (by omega)
        have hdl := dec_len (n := G.length) (by omega)
        have hdl2 : ¬ 9223372036854775807 < 1 + (decN G.length).length := by omega
        clear hk hka hkb hx0 hx1 hx2 q0 q1 q2 hb
        go_upto_block 2 with (first
          | (have q := M1; clear q; go_at_call 10; with_reducible refine (WI0.out _).mono ?_; rintro e w3 ⟨rfl, rfl⟩)
          | (have q := M1; clear q; go_at_call 10; with_reducible refine (WI2.out _).mono ?_; rintro e w3 ⟨rfl, rfl⟩)
          | (have q := M1; clear q; go_at_call 10; with_reducible refine (WI1.out _).mono ?_; rintro e w3 ⟨rfl, rfl⟩)
          | (go_at_call 13; with_reducible refine (NUM.out _).mono ?_; rintro e w1 ⟨rfl, b1⟩; have m1 := M.out.on b1; have M1 := hid m1; have c1 := fun j => cell_row m1.row j; have hb1 := m1.size; obtain ⟨p0, p1, p2, hbw⟩ := CD.out _ m1.below; clear m1 b1))
        have WJ2 : Hid (∃ q : Nat, q < 2 ∧ ∀ W, Calls Tryz.prog 10 #[.int .i64 x2, .int .i64 2] W fun e w' => e = .returned (.int .i64 (q : Int)) ∧ w' = W) := ⟨wi x2 2, wi_lt _ (by omega), fun W => within_any x2 2 W R2 (by omega) (by omega)⟩
        have WJ1 : Hid (∃ q : Nat, q < G.length + 1 ∧ ∀ W, Calls Tryz.prog 10 #[.int .i64 x1, .int .i64 ((G.length : Int) + 1)] W fun e w' => e = .returned (.int .i64 (q : Int)) ∧ w' = W) := ⟨wi x1 (G.length + 1), wi_lt _ (by omega), fun W => within_any x1 (G.length + 1) W R1 (by omega) (by omega)⟩
        have WJ3 : Hid (∃ q : Nat, q < G.length ∧ ∀ W, Calls Tryz.prog 10 #[.int .i64 (IntKind.i64.wrap (x1 + x2)), .int .i64 (G.length : Int)] W fun e w' => e = .returned (.int .i64 (q : Int)) ∧ w' = W) := ⟨wi (IntKind.i64.wrap (x1 + x2)) G.length, wi_lt _ (by omega), fun W => within_any _ G.length W (wrap_range _) (by omega) (by omega)⟩
        have WJ0 : Hid (∃ q : Nat, q < 16 ∧ ∀ W, Calls Tryz.prog 10 #[.int .i64 x0, .int .i64 16] W fun e w' => e = .returned (.int .i64 (q : Int)) ∧ w' = W) := ⟨wi x0 16, wi_lt _ (by omega), fun W => within_any x0 16 W R0 (by omega) (by omega)⟩
        have WJ4 : Hid (∃ q : Nat, q < 3 ∧ ∀ W, Calls Tryz.prog 10 #[.int .i64 (IntKind.i64.wrap (x1 - x2)), .int .i64 3] W fun e w' => e = .returned (.int .i64 (q : Int)) ∧ w' = W) := ⟨wi (IntKind.i64.wrap (x1 - x2)) 3, wi_lt _ (by omega), fun W => within_any _ 3 W (wrap_range _) (by omega) (by omega)⟩
        have HNAME := hid (nm_eq G.length hnpos)
        go_cut [] (fun wx => Hid (∃ g : Ga, LineM G.length g ∧ wx.heap[w1.heap.size]? = some (.cells (ga g).toArray 42 (0, 0)) ∧ Mc w wx bx nm (.slice sg G.length cg) (.slice so O.length co) G O))
        case first =>
          clear c0 c1 hb0 M MS CD NUM WI0 WI1 WI2 HC HR hmc
          obtain ⟨y2, hy2, W2⟩ := WJ2.out
          obtain ⟨y1, hy1, W1⟩ := WJ1.out
          obtain ⟨y3, hy3, W3⟩ := WJ3.out
          obtain ⟨y0, hy0, W0⟩ := WJ0.out
          have W2 := hid W2
          have W1 := hid W1
          have W3 := hid W3
          have W0 := hid W0
          clear WJ2 WJ1 WJ3 WJ0 WJ4 R0 R1 R2 hdl hdl2
          have v1 : IntKind.i64.wrap ((i : Int) + 1) = (i : Int) + 1 := by rw [IntKind.wrap_i64]; omega
          have v2 : IntKind.i64.wrap ((i : Int) + 2) = (i : Int) + 2 := by rw [IntKind.wrap_i64]; omega
          have v3 : (0 : Int) ≤ (i : Int) + 1 := by omega
          have v4 : (i : Int) + 1 < (code.length : Int) := by omega
          have v5 : (0 : Int) ≤ (i : Int) + 2 := by omega
          have v6 : (i : Int) + 2 < (code.length : Int) := by omega
          have v7 : ((i : Int) + 1).toNat = i + 1 := by omega
          have v8 : ((i : Int) + 2).toNat = i + 2 := by omega
          have hkc : k = 0 ∨ k = 1 ∨ k = 2 ∨ k = 3 ∨ k = 4 ∨ k = 5 ∨ k = 6 ∨ 7 ≤ k := by omega
          rcases hkc with rfl | rfl | rfl | rfl | rfl | rfl | rfl | hk7
          · go_wp2_with (go_at_call 10; first | (with_reducible refine (W0.out _).mono ?_; rintro e w3 ⟨rfl, rfl⟩) | (with_reducible refine (W1.out _).mono ?_; rintro e w3 ⟨rfl, rfl⟩) | (with_reducible refine (W2.out _).mono ?_; rintro e w3 ⟨rfl, rfl⟩) | (with_reducible refine (W3.out _).mono ?_; rintro e w3 ⟨rfl, rfl⟩))
            go_meet
            exact ⟨⟨1, (⟨#[110]⟩ ++ ⟨(decN G.length).toArray⟩), 0, 0, 0, 0⟩, ⟨HNAME.out, .inl ⟨rfl, rfl, rfl, rfl, rfl⟩⟩, heap_alloc_new w1 _, M1.out.alloc _⟩
          · go_wp2_with (go_at_call 10; first | (with_reducible refine (W0.out _).mono ?_; rintro e w3 ⟨rfl, rfl⟩) | (with_reducible refine (W1.out _).mono ?_; rintro e w3 ⟨rfl, rfl⟩) | (with_reducible refine (W2.out _).mono ?_; rintro e w3 ⟨rfl, rfl⟩) | (with_reducible refine (W3.out _).mono ?_; rintro e w3 ⟨rfl, rfl⟩))
            go_meet
            exact ⟨⟨1, (⟨#[110]⟩ ++ ⟨(decN G.length).toArray⟩), 0, 0, 0, 0⟩, ⟨HNAME.out, .inl ⟨rfl, rfl, rfl, rfl, rfl⟩⟩, heap_alloc_new w1 _, M1.out.alloc _⟩
          · go_wp2_with (go_at_call 10; first | (with_reducible refine (W0.out _).mono ?_; rintro e w3 ⟨rfl, rfl⟩) | (with_reducible refine (W1.out _).mono ?_; rintro e w3 ⟨rfl, rfl⟩) | (with_reducible refine (W2.out _).mono ?_; rintro e w3 ⟨rfl, rfl⟩) | (with_reducible refine (W3.out _).mono ?_; rintro e w3 ⟨rfl, rfl⟩))
            go_meet
            exact ⟨⟨3, (⟨#[110]⟩ ++ ⟨(decN G.length).toArray⟩), (y2 : Int), (y1 : Int), 0, 0⟩, ⟨HNAME.out, .inr (.inl ⟨rfl, by show (0 : Int) ≤ (y2 : Int); omega, by show (y2 : Int) ≤ 1; omega, by show (0 : Int) ≤ (y1 : Int); omega, by show (y1 : Int) ≤ _; omega, rfl, rfl⟩)⟩, heap_alloc_new w1 _, M1.out.alloc _⟩
          · go_wp2_with (go_at_call 10; first | (with_reducible refine (W0.out _).mono ?_; rintro e w3 ⟨rfl, rfl⟩) | (with_reducible refine (W1.out _).mono ?_; rintro e w3 ⟨rfl, rfl⟩) | (with_reducible refine (W2.out _).mono ?_; rintro e w3 ⟨rfl, rfl⟩) | (with_reducible refine (W3.out _).mono ?_; rintro e w3 ⟨rfl, rfl⟩))
            go_meet
            exact ⟨⟨3, (⟨#[110]⟩ ++ ⟨(decN G.length).toArray⟩), (y2 : Int), (y1 : Int), 0, 0⟩, ⟨HNAME.out, .inr (.inl ⟨rfl, by show (0 : Int) ≤ (y2 : Int); omega, by show (y2 : Int) ≤ 1; omega, by show (0 : Int) ≤ (y1 : Int); omega, by show (y1 : Int) ≤ _; omega, rfl, rfl⟩)⟩, heap_alloc_new w1 _, M1.out.alloc _⟩
          · go_wp2_with (go_at_call 10; first | (with_reducible refine (W0.out _).mono ?_; rintro e w3 ⟨rfl, rfl⟩) | (with_reducible refine (W1.out _).mono ?_; rintro e w3 ⟨rfl, rfl⟩) | (with_reducible refine (W2.out _).mono ?_; rintro e w3 ⟨rfl, rfl⟩) | (with_reducible refine (W3.out _).mono ?_; rintro e w3 ⟨rfl, rfl⟩))
            go_region_held3 (fun W => W.cell? ⟨b, o + (i + 1), none⟩ = some (.int .i64 x1) ∧ W.cell? ⟨b, o + (i + 2), none⟩ = some (.int .i64 x2)) (go_keep)
              (first
                | (go_at_call 10; with_reducible refine Calls.mono (W3.out _) ?_; rintro e w3 ⟨rfl, rfl⟩))
            go_wp2
            go_meet
            exact ⟨⟨4, (⟨#[110]⟩ ++ ⟨(decN G.length).toArray⟩), 0, (ka : Int), (kb : Int), (y3 : Int)⟩, ⟨HNAME.out, .inr (.inr (.inl ⟨rfl, rfl, by show (0 : Int) ≤ (ka : Int); omega, by show (ka : Int) < _; omega, by show (0 : Int) ≤ (kb : Int); omega, by show (kb : Int) < _; omega, by show (0 : Int) ≤ (y3 : Int); omega, by show (y3 : Int) < _; omega⟩))⟩, (by exact heap_alloc_new w1 (Obj.cells (ga ⟨4, (⟨#[110]⟩ ++ ⟨(decN G.length).toArray⟩), 0, (ka : Int), (kb : Int), (y3 : Int)⟩).toArray 42)), (M1.out.alloc _).on (Below.refl _ _).drew⟩
          · go_wp2_with (go_at_call 10; first | (with_reducible refine (W0.out _).mono ?_; rintro e w3 ⟨rfl, rfl⟩) | (with_reducible refine (W1.out _).mono ?_; rintro e w3 ⟨rfl, rfl⟩) | (with_reducible refine (W2.out _).mono ?_; rintro e w3 ⟨rfl, rfl⟩) | (with_reducible refine (W3.out _).mono ?_; rintro e w3 ⟨rfl, rfl⟩))
            go_region_held3 (fun W => W.cell? ⟨b, o + (i + 1), none⟩ = some (.int .i64 x1) ∧ W.cell? ⟨b, o + (i + 2), none⟩ = some (.int .i64 x2)) (go_keep)
              (first
                | (go_at_call 10; with_reducible refine Calls.mono (W3.out _) ?_; rintro e w3 ⟨rfl, rfl⟩))
            go_wp2
            go_meet
            exact ⟨⟨4, (⟨#[110]⟩ ++ ⟨(decN G.length).toArray⟩), 0, (ka : Int), (kb : Int), (y3 : Int)⟩, ⟨HNAME.out, .inr (.inr (.inl ⟨rfl, rfl, by show (0 : Int) ≤ (ka : Int); omega, by show (ka : Int) < _; omega, by show (0 : Int) ≤ (kb : Int); omega, by show (kb : Int) < _; omega, by show (0 : Int) ≤ (y3 : Int); omega, by show (y3 : Int) < _; omega⟩))⟩, (by exact heap_alloc_new w1 (Obj.cells (ga ⟨4, (⟨#[110]⟩ ++ ⟨(decN G.length).toArray⟩), 0, (ka : Int), (kb : Int), (y3 : Int)⟩).toArray 42)), (M1.out.alloc _).on (Below.refl _ _).drew⟩
          · go_wp2_with (go_at_call 10; first | (with_reducible refine (W0.out _).mono ?_; rintro e w3 ⟨rfl, rfl⟩) | (with_reducible refine (W1.out _).mono ?_; rintro e w3 ⟨rfl, rfl⟩) | (with_reducible refine (W2.out _).mono ?_; rintro e w3 ⟨rfl, rfl⟩) | (with_reducible refine (W3.out _).mono ?_; rintro e w3 ⟨rfl, rfl⟩))
            go_region_held3 (fun W => W.cell? ⟨b, o + (i + 1), none⟩ = some (.int .i64 x1) ∧ W.cell? ⟨b, o + (i + 2), none⟩ = some (.int .i64 x2)) (go_keep)
              (first
                | (go_at_call 10; with_reducible refine Calls.mono (W3.out _) ?_; rintro e w3 ⟨rfl, rfl⟩))
            go_wp2
            go_meet
            exact ⟨⟨4, (⟨#[110]⟩ ++ ⟨(decN G.length).toArray⟩), 0, (ka : Int), (kb : Int), (y3 : Int)⟩, ⟨HNAME.out, .inr (.inr (.inl ⟨rfl, rfl, by show (0 : Int) ≤ (ka : Int); omega, by show (ka : Int) < _; omega, by show (0 : Int) ≤ (kb : Int); omega, by show (kb : Int) < _; omega, by show (0 : Int) ≤ (y3 : Int); omega, by show (y3 : Int) < _; omega⟩))⟩, (by exact heap_alloc_new w1 (Obj.cells (ga ⟨4, (⟨#[110]⟩ ++ ⟨(decN G.length).toArray⟩), 0, (ka : Int), (kb : Int), (y3 : Int)⟩).toArray 42)), (M1.out.alloc _).on (Below.refl _ _).drew⟩
          · have e0 : ¬ (k : Int) = 0 := by omega
            have e1 : ¬ (k : Int) = 1 := by omega
            have e2 : ¬ (k : Int) = 2 := by omega
            have e3 : ¬ (k : Int) = 3 := by omega
            have e4 : ¬ (k : Int) = 4 := by omega
            have e5 : ¬ (k : Int) = 5 := by omega
            have e6 : ¬ (k : Int) = 6 := by omega
            go_wp2_with (go_at_call 10; first | (with_reducible refine (W0.out _).mono ?_; rintro e w3 ⟨rfl, rfl⟩) | (with_reducible refine (W1.out _).mono ?_; rintro e w3 ⟨rfl, rfl⟩) | (with_reducible refine (W2.out _).mono ?_; rintro e w3 ⟨rfl, rfl⟩) | (with_reducible refine (W3.out _).mono ?_; rintro e w3 ⟨rfl, rfl⟩))
            go_meet
            exact ⟨⟨2, (⟨#[110]⟩ ++ ⟨(decN G.length).toArray⟩), (y0 : Int), (ka : Int), (kb : Int), 0⟩, ⟨HNAME.out, .inr (.inr (.inr ⟨rfl, by show (0 : Int) ≤ (y0 : Int); omega, by show (y0 : Int) ≤ 15; omega, by show (0 : Int) ≤ (ka : Int); omega, by show (ka : Int) < _; omega, by show (0 : Int) ≤ (kb : Int); omega, by show (kb : Int) < _; omega, rfl⟩))⟩, heap_alloc_new w1 _, M1.out.alloc _⟩
        case rest =>
          obtain ⟨g, hline, hgb, hmc2⟩ := hcut.out
          obtain ⟨y4, hy4, W4⟩ := WJ4.out
          have W4 := hid W4
          have LN := hid hline
          have MC := hid hmc2
          have c2 := fun j => cell_row hmc2.row j
          have f2 := fun j => unfrozen_row hmc2.row j
          have hb2 := hmc2.size
          have hgs := (Array.getElem?_eq_some_iff.1 hgb).1
          have d0 : wc.cell? ⟨w1.heap.size, 0, none⟩ = some (.int .i64 g.kind) := (cell_row hgb 0).trans rfl
          have d1 : wc.cell? ⟨w1.heap.size, 1, none⟩ = some (.string g.name) := (cell_row hgb 1).trans rfl
          have d2 : wc.cell? ⟨w1.heap.size, 2, none⟩ = some (.int .i64 g.op) := (cell_row hgb 2).trans rfl
          have d3 : wc.cell? ⟨w1.heap.size, 3, none⟩ = some (.int .i64 g.a) := (cell_row hgb 3).trans rfl
          have d4 : wc.cell? ⟨w1.heap.size, 4, none⟩ = some (.int .i64 g.b) := (cell_row hgb 4).trans rfl
          have d5 : wc.cell? ⟨w1.heap.size, 5, none⟩ = some (.int .i64 g.c) := (cell_row hgb 5).trans rfl
          have HM := hid hmc
          clear hcut hline hgb hmc2 c0 c1 hb0 hb1 hbw p0 p1 p2 M M1 NUM WI0 WI1 WI2 WJ0 WJ1 WJ2 WJ3 WJ4 HC HR hmc R0 R1 R2 hdl hdl2 HNAME hka2 hkb2 hk24
          have v1 : IntKind.i64.wrap ((i : Int) + 1) = (i : Int) + 1 := by rw [IntKind.wrap_i64]; omega
          have v2 : IntKind.i64.wrap ((i : Int) + 2) = (i : Int) + 2 := by rw [IntKind.wrap_i64]; omega
          have v3 : (0 : Int) ≤ (i : Int) + 1 := by omega
          have v4 : (i : Int) + 1 < (code.length : Int) := by omega
          have v5 : (0 : Int) ≤ (i : Int) + 2 := by omega
          have v6 : (i : Int) + 2 < (code.length : Int) := by omega
          have v7 : ((i : Int) + 1).toNat = i + 1 := by omega
          have v8 : ((i : Int) + 2).toNat = i + 2 := by omega
          go_wp2_with (first
            | (rw [← HW3.out])
            | (at_builtin; refine mk_app rfl _ _ 23 _ 56 rfl Tryz.underlying23 info38 rfl (by decide) (⟨MC.out.og, MC.out.below⟩ : Mk w wc 42 6 (.slice sg G.length cg) G.length (gas G)) (ga g) 42 _ rfl rfl rfl rfl (fun u hu => by simp [ga] at hu; rcases hu with rfl | rfl | rfl | rfl | rfl | rfl <;> rfl) (by omega) (by omega) ?_; intro sx cx w2 g2 m2; obtain ⟨hr2, hm3⟩ := (MC.out.alloc _).gate m2.own g2; have c3 := fun j => cell_row hr2 j; have f3 := fun j => unfrozen_row hr2 j; have hb3 := (Array.getElem?_eq_some_iff.1 hr2).1; obtain ⟨W3, hW3⟩ : ∃ W3, W3 = w2.setCell ⟨bx, 1, none⟩ (.slice sx (G.length + 1) cx) := ⟨_, rfl⟩; rw [← hW3] at hm3; have HW3 := hid hW3; have M3 := hid hm3; have c4 := fun j => cell_row hm3.row j; have f4 := fun j => unfrozen_row hm3.row j; have hb4 := hm3.size; obtain ⟨p0, p1, p2, hbw⟩ := CD.out _ hm3.below; clear g2 m2 hr2 hm3 hW3))
          go_region_held3 (fun W => W.cell? ⟨b, o + (i + 1), none⟩ = some (.int .i64 x1) ∧ W.cell? ⟨b, o + (i + 2), none⟩ = some (.int .i64 x2)) (go_keep)
            (first
              | (go_at_call 10; with_reducible refine Calls.mono (W4.out _) ?_; rintro e w3 ⟨rfl, rfl⟩))
          obtain ⟨W5, hW5⟩ : ∃ W5, W5 = W3.drew := ⟨_, rfl⟩
          have M5 : Hid (Mc w W5 bx nm (.slice sx (G.length + 1) cx) (.slice so O.length co) (G ++ [g]) O) := by rw [hW5]; exact M3.out.on (Below.refl _ _).drew
          rw [← hW5]
          have S5 := hid (MS.out.gate h3 LN.out)
          have hO := MS.out.fewOuts
          have c5 := fun j => cell_row M5.out.row j
          have f5 := fun j => unfrozen_row M5.out.row j
          have hb5 := M5.out.size
          clear hW5 c2 f2 hb2 c3 f3 hb3 c4 f4 hb4 HW3 M3 MC d0 d1 d2 d3 d4 d5 hgs p0 p1 p2 hbw CD W4 HM MS LN v1 v2 v3 v4 v5 v6 v7 v8
          by_cases hy0 : y4 = 0
          · subst hy0
            go_wp2_with (first
              | (rw [← HW7.out])
              | (at_builtin; refine mk_app rfl _ _ 22 _ 8 rfl Tryz.underlying22 info3 rfl (by decide) (⟨M5.out.oo, M5.out.below⟩ : Mk w W5 3 1 (.slice so O.length co) O.length (nu O)) [.int .i64 (G.length : Int)] 3 _ rfl rfl rfl rfl (fun u hu => by simp at hu; subst hu; rfl) (by omega) (by omega) ?_; intro sy cy w6 g6 m6; obtain ⟨hr6, hm7⟩ := (M5.out.alloc _).out m6.own g6; have c6 := fun j => cell_row hr6 j; have f6 := fun j => unfrozen_row hr6 j; have hb6 := (Array.getElem?_eq_some_iff.1 hr6).1; obtain ⟨W7, hW7⟩ : ∃ W7, W7 = w6.setCell ⟨bx, 2, none⟩ (.slice sy (O.length + 1) cy) := ⟨_, rfl⟩; rw [← hW7] at hm7; have HW7 := hid hW7; have M7 := hid hm7; clear g6 m6 hr6 hm7 hW7))
            exact ⟨⟨i + 3, G ++ [g], O ++ [(G.length : Int)], _, _, by omega, by go_num, M7.out, S5.out.out hO⟩, by simp [intOf]; omega⟩
          · have hy1 : ¬ (y4 : Int) = 0 := by omega
            go_wp2
            exact ⟨⟨i + 3, G ++ [g], O, _, _, by omega, by go_num, M5.out, S5.out⟩, by simp [intOf]; omega⟩
      · have e3 : ¬ (G.length : Int) < 200 := by omega
        have r0 := fun j => cell_row hmc.res j
        have fr := fun j => unfrozen_row hmc.res j
        have hbr := (Array.getElem?_eq_some_iff.1 hmc.res).1
        have f0 := fun j => unfrozen_row hmc.row j
        have hne : w.heap.size ≠ bx := Nat.ne_of_lt hmc.hB
        have hne2 : bx ≠ w.heap.size := fun e => hne e.symm
        clear hmc HC HR
        by_cases hO : O.length = 0
        · have hO2 : (O.length : Int) = 0 := by omega
          go_wp2
          have hm := M.out
          have hres : (wr.setCell ⟨bx, 2, none⟩ (Value.slice (some ⟨wr.heap.size, 0, none⟩) 1 1)).heap[w.heap.size]? = some (.cells #[.string ⟨#[]⟩, .slice none 0 0, .slice none 0 0] 25 (0, 0)) := (Below.heap_setCell wr _ _ _ hne).trans hm.res
          obtain ⟨t1, t2, t3⟩ := fin_row hres (.string nm) (.slice sg G.length cg) (.slice (some ⟨wr.heap.size, 0, none⟩) 1 1)
          have o1 := t2 (by decide) (ownsRow_store (i := 2) (u := .slice (some ⟨wr.heap.size, 0, none⟩) 1 1) hm.og hm.row (by decide))
          have b1 := t3 (Nat.le_refl _) (hm.below.setCell (p := ⟨bx, 2, none⟩) (Nat.le_of_lt hm.hB) (.slice (some ⟨wr.heap.size, 0, none⟩) 1 1))
          have hws : (((((wr.setCell ⟨bx, 2, none⟩ (Value.slice (some ⟨wr.heap.size, 0, none⟩) 1 1)).setCell ⟨w.heap.size, 0, none⟩ (.string nm)).setCell ⟨w.heap.size, 1, none⟩ (.slice sg G.length cg)).setCell ⟨w.heap.size, 2, none⟩ (Value.slice (some ⟨wr.heap.size, 0, none⟩) 1 1))).heap.size = wr.heap.size := by simp
          clear t2 t3 hres hm r0 fr c0 f0
          generalize ((((wr.setCell ⟨bx, 2, none⟩ (Value.slice (some ⟨wr.heap.size, 0, none⟩) 1 1)).setCell ⟨w.heap.size, 0, none⟩ (.string nm)).setCell ⟨w.heap.size, 1, none⟩ (.slice sg G.length cg)).setCell ⟨w.heap.size, 2, none⟩ (Value.slice (some ⟨wr.heap.size, 0, none⟩) 1 1)) = Wf at *
          rw [← hws]
          rw [← hws] at t1
          have t4 := (Below.heap_alloc Wf (Obj.cells #[Value.int IntKind.i64 ((G.length : Int) - 1)] 3) _ (Array.getElem?_eq_some_iff.1 t1).1).trans t1
          have o3 : (Wf.alloc (Obj.cells #[Value.int IntKind.i64 ((G.length : Int) - 1)] 3)).ownsRow w.heap.size 3 1 (.slice (some ⟨Wf.heap.size, 0, none⟩) 1 1) 1 [.int .i64 ((G.length : Int) - 1)] := ⟨rfl, .inr ⟨Wf.heap.size, 1, #[.int .i64 ((G.length : Int) - 1)], rfl, b1.size, heap_alloc_new Wf _, Nat.le_refl _, by decide, rfl, rfl⟩⟩
          have o4 := ownsRow_below o1 ((Below.refl _ _).alloc (Nat.le_refl _) (Obj.cells #[Value.int IntKind.i64 ((G.length : Int) - 1)] 3))
          have b4 := b1.alloc b1.size (Obj.cells #[Value.int IntKind.i64 ((G.length : Int) - 1)] 3)
          clear t1 o1 b1 hws
          generalize Wf.alloc (Obj.cells #[Value.int IntKind.i64 ((G.length : Int) - 1)] 3) = We at *
          have z0 := (cell_row t4 0).trans rfl
          have z1 := (cell_row t4 1).trans rfl
          have z2 := (cell_row t4 2).trans rfl
          exact bodyPost_ret (v := .agg #[.string nm, .slice sg G.length cg, .slice (some ⟨Wf.heap.size, 0, none⟩) 1 1]) (by simp [results, Tryz.results5, go_sem, z0, z1, z2]) rfl ⟨⟨nm, G, [(G.length : Int) - 1]⟩, sg, cg, some ⟨Wf.heap.size, 0, none⟩, 1, rfl, MS.out.made1 HNM.out, ⟨o4, b4⟩, ⟨o3, b4⟩⟩
        · have hO2 : ¬ (O.length : Int) = 0 := by omega
          go_wp2
          have hm := M.out
          obtain ⟨t1, t2, t3⟩ := fin_row hm.res (.string nm) (.slice sg G.length cg) (.slice so O.length co)
          have o1 := t2 (by decide) hm.og
          have o2 := t2 (by decide) hm.oo
          have b1 := t3 (Nat.le_refl _) hm.below
          clear t2 t3 hm r0 fr c0 f0
          generalize (((wr.setCell ⟨w.heap.size, 0, none⟩ (.string nm)).setCell ⟨w.heap.size, 1, none⟩ (.slice sg G.length cg)).setCell ⟨w.heap.size, 2, none⟩ (.slice so O.length co)) = We at *
          have z0 := (cell_row t1 0).trans rfl
          have z1 := (cell_row t1 1).trans rfl
          have z2 := (cell_row t1 2).trans rfl
          exact bodyPost_ret (v := .agg #[.string nm, .slice sg G.length cg, .slice so O.length co]) (by simp [results, Tryz.results5, go_sem, z0, z1, z2]) rfl ⟨⟨nm, G, O⟩, sg, cg, so, co, rfl, MS.out.made HNM.out, ⟨o1, b1⟩, ⟨o2, b1⟩⟩
    · have e2 : ¬ (i : Int) + 2 < (code.length : Int) := by omega
      have r0 := fun j => cell_row hmc.res j
      have fr := fun j => unfrozen_row hmc.res j
      have hbr := (Array.getElem?_eq_some_iff.1 hmc.res).1
      have f0 := fun j => unfrozen_row hmc.row j
      have hne : w.heap.size ≠ bx := Nat.ne_of_lt hmc.hB
      have hne2 : bx ≠ w.heap.size := fun e => hne e.symm
      clear hmc HC HR
      by_cases hO : O.length = 0
      · have hO2 : (O.length : Int) = 0 := by omega
        go_wp2
        have hm := M.out
        have hres : (wr.setCell ⟨bx, 2, none⟩ (Value.slice (some ⟨wr.heap.size, 0, none⟩) 1 1)).heap[w.heap.size]? = some (.cells #[.string ⟨#[]⟩, .slice none 0 0, .slice none 0 0] 25 (0, 0)) := (Below.heap_setCell wr _ _ _ hne).trans hm.res
        obtain ⟨t1, t2, t3⟩ := fin_row hres (.string nm) (.slice sg G.length cg) (.slice (some ⟨wr.heap.size, 0, none⟩) 1 1)
        have o1 := t2 (by decide) (ownsRow_store (i := 2) (u := .slice (some ⟨wr.heap.size, 0, none⟩) 1 1) hm.og hm.row (by decide))
        have b1 := t3 (Nat.le_refl _) (hm.below.setCell (p := ⟨bx, 2, none⟩) (Nat.le_of_lt hm.hB) (.slice (some ⟨wr.heap.size, 0, none⟩) 1 1))
        have hws : (((((wr.setCell ⟨bx, 2, none⟩ (Value.slice (some ⟨wr.heap.size, 0, none⟩) 1 1)).setCell ⟨w.heap.size, 0, none⟩ (.string nm)).setCell ⟨w.heap.size, 1, none⟩ (.slice sg G.length cg)).setCell ⟨w.heap.size, 2, none⟩ (Value.slice (some ⟨wr.heap.size, 0, none⟩) 1 1))).heap.size = wr.heap.size := by simp
        clear t2 t3 hres hm r0 fr c0 f0
        generalize ((((wr.setCell ⟨bx, 2, none⟩ (Value.slice (some ⟨wr.heap.size, 0, none⟩) 1 1)).setCell ⟨w.heap.size, 0, none⟩ (.string nm)).setCell ⟨w.heap.size, 1, none⟩ (.slice sg G.length cg)).setCell ⟨w.heap.size, 2, none⟩ (Value.slice (some ⟨wr.heap.size, 0, none⟩) 1 1)) = Wf at *
        rw [← hws]
        rw [← hws] at t1
        have t4 := (Below.heap_alloc Wf (Obj.cells #[Value.int IntKind.i64 ((G.length : Int) - 1)] 3) _ (Array.getElem?_eq_some_iff.1 t1).1).trans t1
        have o3 : (Wf.alloc (Obj.cells #[Value.int IntKind.i64 ((G.length : Int) - 1)] 3)).ownsRow w.heap.size 3 1 (.slice (some ⟨Wf.heap.size, 0, none⟩) 1 1) 1 [.int .i64 ((G.length : Int) - 1)] := ⟨rfl, .inr ⟨Wf.heap.size, 1, #[.int .i64 ((G.length : Int) - 1)], rfl, b1.size, heap_alloc_new Wf _, Nat.le_refl _, by decide, rfl, rfl⟩⟩
        have o4 := ownsRow_below o1 ((Below.refl _ _).alloc (Nat.le_refl _) (Obj.cells #[Value.int IntKind.i64 ((G.length : Int) - 1)] 3))
        have b4 := b1.alloc b1.size (Obj.cells #[Value.int IntKind.i64 ((G.length : Int) - 1)] 3)
        clear t1 o1 b1 hws
        generalize Wf.alloc (Obj.cells #[Value.int IntKind.i64 ((G.length : Int) - 1)] 3) = We at *
        have z0 := (cell_row t4 0).trans rfl
        have z1 := (cell_row t4 1).trans rfl
        have z2 := (cell_row t4 2).trans rfl
        exact bodyPost_ret (v := .agg #[.string nm, .slice sg G.length cg, .slice (some ⟨Wf.heap.size, 0, none⟩) 1 1]) (by simp [results, Tryz.results5, go_sem, z0, z1, z2]) rfl ⟨⟨nm, G, [(G.length : Int) - 1]⟩, sg, cg, some ⟨Wf.heap.size, 0, none⟩, 1, rfl, MS.out.made1 HNM.out, ⟨o4, b4⟩, ⟨o3, b4⟩⟩
      · have hO2 : ¬ (O.length : Int) = 0 := by omega
        go_wp2
        have hm := M.out
        obtain ⟨t1, t2, t3⟩ := fin_row hm.res (.string nm) (.slice sg G.length cg) (.slice so O.length co)
        have o1 := t2 (by decide) hm.og
        have o2 := t2 (by decide) hm.oo
        have b1 := t3 (Nat.le_refl _) hm.below
        clear t2 t3 hm r0 fr c0 f0
        generalize (((wr.setCell ⟨w.heap.size, 0, none⟩ (.string nm)).setCell ⟨w.heap.size, 1, none⟩ (.slice sg G.length cg)).setCell ⟨w.heap.size, 2, none⟩ (.slice so O.length co)) = We at *
        have z0 := (cell_row t1 0).trans rfl
        have z1 := (cell_row t1 1).trans rfl
        have z2 := (cell_row t1 2).trans rfl
        exact bodyPost_ret (v := .agg #[.string nm, .slice sg G.length cg, .slice so O.length co]) (by simp [results, Tryz.results5, go_sem, z0, z1, z2]) rfl ⟨⟨nm, G, O⟩, sg, cg, so, co, rfl, MS.out.made HNM.out, ⟨o1, b1⟩, ⟨o2, b1⟩⟩
end Go.Proofs.YtfmmmhcpdinhgabGreatDoor
/-
  CircuitBack: the law.
-/
namespace Go.Proofs.YtfmmmhcpdinhgabGreatDoor
open Go.RowKit Go.Deep PureNet PureRd ShfKit
set_option maxRecDepth 100000

theorem ops_at {W : World} {T : Nat → List UInt8} (h : OpsT W T) : OpsAt W 2 (tbOf T) := ⟨h.pos, h.word⟩
theorem set_ne {W : World} {b i k : Nat} {v : Value} (h : b ≠ k) : (W.setCell ⟨b, i, none⟩ v).heap[k]? = W.heap[k]? := by simp [World.setCell, Array.getElem?_modify, h]
end Go.Proofs.YtfmmmhcpdinhgabGreatDoor
/-
  What comes in, and the tables, off what the rows list.
-/
namespace Go.Proofs.YtfmmmhcpdinhgabGreatDoor
open Go.ChangeShapes Go.WideShapes Go.ChangeAt Go.RowKit Go.Deep PureNet PureRd
set_option maxRecDepth 100000

theorem own : ownKnob Tryz.prog.godebug = none := by kernel_rfl
theorem laidOut : laidOutB Tryz.prog = true := by kernel_rfl
theorem cells3 : Tryz.prog.cellsOf 3 = 1 := by kernel_rfl
theorem bytes3 : Tryz.prog.bytesOf 3 = 8 := by kernel_rfl
theorem i64_wf {n : Int} (h : (Lit.int .i64 n).wf = true) : -9223372036854775808 ≤ n ∧ n ≤ 9223372036854775807 := by
  have e1 : IntKind.i64.min = -9223372036854775808 := rfl
  have e2 : IntKind.i64.max = 9223372036854775807 := rfl
  simpa [Lit.wf, e1, e2] using h
theorem cells_of {W : World} {a : Addr} {xs : List Value} (h : ∀ (k : Nat) (x : Value), xs[k]? = some x → W.cell? (a.add k) = some x) : CellsAt W (some a) xs := ⟨fun k x hx => by
  have hc := h k x hx
  have h0 : 0 < xs.length := by
    have := (List.getElem?_eq_some_iff.1 hx).1
    omega
  have hs := World.cell?_spot (h 0 _ (List.getElem?_eq_getElem h0))
  obtain ⟨b, off, spot⟩ := a
  obtain rfl : spot = none := by simpa [Addr.add] using hs
  rw [add_plain] at hc
  exact ⟨b, off, rfl, World.block_lt_of_cell? W _ hc, hc⟩⟩

section
variable {H : Type} {enc : TypeId × Value → H} {W : World} {spare : Nat → Bool} {held : Bool}

set_option maxRecDepth 100000 in
/-- numbers that came in. -/
theorem open_nums {v : Value} {d : DataW H} {ps : List MemPlace} {base : Nat} (hval : Value.okWide Tryz.prog W .any base 22 v) (h : DataW.Trod enc Tryz.prog W 0 spare held 22 v d ps) :
    ∃ (sa : Option Addr) (ca : Nat) (l : List Int), v = .slice sa l.length ca ∧ CellsAt W sa (nu l) ∧ (∀ x ∈ l, -9223372036854775808 ≤ x ∧ x ≤ 9223372036854775807) ∧
      ∀ {ts : List TypeId} {ds : List (DataW H)} {j : Nat}, (DataW.weightsEach Tryz.prog ts ds).all (· ≤ reachBytes) = true → ts[j]? = some 22 → ds[j]? = some d → l.length ≤ 17592186043904 := by
  obtain ⟨a0, len, cap, rfl⟩ := okWide_slice Tryz.underlying22 hval
  obtain ⟨fuel, hf⟩ := h
  rcases open_ints Tryz.underlying22 Tryz.underlying3 cells3 hf with ⟨hcs, hx⟩ | ⟨a, len', cap', zs, hcs, _, hl, hm, hz, hx, hcell, hwz⟩
  · simp [Value.cells] at hcs
    obtain ⟨rfl, rfl, rfl⟩ := hcs
    exact ⟨none, 0, [], rfl, CellsAt.nil _ _, (fun x hx => by cases hx), fun _ _ _ => Nat.zero_le _⟩
  · simp [Value.cells] at hcs
    obtain ⟨rfl, rfl, rfl⟩ := hcs
    obtain ⟨rfl, -⟩ := Prod.mk.inj hx
    have hlz : len ≤ zs.length := by rw [hz]; split <;> omega
    have hlen : (zs.take len).length = len := by simp [hlz]
    refine ⟨some a, cap, zs.take len, by rw [hlen], cells_of fun k x hkx => ?_, fun x hx => i64_wf (hwz _ (List.mem_of_mem_take hx)), fun {ts ds j} hsz ht hd => ?_⟩
    · have hk : k < len := by
        have := (List.getElem?_eq_some_iff.1 hkx).1
        simpa [nu, hlz] using this
      have h1 := hcell k (by omega)
      rw [h1, ← hkx]
      simp [nu, hk, List.getD, List.getElem?_eq_getElem (show k < zs.length by omega)]
    · rw [hlen]
      have hr : reachBytes = 140737488351232 := by decide
      have hw : ((lits (H := H) IntKind.i64 (List.take len zs)).length + (lits (H := H) IntKind.i64 (List.drop len zs)).length) * 8 ∈ (DataW.slice (lits IntKind.i64 (List.take len zs)) (lits (H := H) IntKind.i64 (List.drop len zs))).weights Tryz.prog 22 := by
        simp [DataW.weights, Tryz.underlying22, bytes3]
      have h2 := List.all_eq_true.1 hsz _ (DataW.weights_mem_each ht hd _ hw)
      have h3 : ((lits (H := H) IntKind.i64 (List.take len zs)).length + (lits (H := H) IntKind.i64 (List.drop len zs)).length) * 8 ≤ reachBytes := by simpa using h2
      simp only [lits, List.length_map, List.length_take, List.length_drop] at h3
      omega

end

theorem cells137 : Tryz.prog.cellsOf 92 = 3 := by kernel_rfl
theorem cells138 : Tryz.prog.cellsOf 93 = 15 := by kernel_rfl
theorem cells9 : Tryz.prog.cellsOf 9 = 1 := by kernel_rfl
/-- a number of a line of the table. -/
theorem kind_cells {W : World} {fuel : Nat} {cs : List Value} {s : List UInt8} {a b : Int} {y : DataW Unit × List MemPlace} (h : DataW.trod (fun _ => ()) Tryz.prog W 0 (fun _ => true) false fuel 92 cs = some y) (hy : y.1 = .agg [.lit (.string s), .lit (.int .i64 a), .lit (.int .i64 b)]) :
    cs[1]? = some (.int .i64 a) ∧ cs[2]? = some (.int .i64 b) := by
  obtain ⟨xs, m, e1, e2, hl, hxs, hall⟩ := DataW.trod_struct Tryz.underlying92 h
  have hl3 : cs.length = 3 := by rw [hl]; exact cells137
  match cs, hl3 with
  | [v0, v1, v2], _ =>
  have f1 := hall 1 _ rfl
  have f2 := hall 2 _ rfl
  simp [cells3] at f1 f2
  have hx3 : xs.length = 3 := by simpa using hxs
  rw [List.getElem?_eq_getElem (by omega)] at f1 f2
  obtain ⟨n1, g1, d1, _⟩ := DataW.trod_int Tryz.underlying3 f1
  obtain ⟨n2, g2, d2, _⟩ := DataW.trod_int Tryz.underlying3 f2
  rw [e2] at hy
  simp only [DataW.agg.injEq] at hy
  match xs, hx3 with
  | [x0, x1, x2], _ =>
  simp at hy d1 d2 g1 g2
  obtain ⟨_, hy1, hy2⟩ := hy
  rw [d1] at hy1
  rw [d2] at hy2
  simp at hy1 hy2
  subst hy1 hy2
  simp [g1, g2]
theorem cells139 : Tryz.prog.cellsOf 86 = 16 := by kernel_rfl
def opsL : List (List UInt8) := [[122, 101, 114, 111], [110, 111, 114], [108, 101, 115, 115], [110, 111, 116, 97], [100, 105, 102, 102], [110, 111, 116, 98], [120, 111, 114], [110, 97, 110, 100], [97, 110, 100], [105, 102, 102], [98], [105, 109, 112], [97], [114, 101, 118], [111, 114], [111, 110, 101]]
/-- the operators' words. -/
def opT (k : Nat) : ByteArray := ⟨(opsL.getD k []).toArray⟩
theorem opT_le (k : Nat) : (bl (opT k)).length ≤ 16 := by
  show (opsL.getD k []).toArray.toList.length ≤ 16
  rw [List.getD_eq_getElem?_getD]
  cases h : opsL[k]? with
  | none => simp
  | some x =>
    have h2 : ∀ y ∈ opsL, y.length ≤ 16 := by decide
    simpa using h2 x (List.mem_of_getElem? h)

theorem kind_word {W : World} {fuel : Nat} {cs : List Value} {s : List UInt8} {a b : Int} {y : DataW Unit × List MemPlace} (h : DataW.trod (fun _ => ()) Tryz.prog W 0 (fun _ => true) false fuel 92 cs = some y) (hy : y.1 = .agg [.lit (.string s), .lit (.int .i64 a), .lit (.int .i64 b)]) :
    cs[0]? = some (str s) := by
  obtain ⟨xs, m, e1, e2, hl, hxs, hall⟩ := DataW.trod_struct Tryz.underlying92 h
  have hl3 : cs.length = 3 := by rw [hl]; exact cells137
  match cs, hl3 with
  | [v0, v1, v2], _ =>
  have f0 := hall 0 _ rfl
  simp [cells9] at f0
  have hx3 : xs.length = 3 := by simpa using hxs
  rw [List.getElem?_eq_getElem (by omega)] at f0
  obtain ⟨n1, g1, d1, _⟩ := DataW.trod_string Tryz.underlying9 f0
  rw [e2] at hy
  simp only [DataW.agg.injEq] at hy
  match xs, hx3 with
  | [x0, x1, x2], _ =>
  simp at hy d1 g1
  obtain ⟨hy0, _, _⟩ := hy
  rw [d1] at hy0
  simp at hy0
  rw [← hy0]
  simp [g1]

theorem kinds_of_one {W : World} {t : TypeId} {g f : Nat} {cs : Array Value} {p : List MemPlace} (hg0 : Tryz.prog.globalNamed "strata/circuit.kinds" = some g) (ht0 : (Tryz.prog.globals[g]?).map (·.type) = some t) (hv0 : W.var? Tryz.prog "strata/circuit.kinds" = some cs) (hd0 : DataW.trod (fun _ => ()) Tryz.prog W 0 (fun _ => true) false f t cs.toList = some (Rows.laid_strata_circuit_kinds, p)) : KindsAt W ∧ KwAt W := by
  have hg : Tryz.prog.globalNamed "strata/circuit.kinds" = some 1 := by kernel_rfl
  obtain rfl := Option.some.inj (hg.symm.trans hg0)
  have ht : (Tryz.prog.globals[1]?).map (·.type) = some 93 := by kernel_rfl
  obtain rfl := Option.some.inj (ht.symm.trans ht0)
  obtain ⟨xs, m, e1, e2, hcl, hxs, hall⟩ := DataW.trod_array Tryz.underlying93 hd0
  have hc : ∀ j, W.cell? ⟨1, j, none⟩ = cs.toList[j]? := fun j => by simpa using World.var?_cell hg0 hv0 j
  have hd := congrArg Prod.fst e2
  simp only [Rows.laid_strata_circuit_kinds, DataW.agg.injEq] at hd
  have hlen : cs.toList.length = 15 := by rw [hcl]; exact cells138
  match xs, hxs with
  | [x0, x1, x2, x3, x4], _ =>
  simp at hd
  obtain ⟨_, y1, y2, y3, y4⟩ := hd
  have t1 := hall 1 (by omega)
  have t2 := hall 2 (by omega)
  have t3 := hall 3 (by omega)
  have t4 := hall 4 (by omega)
  rw [cells137] at t1 t2 t3 t4
  obtain ⟨a1, b1⟩ := kind_cells t1 y1.symm
  obtain ⟨a2, b2⟩ := kind_cells t2 y2.symm
  obtain ⟨a3, b3⟩ := kind_cells t3 y3.symm
  obtain ⟨a4, b4⟩ := kind_cells t4 y4.symm
  have z1 := kind_word t1 y1.symm
  have z2 := kind_word t2 y2.symm
  have z3 := kind_word t3 y3.symm
  have z4 := kind_word t4 y4.symm
  simp only [List.getElem?_take, List.getElem?_drop] at a1 a2 a3 a4 b1 b2 b3 b4 z1 z2 z3 z4
  simp at a1 a2 a3 a4 b1 b2 b3 b4 z1 z2 z3 z4
  refine ⟨⟨?_, fun k h1 h4 => ?_, fun k h1 h4 => ?_⟩, ⟨fun k h1 h4 => ?_⟩⟩
  · have h5 : W.cell? ⟨1, 0, none⟩ = some (cs.toList[0]'(by omega)) := by rw [hc]; exact List.getElem?_eq_getElem _
    exact World.block_lt_of_cell? W _ h5
  · rw [hc]
    have : k = 1 ∨ k = 2 ∨ k = 3 ∨ k = 4 := by omega
    rcases this with rfl | rfl | rfl | rfl <;> simpa [mostN]
  · rw [hc]
    have : k = 1 ∨ k = 2 ∨ k = 3 ∨ k = 4 := by omega
    rcases this with rfl | rfl | rfl | rfl <;> simpa [usesN]
  · rw [hc]
    have : k = 1 ∨ k = 2 ∨ k = 3 ∨ k = 4 := by omega
    rcases this with rfl | rfl | rfl | rfl <;> simpa [kw]

theorem ops_of_one {W : World} {nm : String} {b f : Nat} {cs : Array Value} {p : List MemPlace} (hg0 : Tryz.prog.globalNamed nm = some b) (hv0 : W.var? Tryz.prog nm = some cs) (hd0 : DataW.trod (fun _ => ()) Tryz.prog W 0 (fun _ => true) false f 86 cs.toList = some (.agg (opsL.map fun s => .lit (.string s)), p)) : OpsAt W b opT := by
  obtain ⟨xs, m, e1, e2, hcl, hxs, hall⟩ := DataW.trod_array Tryz.underlying86 hd0
  have hc : ∀ j, W.cell? ⟨b, j, none⟩ = cs.toList[j]? := fun j => by simpa using World.var?_cell hg0 hv0 j
  have hd := congrArg Prod.fst e2
  simp only [DataW.agg.injEq] at hd
  have hlen : cs.toList.length = 16 := by rw [hcl]; exact cells139
  have hw : ∀ k : Nat, k < 16 → cs.toList[k]? = some (.string (opT k)) := fun k hk => by
    have tk := hall k hk
    rw [cells9] at tk
    have hk2 : k < xs.length := by omega
    rw [List.getElem?_eq_getElem hk2] at tk
    obtain ⟨s, g1, d1, _⟩ := DataW.trod_string Tryz.underlying9 tk
    have h0 := congrArg (fun l => l[0]?) g1
    simp only [List.getElem?_take, List.getElem?_drop] at h0
    simp at h0
    have h1 : (opsL.map fun s => (DataW.lit (Lit.string s) : DataW Unit))[k]? = (xs.map Prod.fst)[k]? := by rw [hd]
    have hk3 : k < opsL.length := by simpa [opsL] using hk
    simp [hk2, hk3, d1] at h1
    rw [List.getElem?_eq_getElem (by omega)]
    simp only [Array.getElem_toList]
    have h2 : opT k = s := by
      show (⟨(opsL.getD k []).toArray⟩ : ByteArray) = s
      rw [List.getD_eq_getElem?_getD, List.getElem?_eq_getElem hk3, Option.getD_some, h1]
    rw [h2]
    have h3 : cs[k]? = some (.string s) := by simpa using h0
    rw [Array.getElem?_eq_getElem (by have := hlen; simp at this; omega)] at h3
    exact h3
  refine ⟨?_, fun k hk => by rw [hc]; exact hw k hk⟩
  have h5 : W.cell? ⟨b, 0, none⟩ = some (.string (opT 0)) := by rw [hc]; exact hw 0 (by omega)
  exact World.block_lt_of_cell? W _ h5

def opW (k : Nat) : List UInt8 := opsL.getD k []
theorem opW_ok : TabOk opW := by
  refine ⟨?_, ?_, fun k => ?_⟩
  · have key : ∀ k : Fin 16, PlainA (opW k.val) := by unfold PlainA PlainW PlainC; decide
    exact fun k hk => key ⟨k, hk⟩
  · have key : ∀ k : Fin 16, opF opW (opW k.val) = (k.val : Int) := by decide
    exact fun k hk => key ⟨k, hk⟩
  · have := opT_le k
    simpa [opT, bl, opW] using this
theorem tables_of_circles {W : World} (h0 : laidMetH Tryz.prog Rows.circuitCirclesRow.laid W) : KindsAt W ∧ KwAt W ∧ OpsT W opW ∧ OpsAt W 0 (tbOf opW) := by
  have h : laidMet Tryz.prog [("math/bits.deBruijn32tab", Rows.laid_math_bits_deBruijn32tab), ("math/bits.deBruijn64tab", Rows.laid_math_bits_deBruijn64tab), ("internal/strconv.uint64pow10", Rows.laid_internal_strconv_uint64pow10), ("strata/strataref14.words", Rows.laid_strata_strataref14_words), ("unicode/utf8.acceptRanges", Rows.laid_unicode_utf8_acceptRanges), ("strata/circuit.kinds", Rows.laid_strata_circuit_kinds), ("strata/circuit.operators", Rows.laid_strata_circuit_operators), ("unicode/utf8.first", Rows.laid_unicode_utf8_first)] W := h0
  obtain ⟨ps, h1, _⟩ := h
  obtain ⟨_, _, _, _, _, _, _, _, _, _, h2, _⟩ := h1
  obtain ⟨_, _, _, _, _, _, _, _, _, _, h3, _⟩ := h2
  obtain ⟨_, _, _, _, _, _, _, _, _, _, h4, _⟩ := h3
  obtain ⟨g4, t4, c4, f4, p4, q4, hg4, ht4, hv4, hd4, h5, _⟩ := h4
  obtain ⟨_, _, _, _, _, _, _, _, _, _, h6, _⟩ := h5
  obtain ⟨g6, t6, c6, f6, p6, q6, hg6, ht6, hv6, hd6, h7, _⟩ := h6
  obtain ⟨g7, t7, c7, f7, p7, q7, hg7, ht7, hv7, hd7, h8, _⟩ := h7
  obtain ⟨k1, k2⟩ := kinds_of_one hg6 ht6 hv6 hd6
  obtain rfl : 2 = g7 := Option.some.inj ((show Tryz.prog.globalNamed "strata/circuit.operators" = some 2 by kernel_rfl).symm.trans hg7)
  obtain rfl : 86 = t7 := Option.some.inj ((show (Tryz.prog.globals[2]?).map (·.type) = some 86 by kernel_rfl).symm.trans ht7)
  have o2 := ops_of_one hg7 hv7 hd7
  obtain rfl : 0 = g4 := Option.some.inj ((show Tryz.prog.globalNamed "strata/strataref14.words" = some 0 by kernel_rfl).symm.trans hg4)
  obtain rfl : 86 = t4 := Option.some.inj ((show (Tryz.prog.globals[0]?).map (·.type) = some 86 by kernel_rfl).symm.trans ht4)
  exact ⟨k1, k2, ⟨o2.pos, o2.word⟩, ops_of_one hg4 hv4 hd4⟩
end Go.Proofs.YtfmmmhcpdinhgabGreatDoor
/-
  Where the names of a circuit's lines stand in its text. Pure.
-/
namespace Go.Proofs.YtfmmmhcpdinhgabGreatDoor
open Go.RowKit Go.Deep PureNet PureRd ShfKit
set_option maxRecDepth 100000

theorem take_refuse (s : Rs) (c : Int) (a : Nat) : (PureRd.take (PureRd.refuse s c a)).1 = (PureRd.take s).1 := by
  unfold PureRd.take
  rw [refuse_left]
  cases s.left <;> rfl
theorem begin_at (kind : Int) (s : Rs) : (PureRd.begin nameL kind s).names = s.names ++ [(PureRd.take s).1.2] := by
  unfold PureRd.begin
  dsimp only
  have e1 : ∀ s1 : Rs, s1 = (if s.names.length = 65536 then PureRd.refuse s 8 s.last.2 else s) → (PureRd.take s1).1 = (PureRd.take s).1 ∧ s1.names = s.names := by
    intro s1 h
    by_cases hc : s.names.length = 65536
    · rw [if_pos hc] at h
      rw [h, take_refuse]
      exact ⟨rfl, (refuse_same s 8 s.last.2).names⟩
    · rw [if_neg hc] at h
      rw [h]
      exact ⟨rfl, rfl⟩
  have h3 : ∀ s1 : Rs, (PureRd.name nameL s1).1 = (PureRd.take s1).1 := fun _ => rfl
  have h4 : ∀ s1 : Rs, (PureRd.name nameL s1).2.names = s1.names := fun s1 => (name_same nameL s1).names
  have h5 : ∀ (q : Bool) (a : Rs) (c : Int) (k : Nat), (if q = true then PureRd.refuse a c k else a).names = a.names := fun q a c k => by
    cases q
    · rfl
    · exact (refuse_same a c k).names
  generalize hs1 : (if s.names.length = 65536 then PureRd.refuse s 8 s.last.2 else s) = s1
  obtain ⟨h1, h2⟩ := e1 s1 hs1.symm
  rw [h5, h4, h2, h3, h1]
theorem uses_names (n : Nat) (s : Rs) : (withUses nameL n s).names = s.names := (namesOf_same nameL s n).names
theorem withOp_names (F : List UInt8 → Int) (s : Rs) : (withOp F s).names = s.names := (op_same F s).names
theorem shut_names (s : Rs) : (shut s).names = s.names := by
  unfold shut
  split
  · rfl
  · exact (refuse_same _ _ _).names
theorem step_names (T : Nat → List UInt8) (f : Nat) (s : Rs) : (stepF T f s).names = s.names ∨ (stepF T f s).names = s.names ++ [(PureRd.take s).1.2] := by
  unfold stepF
  by_cases h1 : f = 32
  · rw [if_pos h1]; exact .inl (name_same nameL s).names
  rw [if_neg h1]
  by_cases h2 : f = 50
  · rw [if_pos h2]; exact .inr (begin_at 1 s)
  rw [if_neg h2]
  by_cases h3 : f = 51
  · rw [if_pos h3, uses_names, withOp_names]; exact .inr (begin_at 2 s)
  rw [if_neg h3]
  by_cases h4 : f = 52
  · rw [if_pos h4, uses_names]; exact .inr (begin_at 4 s)
  rw [if_neg h4]
  by_cases h5 : f = 53
  · rw [if_pos h5, uses_names, withOp_names]; exact .inr (begin_at 3 s)
  rw [if_neg h5]
  by_cases h6 : f = 54
  · rw [if_pos h6]
    left
    unfold PureRd.output
    dsimp only
    rw [(namesOf_same nameL _ 1).names]
    show (if s.outs = 65536 then PureRd.refuse s 8 s.last.2 else s).names = s.names
    split
    · exact (refuse_same _ _ _).names
    · rfl
  rw [if_neg h6]
  exact .inl rfl
theorem line_names (T : Nat → List UInt8) (ws : List Wd) (s : Rs) : ∃ q, (lineF T ws s).names = s.names ++ q := by
  cases ws with
  | nil => exact ⟨[], by simp [lineF]⟩
  | cons y t =>
    unfold lineF
    dsimp only
    cases fnOf s.mode y.1 with
    | none => exact ⟨[], by rw [(refuse_same _ _ _).names, List.append_nil]⟩
    | some f =>
      dsimp only
      rw [shut_names]
      rcases step_names T f { s with last := y, left := t } with h | h
      · exact ⟨[], by rw [h, List.append_nil]⟩
      · exact ⟨_, h⟩
theorem lines_names (T : Nat → List UInt8) (text : List UInt8) : ∀ (f p : Nat) (s : Rs), ∃ q, (linesF T text f p s).names = s.names ++ q
  | 0, _, s => ⟨[], by simp [linesF]⟩
  | f + 1, p, s => by
    rw [linesF]
    split
    · obtain ⟨q1, h1⟩ := line_names T (wordsOf (cutLine (text.drop p)) p) s
      obtain ⟨q2, h2⟩ := lines_names T text f (p + ((cutLine (text.drop p)).length + 1)) (lineF T (wordsOf (cutLine (text.drop p)) p) s)
      exact ⟨q1 ++ q2, by rw [h2, h1, List.append_assoc]⟩
    · exact ⟨[], by simp⟩
/-- a line of a circuit: its name's place is noted. -/
theorem gate_names (T : Nat → List UInt8) (y z : Wd) (t : List Wd) (s : Rs) (hm : s.mode = 1) (hk : y.1 = [105, 110, 112, 117, 116] ∨ y.1 = [103, 97, 116, 101] ∨ y.1 = [108, 97, 116, 99, 104] ∨ y.1 = [109, 117, 120]) : (lineF T (y :: z :: t) s).names = s.names ++ [z.2] := by
  have key : ∀ f, fnOf s.mode y.1 = some f → (stepF T f { s with last := y, left := z :: t }).names = s.names ++ [z.2] → (lineF T (y :: z :: t) s).names = s.names ++ [z.2] := fun f hf h => by
    unfold lineF
    dsimp only
    rw [hf]
    dsimp only
    rw [shut_names, h]
  have tk : (PureRd.take { s with last := y, left := z :: t }).1.2 = z.2 := rfl
  rcases hk with h | h | h | h
  · exact key 50 (by rw [hm, h]; rfl) (by unfold stepF; rw [if_neg (by decide), if_pos rfl, begin_at, tk])
  · exact key 51 (by rw [hm, h]; rfl) (by unfold stepF; rw [if_neg (by decide), if_neg (by decide), if_pos rfl, uses_names, withOp_names, begin_at, tk])
  · exact key 53 (by rw [hm, h]; rfl) (by unfold stepF; rw [if_neg (by decide), if_neg (by decide), if_neg (by decide), if_neg (by decide), if_pos rfl, uses_names, withOp_names, begin_at, tk])
  · exact key 52 (by rw [hm, h]; rfl) (by unfold stepF; rw [if_neg (by decide), if_neg (by decide), if_neg (by decide), if_pos rfl, uses_names, begin_at, tk])
end Go.Proofs.YtfmmmhcpdinhgabGreatDoor
