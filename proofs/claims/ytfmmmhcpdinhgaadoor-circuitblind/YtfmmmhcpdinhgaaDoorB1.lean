/-
  The law's shuffled: the places.
-/
import Derived.Test.YtfmmmhcpdinhgaaDoorB0
import Derived.Test.YtfmmmhcpdinhgaaDoorPrm
namespace Go.Proofs.YtfmmmhcpdinhgaaDoor
open Go.RowKit Go.Deep PureNet
set_option maxRecDepth 100000

def nn (l : List Nat) : List Value := l.map fun (k : Nat) => .int .i64 (k : Int)
theorem nn_at {W : World} {s : Option Addr} {l : List Nat} (h : CellsAt W s (nn l)) (k x : Nat) (hx : l[k]? = some x) : ∃ b o, s = some ⟨b, o, none⟩ ∧ b < W.heap.size ∧ W.cell? ⟨b, o + k, none⟩ = some (.int .i64 (x : Int)) :=
  h.at_ k _ (by simp [nn, hx])
theorem nn_set (l : List Nat) (i v : Nat) : (nn l).toArray.setIfInBounds i (.int .i64 (v : Int)) = (nn (l.set i v)).toArray := by
  simp [nn]
/-- the places and those that may be changed. -/
structure Sh (w W : World) (ab : Nat) (P : List Nat) (fv : Value) (F : List Nat) : Prop where
  at_ : W.heap[ab]? = some (.cells (nn P).toArray 3 (0, 0))
  hB : w.heap.size ≤ ab
  free : W.ownsRow (ab + 1) 3 1 fv F.length (nn F)
  below : Below w.heap.size w W
section
variable {w W W' : World} {ab : Nat} {P F : List Nat} {fv fv' : Value}
theorem Sh.size (h : Sh w W ab P fv F) : ab < W.heap.size := (Array.getElem?_eq_some_iff.1 h.at_).1
theorem Sh.on (h : Sh w W ab P fv F) (hb : Below W.heap.size W W') : Sh w W' ab P fv F :=
  ⟨(hb.block _ h.size).trans h.at_, h.hB, ownsRow_below h.free hb, h.below.trans (hb.mono h.below.size)⟩
theorem Sh.set (h : Sh w W ab P fv F) (i v : Nat) : Sh w (W.setCell ⟨ab, i, none⟩ (.int .i64 (v : Int))) ab (P.set i v) fv F := by
  refine ⟨by have := row_set (i := i) (u := .int .i64 (v : Int)) h.at_; rwa [nn_set] at this, h.hB, ⟨h.free.1, ?_⟩, h.below.setCell h.hB _⟩
  rcases h.free.2 with hn | ⟨g, cap, cur, hv, hB, hg, rest⟩
  · exact .inl hn
  · exact .inr ⟨g, cap, cur, hv, hB, (Below.heap_setCell W _ _ _ (fun e => by have e2 : g = ab := e; omega)).trans hg, rest⟩
theorem Sh.push (h : Sh w W ab P fv F) {x : Nat} (ho : W'.ownsRow (ab + 1) 3 1 fv' (F.length + 1) (nn F ++ [.int .i64 (x : Int)])) (hg : W.grownBy W' fv.ownBlock) : Sh w W' ab P fv' (F ++ [x]) := by
  refine ⟨(hg.block ab h.size (fun e => by have := (h.free.lt ab e.symm).1; omega)).trans h.at_, h.hB, by rw [List.length_append, nn, List.map_append]; exact ho, h.below.grown hg h.below.size (fun j hj => ?_)⟩
  have := (h.free.lt j hj).1
  have := h.hB
  omega
end

theorem sh_app {ops : Array Oper} {rest : List Oper} {o : Oper} {a : Act} {Q : Exit → Act → World → Prop} {w W : World} {ab : Nat} {P F : List Nat} {v : Value} (hgd : o.guard = none) (sl y : Operand)
    (ho : o.op = .call { callee := .builtin .append, args := #[sl, y], argTypes := #[22, 22] }) (h : Sh w W ab P v F) (x ad : Nat) (had : ad = W.heap.size) (hs : a.eval sl = v) (hx : a.eval y = .slice (some ⟨ad, 0, none⟩) 1 1) (hn : F.length ≤ 1048576)
    (hK : ∀ sx cx w', Sh w w' ab P (.slice sx (F.length + 1) cx) (F ++ [x]) → wpList Tryd.prog ops Q rest (a.put o.dst (.slice sx (F.length + 1) cx)) w') :
    wpList Tryd.prog ops Q (o :: rest) a (W.alloc (.cells #[.int .i64 (x : Int)] 3)) := by
  subst had
  have h2 := h.on ((Below.refl _ _).alloc (Nat.le_refl _) (Obj.cells #[.int .i64 (x : Int)] 3))
  refine app_one hgd sl y 22 3 _ 1 8 ho Tryd.underlying22 info3 rfl (by decide) (ab + 1) F.length v (nn F) [.int .i64 (x : Int)] ⟨W.heap.size, 0, none⟩ hs h2.free hx rfl (fun j u hu => by rw [add_zero_addr, cell_row (heap_alloc_new W _)]; simpa using hu) (fun u hu => by simp at hu; subst hu; rfl) (by omega) (by omega) h2.size ?_
  intro v4 w4 o4 g4
  obtain ⟨sx, cx, rfl⟩ := own_shape o4
  exact hK sx cx w4 (h2.push o4 g4)
theorem first_set (n i : Nat) (h : i < n) : (List.range i ++ List.replicate (n - i) 0).set i i = List.range (i + 1) ++ List.replicate (n - (i + 1)) 0 := by
  rw [List.set_append_right _ _ (by simp)]
  simp only [List.length_range, Nat.sub_self]
  rw [show n - i = (n - (i + 1)) + 1 by omega, List.replicate_succ, List.set_cons_zero, List.range_succ, List.append_assoc]
  rfl
/-- lines that may change their places. -/
structure FreeOf (c : Net) (F : List Nat) (i : Nat) : Prop where
  few : F.length ≤ i
  at_ : ∀ x ∈ F, x < c.gates.length ∧ ∀ g, c.gates[x]? = some g → ¬ (g.kind = 1 ∨ g.kind = 3)
theorem FreeOf.more {c : Net} {F : List Nat} {i : Nat} (h : FreeOf c F i) : FreeOf c F (i + 1) := ⟨by have := h.few; omega, h.at_⟩
theorem FreeOf.push {c : Net} {F : List Nat} {i : Nat} {g : Ga} (h : FreeOf c F i) (hg : c.gates[i]? = some g) (hk : ¬ (g.kind = 1 ∨ g.kind = 3)) : FreeOf c (F ++ [i]) (i + 1) := ⟨by have := h.few; simp; omega, fun x hx => by
  rcases List.mem_append.1 hx with hx | hx
  · exact h.at_ x hx
  · obtain rfl : x = i := by simpa using hx
    exact ⟨(List.getElem?_eq_some_iff.1 hg).1, fun g' hg' => by rw [hg] at hg'; cases hg'; exact hk⟩⟩

/-- the circuit that is being laid: its lines, its box, its outs. -/
structure Lo (w W : World) (gb ob : Nat) (nm : ByteArray) (D : List Ga) (ov : Value) (O : List Int) : Prop where
  gates : W.heap[gb]? = some (.cells (gas D).toArray 38 (0, 0))
  box : W.heap[ob]? = some (.cells #[.string nm, .slice (some ⟨gb, 0, none⟩) D.length D.length, ov] 26 (0, 0))
  hg : w.heap.size ≤ gb
  ho : w.heap.size ≤ ob
  outs : W.ownsRow w.heap.size 3 1 ov O.length (nu O)
  below : Below w.heap.size w W
section
variable {w W W' : World} {gb ob : Nat} {nm : ByteArray} {D : List Ga} {ov ov' : Value} {O : List Int}
theorem Lo.gsize (h : Lo w W gb ob nm D ov O) : gb < W.heap.size := (Array.getElem?_eq_some_iff.1 h.gates).1
theorem Lo.osize (h : Lo w W gb ob nm D ov O) : ob < W.heap.size := (Array.getElem?_eq_some_iff.1 h.box).1
theorem Lo.ne (h : Lo w W gb ob nm D ov O) : ob ≠ gb := fun e => by
  have := h.gates
  rw [← e, h.box] at this
  simp at this
theorem Lo.on (h : Lo w W gb ob nm D ov O) (hb : Below W.heap.size W W') : Lo w W' gb ob nm D ov O :=
  ⟨(hb.block _ h.gsize).trans h.gates, (hb.block _ h.osize).trans h.box, h.hg, h.ho, ownsRow_below h.outs hb, h.below.trans (hb.mono h.below.size)⟩
theorem Lo.set (h : Lo w W gb ob nm D ov O) (a : Nat) (g : Ga) (ha : a < D.length) :
    Lo w ((((((W.setCell ⟨gb, a * 6, none⟩ (.int .i64 g.kind)).setCell ⟨gb, a * 6 + 1, none⟩ (.string g.name)).setCell ⟨gb, a * 6 + 2, none⟩ (.int .i64 g.op)).setCell ⟨gb, a * 6 + 3, none⟩ (.int .i64 g.a)).setCell ⟨gb, a * 6 + 4, none⟩ (.int .i64 g.b)).setCell ⟨gb, a * 6 + 5, none⟩ (.int .i64 g.c)) gb ob nm (D.set a g) ov O := by
  have r1 := row_set (i := a * 6) (u := .int .i64 g.kind) h.gates
  have r2 := row_set (i := a * 6 + 1) (u := .string g.name) r1
  have r3 := row_set (i := a * 6 + 2) (u := .int .i64 g.op) r2
  have r4 := row_set (i := a * 6 + 3) (u := .int .i64 g.a) r3
  have r5 := row_set (i := a * 6 + 4) (u := .int .i64 g.b) r4
  have r6 := row_set (i := a * 6 + 5) (u := .int .i64 g.c) r5
  rw [gas_set D a g ha] at r6
  refine ⟨r6, ?_, h.hg, h.ho, ?_, (((((h.below.setCell h.hg _).setCell h.hg _).setCell h.hg _).setCell h.hg _).setCell h.hg _).setCell h.hg _⟩
  · rw [Below.heap_setCell _ _ _ _ h.ne, Below.heap_setCell _ _ _ _ h.ne, Below.heap_setCell _ _ _ _ h.ne, Below.heap_setCell _ _ _ _ h.ne, Below.heap_setCell _ _ _ _ h.ne, Below.heap_setCell _ _ _ _ h.ne, List.length_set]
    exact h.box
  · exact ownsRow_store (ownsRow_store (ownsRow_store (ownsRow_store (ownsRow_store (ownsRow_store h.outs h.gates (by decide)) r1 (by decide)) r2 (by decide)) r3 (by decide)) r4 (by decide)) r5 (by decide)
theorem Lo.out (h : Lo w W gb ob nm D ov O) {x : Int} (ho : W'.ownsRow w.heap.size 3 1 ov' (O.length + 1) (nu O ++ [.int .i64 x])) (hg : W.grownBy W' ov.ownBlock) :
    W'.heap[ob]? = some (.cells #[.string nm, .slice (some ⟨gb, 0, none⟩) D.length D.length, ov] 26 (0, 0)) ∧ Lo w (W'.setCell ⟨ob, 2, none⟩ ov') gb ob nm D ov' (O ++ [x]) := by
  have hbox : W'.heap[ob]? = _ := (hg.block ob h.osize (Ne.symm (own_ne h.outs h.box (by decide)))).trans h.box
  have hgat : W'.heap[gb]? = _ := (hg.block gb h.gsize (Ne.symm (own_ne h.outs h.gates (by decide)))).trans h.gates
  refine ⟨hbox, ⟨(Below.heap_setCell W' _ _ _ (Ne.symm h.ne)).trans hgat, by have := row_set (i := 2) (u := ov') hbox; simpa using this, h.hg, h.ho, ?_, (h.below.grown hg h.below.size (fun j hj => (h.outs.lt j hj).1)).setCell h.ho _⟩⟩
  have := ownsRow_store (i := 2) (u := ov') ho hbox (by decide)
  rw [List.length_append, nu, List.map_append]
  exact this
end

theorem two_rows (w : World) (A B : Obj) : ((w.alloc A).alloc B).heap[w.heap.size]? = some A ∧ ((w.alloc A).alloc B).heap[w.heap.size + 1]? = some B := by
  have s1 : (w.alloc A).heap.size = w.heap.size + 1 := by simp
  refine ⟨?_, ?_⟩
  · rw [Below.heap_alloc _ _ _ (by omega)]
    exact heap_alloc_new w A
  · rw [← s1]
    exact heap_alloc_new _ B
theorem lo_start1 (w : World) (n : Nat) (nm : ByteArray) : Lo w ((w.alloc (Obj.cells (gas (List.replicate n gz)).toArray 38)).alloc (Obj.cells #[Value.string nm, Value.slice (some ⟨w.heap.size, 0, none⟩) n n, Value.slice none 0 0] 26)).drew w.heap.size (w.heap.size + 1) nm (List.replicate n gz) (.slice none 0 0) [] :=
  ⟨(two_rows w _ _).1, by rw [List.length_replicate]; exact (two_rows w _ _).2, Nat.le_refl _, Nat.le_succ _, World.ownsRow_nil _ _ _ _, (((Below.refl _ _).alloc (Nat.le_refl _) _).alloc (by simp) _).drew⟩
theorem lo_start2 (w : World) (n : Nat) (nm : ByteArray) : Lo w ((w.alloc (Obj.cells #[Value.string nm, Value.slice (some ⟨w.heap.size + 1, 0, none⟩) n n, Value.slice none 0 0] 26)).alloc (Obj.cells (gas (List.replicate n gz)).toArray 38)).drew (w.heap.size + 1) w.heap.size nm (List.replicate n gz) (.slice none 0 0) [] :=
  ⟨(two_rows w _ _).2, by rw [List.length_replicate]; exact (two_rows w _ _).1, Nat.le_succ _, Nat.le_refl _, World.ownsRow_nil _ _ _ _, (((Below.refl _ _).alloc (Nat.le_refl _) _).alloc (by simp) _).drew⟩

set_option maxHeartbeats 4000000 in
set_option maxRecDepth 100000 in
theorem shuffled_any (c : Net) (sg so : Option Addr) (cg co : Nat) (how : List Int) (sh : Option Addr) (ch : Nat) (w : World) (hm : Made c) (hc : CirAt w c sg so) (hh : CellsAt w sh (nu how)) (hr : ∀ x ∈ how, -9223372036854775808 ≤ x ∧ x ≤ 9223372036854775807) (hl : how.length ≤ 17592186043904) :
    Calls Tryd.prog 17 #[cirV c sg cg so co, .slice sh how.length ch] w fun e w' => ∃ d p sg2 cg2 so2 co2, e = .returned (cirV d sg2 cg2 so2 co2) ∧ Shuf c d p ∧ CirAt w' d sg2 so2 ∧ Below w.heap.size w w' := by
  have HC := hid hc
  have HH := hid hh
  have HR := hid hr
  have HM := hid hm
  have hfew := hm.few
  have hfewo := hm.fewOuts
  obtain ⟨n, hn⟩ : ∃ n, n = c.gates.length := ⟨_, rfl⟩
  have hmk : ∀ W : World, (Instr.makeSlice 22 (.int .i64 (c.gates.length : Int)) (.int .i64 (c.gates.length : Int))).run Tryd.prog W = .ok (.slice (some ⟨W.heap.size, 0, none⟩) c.gates.length c.gates.length) (W.alloc (.cells (madeCells #[.int .i64 0] c.gates.length) 3)) := fun W =>
    run_make_row' (P := Tryd.prog) 22 3 (.int .i64 0) 8 Tryd.underlying22 info3 rfl .i64 .i64 c.gates.length (by omega) (by omega) W
  clear hc hh hr hm hn
  go_enter Tryd.func17, Tryd.ntmps17
  go_wp2
  obtain ⟨Y, hY⟩ : ∃ Y, Y = (w.alloc (Obj.cells #[Value.string c.name, Value.slice sg c.gates.length cg, Value.slice so c.outs.length co] 26)).alloc (Obj.cells #[Value.string { data := #[] }, Value.slice none 0 0, Value.slice none 0 0] 26) := ⟨_, rfl⟩
  have hYs : Y.heap.size = w.heap.size + 1 + 1 := by rw [hY]; simp
  have r1 : Y.heap[w.heap.size]? = some (Obj.cells #[Value.string c.name, Value.slice sg c.gates.length cg, Value.slice so c.outs.length co] 26) := by rw [hY, Below.heap_alloc _ _ _ (by simp)]; exact heap_alloc_new w _
  have r2 : Y.heap[w.heap.size + 1]? = some (Obj.cells #[Value.string { data := #[] }, Value.slice none 0 0, Value.slice none 0 0] 26) := by
    rw [hY, show w.heap.size + 1 = (w.alloc (Obj.cells #[Value.string c.name, Value.slice sg c.gates.length cg, Value.slice so c.outs.length co] 26)).heap.size by simp]
    exact heap_alloc_new _ _
  have BY : Hid (Below w.heap.size w Y) := by rw [hY]; exact ((Below.refl _ _).alloc (Nat.le_refl _) _).alloc (by simp) _
  have BOX : Hid (∀ W, Below Y.heap.size Y W → W.heap[w.heap.size]? = some (Obj.cells #[Value.string c.name, Value.slice sg c.gates.length cg, Value.slice so c.outs.length co] 26) ∧ W.heap[w.heap.size + 1]? = some (Obj.cells #[Value.string { data := #[] }, Value.slice none 0 0, Value.slice none 0 0] 26)) := fun W hW =>
    ⟨(hW.block _ (Array.getElem?_eq_some_iff.1 r1).1).trans r1, (hW.block _ (Array.getElem?_eq_some_iff.1 r2).1).trans r2⟩
  have CY : Hid (CirAt Y c sg so) := HC.out.below BY.out
  rw [← hY]
  have S0 : Hid (Sh Y (Y.alloc (Obj.cells (madeCells #[Value.int IntKind.i64 0] c.gates.length) 3)) Y.heap.size (List.range 0 ++ List.replicate (c.gates.length - 0) 0) (.slice none 0 0) []) := by
    refine ⟨?_, Nat.le_refl _, World.ownsRow_nil _ _ _ _, (Below.refl _ _).alloc (Nat.le_refl _) _⟩
    have : madeCells #[Value.int IntKind.i64 0] c.gates.length = (nn (List.range 0 ++ List.replicate (c.gates.length - 0) 0)).toArray := by
      apply Array.ext'
      rw [toList_madeCells_one]
      simp [nn]
    rw [this]
    exact heap_alloc_new Y _
  rw [← hYs]
  obtain ⟨ab, hab⟩ : ∃ ab, ab = Y.heap.size := ⟨_, rfl⟩
  rw [← hab] at S0 ⊢
  clear hY hYs r1 r2 hmk hab HC
  go_loopw [6, 8] (fun fv iv W => ∃ (i : Nat) (F : List Nat), i ≤ c.gates.length ∧ iv = .int .i64 (i : Int) ∧ Hid (Sh Y W ab (List.range i ++ List.replicate (c.gates.length - i) 0) fv F ∧ FreeOf c F i)) (fun fv iv _ => c.gates.length - (intOf iv).toNat)
  case atStart => exact ⟨0, [], Nat.zero_le _, rfl, S0.out, Nat.le_refl _, fun x hx => by cases hx⟩
  case round =>
    clear S0
    obtain ⟨i, F, hi, rfl, HS⟩ := hrel
    obtain ⟨hs, hf⟩ := HS.out
    obtain ⟨sf, cf, rfl⟩ := own_shape hs.free
    have hb := hs.below
    obtain ⟨x1, x2⟩ := BOX.out _ hb
    have c1 := fun j => cell_row x1 j
    have hb1 := (Array.getElem?_eq_some_iff.1 x1).1
    have ca := fun j => cell_row hs.at_ j
    have fa := fun j => unfrozen_row hs.at_ j
    have hba := hs.size
    have SH := hid hs
    have FO := hid hf
    have hfl := hf.few
    have HB := hid hb
    clear HS x1 x2
    by_cases hlt : i < c.gates.length
    · obtain ⟨g, hg⟩ : ∃ g, c.gates[i]? = some g := ⟨_, List.getElem?_eq_getElem hlt⟩
      have hform := (HM.out.lines i g hg).form
      have hs2 := hs.set i i
      rw [first_set c.gates.length i hlt] at hs2
      have hsz : i < (nn (List.range i ++ List.replicate (c.gates.length - i) 0)).toArray.size := by simp [nn]; omega
      obtain ⟨v0, hv0⟩ : ∃ v, wr.cell? ⟨ab, i, none⟩ = some v := ⟨_, (ca i).trans (Array.getElem?_eq_getElem hsz)⟩
      obtain ⟨W2, hW2⟩ : ∃ W2, W2 = wr.setCell ⟨ab, i, none⟩ (.int .i64 (i : Int)) := ⟨_, rfl⟩
      rw [← hW2] at hs2
      obtain ⟨x1, x2⟩ := BOX.out _ hs2.below
      have c2 := fun j => cell_row x1 j
      have hb2 := (Array.getElem?_eq_some_iff.1 x1).1
      obtain ⟨b, o, rfl, hbg, d0, _⟩ := gate_at (CY.out.below hs2.below).gates i g hg
      have HW2 := hid hW2
      have S2 := hid hs2
      have GG := hid hg
      clear hW2 hs2 x1 x2 hs hf hg ca hsz hb
      by_cases hk2 : g.kind = 2
      · have FP := hid (FO.out.push GG.out (by omega))
        rw [hk2] at d0
        clear hform
        go_wp2_with (first
          | (rw [← HW2.out])
          | (at_builtin; refine sh_app rfl _ _ rfl S2.out i _ rfl rfl rfl (by omega) ?_; intro sx cx w3 h3; have S3 := hid h3; clear h3))
        exact ⟨⟨i + 1, _, hlt, by go_num, S3.out, FP.out⟩, by simp [intOf]; omega⟩
      · by_cases hk4 : g.kind = 4
        · have FP := hid (FO.out.push GG.out (by omega))
          rw [hk4] at d0
          clear hform
          go_wp2_with (first
            | (rw [← HW2.out])
            | (at_builtin; refine sh_app rfl _ _ rfl S2.out i _ rfl rfl rfl (by omega) ?_; intro sx cx w3 h3; have S3 := hid h3; clear h3))
          exact ⟨⟨i + 1, _, hlt, by go_num, S3.out, FP.out⟩, by simp [intOf]; omega⟩
        · have FP := hid FO.out.more
          have hk13 : g.kind = 1 ∨ g.kind = 3 := by omega
          clear hform hk2 hk4
          rcases hk13 with hk | hk
          · rw [hk] at d0
            go_wp2_with (first
              | (rw [← HW2.out]))
            exact ⟨⟨i + 1, _, hlt, by go_num, S2.out, FP.out⟩, by simp [intOf]; omega⟩
          · rw [hk] at d0
            go_wp2_with (first
              | (rw [← HW2.out]))
            exact ⟨⟨i + 1, _, hlt, by go_num, S2.out, FP.out⟩, by simp [intOf]; omega⟩
    · have hin : i = c.gates.length := by omega
      subst hin
      rw [Nat.sub_self, List.replicate_zero, List.append_nil] at SH
      clear hs hf ca fa c1 hb1 hba hb HB hlt hi
      obtain ⟨w2, hw2⟩ : ∃ w2, w2 = wr := ⟨_, rfl⟩
      subst hw2
      have PS0 := hid (PermS.first c.gates)
      go_wp2
      go_loopw [9] (fun iv W => ∃ (i : Nat) (P : List Nat), i ≤ F.length ∧ iv = .int .i64 (i : Int) ∧ Hid (Sh Y W ab P (.slice sf F.length cf) F ∧ PermS c.gates P)) (fun iv _ => F.length - (intOf iv).toNat)
      case atStart => exact ⟨0, _, Nat.zero_le _, rfl, SH.out, PS0.out⟩
      case round =>
        clear SH PS0
        obtain ⟨i, P, hi, rfl, HS⟩ := hrel
        obtain ⟨hs, hp⟩ := HS.out
        clear HS
        by_cases hlt : i < F.length
        · obtain ⟨x, hx⟩ : ∃ x, F[i]? = some x := ⟨_, List.getElem?_eq_getElem hlt⟩
          by_cases hh : i < how.length
          · obtain ⟨z, hz⟩ : ∃ z, how[i]? = some z := ⟨_, List.getElem?_eq_getElem hh⟩
            have RZ := HR.out z (List.mem_of_getElem? hz)
            have hwy : Below w.heap.size w wr := BY.out.trans (hs.below.mono BY.out.size)
            obtain ⟨bh, oh, rfl, hbh, qz⟩ := num_at (HH.out.below hwy) i z hz
            obtain ⟨k, hk⟩ : ∃ k, k = wi z (i + 1) := ⟨_, rfl⟩
            have hki : k < i + 1 := by rw [hk]; exact wi_lt _ (by omega)
            have WI : Hid (∀ W, Calls Tryd.prog 38 #[.int .i64 z, .int .i64 ((i : Int) + 1)] W fun e w' => e = .returned (.int .i64 (k : Int)) ∧ w' = W) := fun W => by rw [hk]; exact within_any z (i + 1) W RZ (by omega) (by omega)
            clear hk hz RZ hwy
            obtain ⟨y, hy⟩ : ∃ y, F[k]? = some y := ⟨_, List.getElem?_eq_getElem (by omega)⟩
            have hxf := FO.out.at_ x (List.mem_of_getElem? hx)
            have hyf := FO.out.at_ y (List.mem_of_getElem? hy)
            have hPl := hp.len
            obtain ⟨a, ha⟩ : ∃ a, P[x]? = some a := ⟨_, List.getElem?_eq_getElem (by omega)⟩
            obtain ⟨b, hb⟩ : ∃ b, P[y]? = some b := ⟨_, List.getElem?_eq_getElem (by omega)⟩
            have PS3 := hid (hp.swap ha hb hxf.2 hyf.2)
            obtain ⟨s3, k3, he3, hcf, _, _, hbig⟩ := own_cells hs.free
            cases he3
            obtain ⟨bf, of, rfl, hbf, q1⟩ := nn_at hcf i x hx
            obtain ⟨bf2, of2, he4, _, q2⟩ := nn_at hcf k y hy
            cases he4
            have hbfa : ab + 1 ≤ bf := hbig _ _ _ rfl
            have p1 : wr.cell? ⟨ab, x, none⟩ = some (.int .i64 (a : Int)) := by rw [cell_row hs.at_]; simp [nn, ha]
            have p2 : wr.cell? ⟨ab, y, none⟩ = some (.int .i64 (b : Int)) := by rw [cell_row hs.at_]; simp [nn, hb]
            have fa := fun j => unfrozen_row hs.at_ j
            have hba := hs.size
            have hne : bf ≠ ab := by omega
            have hne2 : ab ≠ bf := by omega
            obtain ⟨v3, p3⟩ : ∃ v, (wr.setCell ⟨ab, x, none⟩ (.int .i64 (b : Int))).cell? ⟨ab, y, none⟩ = some v := ⟨_, (cell_row (hs.set x b).at_ y).trans (Array.getElem?_eq_getElem (by simp [nn]; omega))⟩
            have fa3 := fun j => unfrozen_row (hs.set x b).at_ j
            have S3 := hid (((hs.set x b).set y a).on (Below.refl _ _).drew)
            have hx1 := hxf.1
            have hy1 := hyf.1
            clear hs hp hx hy ha hb hcf hbig hxf hyf hPl
            go_wp2_with (first
              | (go_at_call 38; with_reducible refine (WI.out _).mono ?_; rintro e w3 ⟨rfl, rfl⟩))
            go_region
            go_wp2
            exact ⟨⟨i + 1, _, hlt, by go_num, S3.out, PS3.out⟩, by simp [intOf]; omega⟩
          · obtain ⟨k, hk⟩ : ∃ k, k = 0 := ⟨_, rfl⟩
            have hki : k < i + 1 := by omega
            obtain ⟨y, hy⟩ : ∃ y, F[k]? = some y := ⟨_, List.getElem?_eq_getElem (by omega)⟩
            have hxf := FO.out.at_ x (List.mem_of_getElem? hx)
            have hyf := FO.out.at_ y (List.mem_of_getElem? hy)
            have hPl := hp.len
            obtain ⟨a, ha⟩ : ∃ a, P[x]? = some a := ⟨_, List.getElem?_eq_getElem (by omega)⟩
            obtain ⟨b, hb⟩ : ∃ b, P[y]? = some b := ⟨_, List.getElem?_eq_getElem (by omega)⟩
            have PS3 := hid (hp.swap ha hb hxf.2 hyf.2)
            obtain ⟨s3, k3, he3, hcf, _, _, hbig⟩ := own_cells hs.free
            cases he3
            obtain ⟨bf, of, rfl, hbf, q1⟩ := nn_at hcf i x hx
            obtain ⟨bf2, of2, he4, _, q2⟩ := nn_at hcf k y hy
            cases he4
            have hbfa : ab + 1 ≤ bf := hbig _ _ _ rfl
            have p1 : wr.cell? ⟨ab, x, none⟩ = some (.int .i64 (a : Int)) := by rw [cell_row hs.at_]; simp [nn, ha]
            have p2 : wr.cell? ⟨ab, y, none⟩ = some (.int .i64 (b : Int)) := by rw [cell_row hs.at_]; simp [nn, hb]
            have fa := fun j => unfrozen_row hs.at_ j
            have hba := hs.size
            have hne : bf ≠ ab := by omega
            have hne2 : ab ≠ bf := by omega
            obtain ⟨v3, p3⟩ : ∃ v, (wr.setCell ⟨ab, x, none⟩ (.int .i64 (b : Int))).cell? ⟨ab, y, none⟩ = some v := ⟨_, (cell_row (hs.set x b).at_ y).trans (Array.getElem?_eq_getElem (by simp [nn]; omega))⟩
            have fa3 := fun j => unfrozen_row (hs.set x b).at_ j
            have S3 := hid (((hs.set x b).set y a).on (Below.refl _ _).drew)
            have hx1 := hxf.1
            have hy1 := hyf.1
            clear hs hp hx hy ha hb hcf hbig hxf hyf hPl
            subst hk
            simp only [Nat.add_zero] at q2
            go_wp2
            go_region
            go_wp2
            exact ⟨⟨i + 1, _, hlt, by go_num, S3.out, PS3.out⟩, by simp [intOf]; omega⟩
        · obtain ⟨w3, hw3⟩ : ∃ w3, w3 = wr := ⟨_, rfl⟩
          subst hw3
          have hmk6 := fun W => make_gates c.gates.length (by omega) W
          obtain ⟨x1, x2⟩ := BOX.out _ hs.below
          have c1 := fun j => cell_row x1 j
          have hb1 := (Array.getElem?_eq_some_iff.1 x1).1
          have HSS := hid hs
          have HP := hid hp
          have KS : Hid (∀ W, Below w3.heap.size w3 W → W.cell? ⟨w.heap.size, 0, none⟩ = some (.string c.name)) := fun W hW => below_cell hW hb1 ((c1 0).trans rfl)
          clear hs hp x1 x2
          go_wp2
          go_cut [12] (fun pv wx => Hid (∃ gb ob, pv = .pointer (some ⟨ob, 0, none⟩) ∧ Lo w3 wx gb ob c.name (List.replicate c.gates.length gz) (.slice none 0 0) []))
          case first =>
            refine wp_region_noPanic ?_
            refine wp_region_held_drew (S := fun W => W.cell? ⟨w.heap.size, 0, none⟩ = some (.string c.name)) (by kernel_rfl) (KS.out _ (by first | exact (Below.refl _ _).drew | exact ((Below.refl _ _).alloc (Nat.le_refl _) _).drew | exact (((Below.refl _ _).alloc (Nat.le_refl _) _).alloc (by simp) _).drew)) (fun hHeld => ?_)
            refine wpAnyH_take (i := 0) (v := ?_) (by simp only [List.getElem?_toArray, List.getElem?_cons_zero]; rfl) (by kernel_rfl) (by kernel_rfl) (by kernel_rfl) (fun _ _ _ h => h) (Or.inl ⟨by rfl, ?_⟩) (by assumption) ?_
            rotate_left 1
            · intro w hSw; (try dsimp only at hSw); go_simp; (try with_reducible rfl)
            try simp only [Act.put, List.setIfInBounds_toArray, List.set_cons_zero, List.set_cons_succ]
            refine wpAnyH_take (i := 1) (v := ?_) (by simp only [List.getElem?_toArray, List.getElem?_cons_succ, List.getElem?_cons_zero]; rfl) (by kernel_rfl) (by kernel_rfl) (by kernel_rfl) (fun _ _ _ h => h) (Or.inl ⟨by rfl, ?_⟩) (by assumption) ?_
            rotate_left 1
            · intro w hSw; (try dsimp only at hSw); go_simp; (try with_reducible rfl)
            try simp only [Act.put, List.setIfInBounds_toArray, List.set_cons_zero, List.set_cons_succ]
            refine wpAnyH_take (i := 2) (v := ?_) (by simp only [List.getElem?_toArray, List.getElem?_cons_succ, List.getElem?_cons_zero]; rfl) (by kernel_rfl) (by kernel_rfl) (by kernel_rfl) (fun _ _ _ h => h) (Or.inl ⟨by rfl, ?_⟩) (by assumption) ?_
            rotate_left 1
            · intro w hSw; (try dsimp only at hSw); go_simp; (try with_reducible rfl)
            try simp only [Act.put, List.setIfInBounds_toArray, List.set_cons_zero, List.set_cons_succ]
            refine wpAnyH_ready (rs := [3, 5]) (by kernel_rfl) (by simp) ?_
            refine AllReadyH.cons (by simp only [List.getElem?_toArray, List.getElem?_cons_succ, List.getElem?_cons_zero]; rfl) (fun K hK => ?_) (AllReadyH.cons (by simp only [List.getElem?_toArray, List.getElem?_cons_succ, List.getElem?_cons_zero]; rfl) (fun K hK => ?_) AllReadyH.nil)
            · go_simp
              clear hHeld
              refine hK.out _ _ (KS.out _ (by first | exact (Below.refl _ _).drew | exact ((Below.refl _ _).alloc (Nat.le_refl _) _).drew | exact (((Below.refl _ _).alloc (Nat.le_refl _) _).alloc (by simp) _).drew)) (fun hHeld => ?_)
              clear hK K
              try simp only [Act.put, List.setIfInBounds_toArray, List.set_cons_zero, List.set_cons_succ]
              refine wpAnyH_take (i := 4) (v := ?_) (by simp only [List.getElem?_toArray, List.getElem?_cons_succ, List.getElem?_cons_zero]; rfl) (by kernel_rfl) (by kernel_rfl) (by kernel_rfl) (fun _ _ _ h => h) (Or.inl ⟨by rfl, ?_⟩) (by assumption) ?_
              rotate_left 1
              · intro w hSw; (try dsimp only at hSw); go_simp; (try with_reducible rfl)
              try simp only [Act.put, List.setIfInBounds_toArray, List.set_cons_zero, List.set_cons_succ]
              refine wpAnyH_ready (rs := [5]) (by kernel_rfl) (by simp) ?_
              refine AllReadyH.cons (by simp only [List.getElem?_toArray, List.getElem?_cons_succ, List.getElem?_cons_zero]; rfl) (fun K hK => ?_) AllReadyH.nil
              go_simp
              clear hHeld
              refine hK.out _ _ (KS.out _ (by first | exact (Below.refl _ _).drew | exact ((Below.refl _ _).alloc (Nat.le_refl _) _).drew | exact (((Below.refl _ _).alloc (Nat.le_refl _) _).alloc (by simp) _).drew)) (fun hHeld => ?_)
              clear hK K
              try simp only [Act.put, List.setIfInBounds_toArray, List.set_cons_zero, List.set_cons_succ]
              refine wpAnyH_ready (rs := [6]) (by kernel_rfl) (by simp) ?_
              refine AllReadyH.cons (by simp only [List.getElem?_toArray, List.getElem?_cons_succ, List.getElem?_cons_zero]; rfl) (fun K hK => ?_) AllReadyH.nil
              go_simp
              clear hHeld
              refine hK.out _ _ (KS.out _ (by first | exact (Below.refl _ _).drew | exact ((Below.refl _ _).alloc (Nat.le_refl _) _).drew | exact (((Below.refl _ _).alloc (Nat.le_refl _) _).alloc (by simp) _).drew)) (fun hHeld => ?_)
              clear hK K
              try simp only [Act.put, List.setIfInBounds_toArray, List.set_cons_zero, List.set_cons_succ]
              refine wpAnyH_done (by kernel_rfl) ?_ _
              refine NoPanic.normal ?_
              go_wp2
              go_meet
              exact ⟨_, _, rfl, lo_start1 w3 c.gates.length c.name⟩
            · go_simp
              clear hHeld
              refine hK.out _ _ (KS.out _ (by first | exact (Below.refl _ _).drew | exact ((Below.refl _ _).alloc (Nat.le_refl _) _).drew | exact (((Below.refl _ _).alloc (Nat.le_refl _) _).alloc (by simp) _).drew)) (fun hHeld => ?_)
              clear hK K
              try simp only [Act.put, List.setIfInBounds_toArray, List.set_cons_zero, List.set_cons_succ]
              refine wpAnyH_ready (rs := [3]) (by kernel_rfl) (by simp) ?_
              refine AllReadyH.cons (by simp only [List.getElem?_toArray, List.getElem?_cons_succ, List.getElem?_cons_zero]; rfl) (fun K hK => ?_) AllReadyH.nil
              go_simp
              clear hHeld
              refine hK.out _ _ (KS.out _ (by first | exact (Below.refl _ _).drew | exact ((Below.refl _ _).alloc (Nat.le_refl _) _).drew | exact (((Below.refl _ _).alloc (Nat.le_refl _) _).alloc (by simp) _).drew)) (fun hHeld => ?_)
              clear hK K
              try simp only [Act.put, List.setIfInBounds_toArray, List.set_cons_zero, List.set_cons_succ]
              refine wpAnyH_take (i := 4) (v := ?_) (by simp only [List.getElem?_toArray, List.getElem?_cons_succ, List.getElem?_cons_zero]; rfl) (by kernel_rfl) (by kernel_rfl) (by kernel_rfl) (fun _ _ _ h => h) (Or.inl ⟨by rfl, ?_⟩) (by assumption) ?_
              rotate_left 1
              · intro w hSw; (try dsimp only at hSw); go_simp; (try with_reducible rfl)
              try simp only [Act.put, List.setIfInBounds_toArray, List.set_cons_zero, List.set_cons_succ]
              refine wpAnyH_ready (rs := [6]) (by kernel_rfl) (by simp) ?_
              refine AllReadyH.cons (by simp only [List.getElem?_toArray, List.getElem?_cons_succ, List.getElem?_cons_zero]; rfl) (fun K hK => ?_) AllReadyH.nil
              go_simp
              clear hHeld
              refine hK.out _ _ (KS.out _ (by first | exact (Below.refl _ _).drew | exact ((Below.refl _ _).alloc (Nat.le_refl _) _).drew | exact (((Below.refl _ _).alloc (Nat.le_refl _) _).alloc (by simp) _).drew)) (fun hHeld => ?_)
              clear hK K
              try simp only [Act.put, List.setIfInBounds_toArray, List.set_cons_zero, List.set_cons_succ]
              refine wpAnyH_done (by kernel_rfl) ?_ _
              refine NoPanic.normal ?_
              go_wp2
              go_meet
              exact ⟨_, _, rfl, lo_start2 w3 c.gates.length c.name⟩
          case rest =>
            obtain ⟨gb, ob, rfl, hlo⟩ := hcut.out
            have L0 := hid hlo
            have KB : Hid (∀ W, Below w3.heap.size w3 W → (∀ j, W.cell? ⟨w.heap.size, j, none⟩ = (#[Value.string c.name, Value.slice sg c.gates.length cg, Value.slice so c.outs.length co] : Array Value)[j]?) ∧ w.heap.size < W.heap.size ∧ CirAt W c sg so ∧ ∀ x a : Nat, P[x]? = some a → W.cell? ⟨ab, x, none⟩ = some (.int .i64 (a : Int))) := fun W hW => by
              have hYW := HSS.out.below.trans (hW.mono HSS.out.below.size)
              obtain ⟨y1, _⟩ := BOX.out _ hYW
              refine ⟨fun j => cell_row y1 j, (Array.getElem?_eq_some_iff.1 y1).1, CY.out.below hYW, fun x a ha => ?_⟩
              exact below_cell hW HSS.out.size (by rw [cell_row HSS.out.at_]; simp [nn, ha])
            have hPl := HP.out.len
            have LD0 : Hid (Laid c P (List.replicate c.gates.length gz) 0) := ⟨by simp, fun i g a hi => by omega⟩
            clear hcut hlo c1 hb1 KS hmk6 hlt hi
            go_wp2
            go_loopw [13] (fun iv W => ∃ (i : Nat) (D : List Ga), i ≤ c.gates.length ∧ iv = .int .i64 (i : Int) ∧ Hid (Lo w3 W gb ob c.name D (.slice none 0 0) [] ∧ Laid c P D i)) (fun iv _ => c.gates.length - (intOf iv).toNat)
            case atStart => exact ⟨0, _, Nat.zero_le _, rfl, L0.out, LD0.out⟩
            case round =>
              clear L0 LD0
              obtain ⟨i, D, hi, rfl, HS⟩ := hrel
              obtain ⟨hlo, hld⟩ := HS.out
              clear HS
              obtain ⟨c1, hb1, hcir, hat⟩ := KB.out _ hlo.below
              have cb := fun j => cell_row hlo.box j
              have hob := hlo.osize
              have cgt := fun j => cell_row hlo.gates j
              have fgt := fun j => unfrozen_row hlo.gates j
              have hgb := hlo.gsize
              have hDl := hld.len
              rw [hDl] at cb
              by_cases hlt : i < c.gates.length
              · obtain ⟨g, hg⟩ : ∃ g, c.gates[i]? = some g := ⟨_, List.getElem?_eq_getElem hlt⟩
                obtain ⟨b, o, rfl, hbg, d0, d1, d2, d3, d4, d5⟩ := gate_at hcir.gates i g hg
                obtain ⟨t, ht⟩ : ∃ t, P[i]? = some t := ⟨_, List.getElem?_eq_getElem (by omega)⟩
                have q0 := hat i t ht
                have htl := HP.out.lt i t ht
                have habs : ab < wr.heap.size := World.block_lt_of_cell? wr _ q0
                have hex : ∀ j, j < 6 → ∃ v, wr.cell? ⟨gb, t * 6 + j, none⟩ = some v := fun j hj => ⟨_, (cgt _).trans (Array.getElem?_eq_getElem (by simp [gas_length, hDl]; omega))⟩
                obtain ⟨v0, e0⟩ := hex 0 (by omega)
                obtain ⟨v1, e1⟩ := hex 1 (by omega)
                obtain ⟨v2, e2⟩ := hex 2 (by omega)
                obtain ⟨v3, e3⟩ := hex 3 (by omega)
                obtain ⟨v4, e4⟩ := hex 4 (by omega)
                obtain ⟨v5, e5⟩ := hex 5 (by omega)
                rw [Nat.add_zero] at e0
                have NX := hid (hld.next HP.out hg ht)
                have LS := hid (fun (g' : Ga) => hlo.set t g' (by omega))
                have hform := (HM.out.lines i g hg).form
                rcases hform with ⟨ek, h1, h2, h3, h4⟩ | ⟨ek, h1, h2, h3, h4, h5, h6⟩ | ⟨ek, h1, h2, h3, h4, h5, h6, h7⟩ | ⟨ek, h1, h2, h3, h4, h5, h6, h7⟩
                · have HREN : Hid (ren (fun q => P.getD q 0) g = ⟨1, g.name, 0, 0, 0, 0⟩) := by
                    show _ = _
                    unfold ren
                    rw [ek, h1, h2, h3, h4]
                    simp
                  rw [HREN.out] at NX
                  rw [ek] at d0
                  clear hg ht hlo hld hcir hat cgt hex hPl
                  go_wp2
                  go_region
                  go_wp2
                  exact ⟨⟨i + 1, _, hlt, by go_num, ((LS.out ⟨1, g.name, 0, 0, 0, 0⟩).on ((Below.refl _ _).alloc (Nat.le_refl _) _)).on (Below.refl _ _).drew, NX.out⟩, by simp [intOf]; omega⟩
                · obtain ⟨an, han⟩ : ∃ k : Nat, g.a = (k : Int) := ⟨g.a.toNat, by omega⟩
                  obtain ⟨pa, hpa⟩ : ∃ k, P[an]? = some k := ⟨_, List.getElem?_eq_getElem (by omega)⟩
                  have qa := hat an pa hpa
                  have ba : an < c.gates.length := by omega
                  rw [han] at d3
                  have HREN : Hid (ren (fun q => P.getD q 0) g = ⟨3, g.name, g.op, (pa : Int), 0, 0⟩) := by
                    show _ = _
                    unfold ren
                    rw [ek, han, h5, h6]
                    simp [List.getD_eq_getElem?_getD, hpa]
                  rw [HREN.out] at NX
                  rw [ek] at d0
                  clear hg ht hlo hld hcir hat cgt hex hPl hpa han
                  go_wp2
                  go_region
                  go_wp2
                  exact ⟨⟨i + 1, _, hlt, by go_num, ((LS.out ⟨3, g.name, g.op, (pa : Int), 0, 0⟩).on ((Below.refl _ _).alloc (Nat.le_refl _) _)).on (Below.refl _ _).drew, NX.out⟩, by simp [intOf]; omega⟩
                · obtain ⟨an, han⟩ : ∃ k : Nat, g.a = (k : Int) := ⟨g.a.toNat, by omega⟩
                  obtain ⟨pa, hpa⟩ : ∃ k, P[an]? = some k := ⟨_, List.getElem?_eq_getElem (by omega)⟩
                  have qa := hat an pa hpa
                  have ba : an < c.gates.length := by omega
                  rw [han] at d3
                  obtain ⟨bn, hbn⟩ : ∃ k : Nat, g.b = (k : Int) := ⟨g.b.toNat, by omega⟩
                  obtain ⟨pb, hpb⟩ : ∃ k, P[bn]? = some k := ⟨_, List.getElem?_eq_getElem (by omega)⟩
                  have qb := hat bn pb hpb
                  have bb : bn < c.gates.length := by omega
                  rw [hbn] at d4
                  obtain ⟨cn, hcn⟩ : ∃ k : Nat, g.c = (k : Int) := ⟨g.c.toNat, by omega⟩
                  obtain ⟨pc, hpc⟩ : ∃ k, P[cn]? = some k := ⟨_, List.getElem?_eq_getElem (by omega)⟩
                  have qc := hat cn pc hpc
                  have bc : cn < c.gates.length := by omega
                  rw [hcn] at d5
                  have HREN : Hid (ren (fun q => P.getD q 0) g = ⟨4, g.name, 0, (pa : Int), (pb : Int), (pc : Int)⟩) := by
                    show _ = _
                    unfold ren
                    rw [ek, h1, han, hbn, hcn]
                    simp [List.getD_eq_getElem?_getD, hpa, hpb, hpc]
                  rw [HREN.out] at NX
                  rw [ek] at d0
                  clear hg ht hlo hld hcir hat cgt hex hPl hpa han hpb hbn hpc hcn
                  go_wp2
                  go_region
                  go_wp2
                  exact ⟨⟨i + 1, _, hlt, by go_num, ((LS.out ⟨4, g.name, 0, (pa : Int), (pb : Int), (pc : Int)⟩).on ((Below.refl _ _).alloc (Nat.le_refl _) _)).on (Below.refl _ _).drew, NX.out⟩, by simp [intOf]; omega⟩
                · obtain ⟨an, han⟩ : ∃ k : Nat, g.a = (k : Int) := ⟨g.a.toNat, by omega⟩
                  obtain ⟨pa, hpa⟩ : ∃ k, P[an]? = some k := ⟨_, List.getElem?_eq_getElem (by omega)⟩
                  have qa := hat an pa hpa
                  have ba : an < c.gates.length := by omega
                  rw [han] at d3
                  obtain ⟨bn, hbn⟩ : ∃ k : Nat, g.b = (k : Int) := ⟨g.b.toNat, by omega⟩
                  obtain ⟨pb, hpb⟩ : ∃ k, P[bn]? = some k := ⟨_, List.getElem?_eq_getElem (by omega)⟩
                  have qb := hat bn pb hpb
                  have bb : bn < c.gates.length := by omega
                  rw [hbn] at d4
                  have HREN : Hid (ren (fun q => P.getD q 0) g = ⟨2, g.name, g.op, (pa : Int), (pb : Int), 0⟩) := by
                    show _ = _
                    unfold ren
                    rw [ek, han, hbn, h7]
                    simp [List.getD_eq_getElem?_getD, hpa, hpb]
                  rw [HREN.out] at NX
                  rw [ek] at d0
                  clear hg ht hlo hld hcir hat cgt hex hPl hpa han hpb hbn
                  go_wp2
                  go_region
                  go_wp2
                  exact ⟨⟨i + 1, _, hlt, by go_num, ((LS.out ⟨2, g.name, g.op, (pa : Int), (pb : Int), 0⟩).on ((Below.refl _ _).alloc (Nat.le_refl _) _)).on (Below.refl _ _).drew, NX.out⟩, by simp [intOf]; omega⟩
              · have hin : i = c.gates.length := by omega
                subst hin
                obtain ⟨w4, hw4⟩ : ∃ w4, w4 = wr := ⟨_, rfl⟩
                subst hw4
                have LL := hid hlo
                have LD := hid hld
                clear hlo hld hcir hat cgt fgt hlt hi
                go_wp2
                go_loopw [15] (fun iv W => ∃ (k : Nat) (ov : Value) (O : List Int), k ≤ c.outs.length ∧ iv = .int .i64 (k : Int) ∧ Hid (Lo w3 W gb ob c.name D ov O ∧ O = (c.outs.take k).map fun o => ((P.getD o.toNat 0 : Nat) : Int))) (fun iv _ => c.outs.length - (intOf iv).toNat)
                case atStart => exact ⟨0, _, _, Nat.zero_le _, rfl, LL.out, rfl⟩
                case round =>
                  obtain ⟨k, ov, O, hk, rfl, HS⟩ := hrel
                  obtain ⟨hlo, hO⟩ := HS.out
                  obtain ⟨so5, co5, rfl⟩ := own_shape hlo.outs
                  clear HS c1 hb1 cb hob hgb
                  obtain ⟨c1, hb1, hcir, hat⟩ := KB.out _ hlo.below
                  have cb := fun j => cell_row hlo.box j
                  have fb := fun j => unfrozen_row hlo.box j
                  have hob := hlo.osize
                  rw [hDl] at cb
                  have hOl : O.length = k := by rw [hO]; simp; omega
                  by_cases hlt : k < c.outs.length
                  · obtain ⟨x, hx⟩ : ∃ x, c.outs[k]? = some x := ⟨_, List.getElem?_eq_getElem hlt⟩
                    have hxr := HM.out.outs x (List.mem_of_getElem? hx)
                    obtain ⟨b, o, rfl, hbo, d0⟩ := num_at hcir.outs k x hx
                    obtain ⟨xn, rfl⟩ : ∃ xn : Nat, x = (xn : Int) := ⟨x.toNat, by omega⟩
                    obtain ⟨t, ht⟩ : ∃ t, P[xn]? = some t := ⟨_, List.getElem?_eq_getElem (by omega)⟩
                    have q0 := hat xn t ht
                    have hxl : xn < c.gates.length := by omega
                    have habs : ab < wr.heap.size := World.block_lt_of_cell? wr _ q0
                    have HO : Hid (O ++ [(t : Int)] = (c.outs.take (k + 1)).map fun o => ((P.getD o.toNat 0 : Nat) : Int)) := by
                      show _ = _
                      rw [List.take_add_one, hx, hO]
                      simp [List.getD_eq_getElem?_getD, ht]
                    have LO := hid hlo
                    have HOL := hid hOl
                    clear hlo hO hx ht hcir hat hOl hxr
                    have R : Hid (Lo w3 (wr.alloc (Obj.cells #[.int .i64 (t : Int)] 3)).drew gb ob c.name D (.slice so5 O.length co5) O) := (LO.out.on ((Below.refl _ _).alloc (Nat.le_refl _) (Obj.cells #[.int .i64 (t : Int)] 3))).on (Below.refl _ _).drew
                    have N : Hid ((wr.alloc (Obj.cells #[.int .i64 (t : Int)] 3)).drew.heap[wr.heap.size]? = some (Obj.cells #[.int .i64 (t : Int)] 3)) := heap_alloc_new wr _
                    go_wp2
                    go_region_law (refine step_one rfl _ _ 22 3 _ 1 8 rfl Tryd.underlying22 info3 rfl (by decide) w3.heap.size O.length (.slice so5 O.length co5) (nu O) [.int .i64 (t : Int)] ⟨wr.heap.size, 0, none⟩ rfl R.out.outs rfl rfl (fun j u hu => by rw [add_zero_addr, cell_row N.out]; simpa using hu) (fun u hu => by simp at hu; subst hu; rfl) (by have := HOL.out; omega) (by have := HOL.out; omega) R.out.below.size ?_; intro v5 w5 o5 g5; obtain ⟨s2, c2, rfl⟩ := own_shape o5; obtain ⟨r5, m5⟩ := R.out.out o5 g5; have c5 := fun j => cell_row r5 j; have f5 := fun j => unfrozen_row r5 j; have hb5 := (Array.getElem?_eq_some_iff.1 r5).1; have M5 := hid m5; clear o5 g5 r5 m5)
                    all_goals go_wp2
                    all_goals exact ⟨⟨k + 1, _, _, hlt, by go_num, M5.out, HO.out⟩, by simp [intOf]; omega⟩
                  · have hkn : k = c.outs.length := by omega
                    subst hkn
                    rw [List.take_length] at hO
                    have LO := hid hlo
                    have SF : Hid (Shuf c ⟨c.name, D, O⟩ (fun q => P.getD q 0)) := by rw [hO]; exact LD.out.shuf HP.out
                    have BF : Hid (Below w.heap.size w wr) := BY.out.trans ((HSS.out.below.trans (hlo.below.mono HSS.out.below.size)).mono BY.out.size)
                    have hres := (BOX.out _ (HSS.out.below.trans (hlo.below.mono HSS.out.below.size))).2
                    have r0 := fun j => cell_row hres j
                    have fr := fun j => unfrozen_row hres j
                    have hbr := (Array.getElem?_eq_some_iff.1 hres).1
                    have RES := hid hres
                    clear hlo hO hcir hat hres
                    go_wp2
                    have hlo := LO.out
                    have hne : gb ≠ w.heap.size + 1 := fun e => by
                      have h1 := hlo.gates
                      rw [e, RES.out] at h1
                      simp at h1
                    obtain ⟨t1, t2, t3⟩ := fin_row RES.out (.string c.name) (.slice (some ⟨gb, 0, none⟩) c.gates.length c.gates.length) (.slice so5 c.outs.length co5)
                    have o1 := t2 (by decide) hlo.outs
                    have b1 := t3 (Nat.le_succ _) BF.out
                    have g1 := (Below.heap_setCell ((wr.setCell ⟨w.heap.size + 1, 0, none⟩ (.string c.name)).setCell ⟨w.heap.size + 1, 1, none⟩ (.slice (some ⟨gb, 0, none⟩) c.gates.length c.gates.length)) ⟨w.heap.size + 1, 2, none⟩ (.slice so5 c.outs.length co5) gb hne).trans ((Below.heap_setCell (wr.setCell ⟨w.heap.size + 1, 0, none⟩ (.string c.name)) ⟨w.heap.size + 1, 1, none⟩ (.slice (some ⟨gb, 0, none⟩) c.gates.length c.gates.length) gb hne).trans ((Below.heap_setCell wr ⟨w.heap.size + 1, 0, none⟩ (.string c.name) gb hne).trans hlo.gates))
                    clear t2 t3 hlo r0 fr cb fb c1
                    generalize (((wr.setCell ⟨w.heap.size + 1, 0, none⟩ (.string c.name)).setCell ⟨w.heap.size + 1, 1, none⟩ (.slice (some ⟨gb, 0, none⟩) c.gates.length c.gates.length)).setCell ⟨w.heap.size + 1, 2, none⟩ (.slice so5 c.outs.length co5)) = We at *
                    have z0 := (cell_row t1 0).trans rfl
                    have z1 := (cell_row t1 1).trans rfl
                    have z2 := (cell_row t1 2).trans rfl
                    obtain ⟨s6, c6, he6, hc6, _⟩ := own_cells o1
                    rw [hOl] at he6
                    cases he6
                    exact bodyPost_ret (v := .agg #[.string c.name, .slice (some ⟨gb, 0, none⟩) c.gates.length c.gates.length, .slice so5 c.outs.length co5]) (by simp [results, Tryd.results17, go_sem, z0, z1, z2]) rfl ⟨⟨c.name, D, O⟩, _, some ⟨gb, 0, none⟩, c.gates.length, so5, co5, by simp only [cirV, hDl, hOl], SF.out, ⟨row_cells g1, hc6⟩, b1⟩
end Go.Proofs.YtfmmmhcpdinhgaaDoor
