import Derived.Test.YtfmmmhcpdinhgaaDoorZ13
/-
  A player in memory; its small calls.
-/
namespace Go.Proofs.YtfmmmhcpdinhgaaDoor
open Go.RowKit Go.Deep PureNet ShfKit
set_option maxRecDepth 100000

/-- a player's addresses. -/
structure Pn where
  p : Nat
  vb : Nat
  c : Net
  sg : Option Addr
  so : Option Addr
  s1 : Option Addr
  s2 : Option Addr
  s3 : Option Addr
  s4 : Option Addr
  cg : Nat
  co : Nat
  c1 : Nat
  c2 : Nat
  c3 : Nat
  c4 : Nat
  ord : List Nat
  ins : List Nat
  las : List Nat
  srcs : List Int
def Off (xs : List Value) (s : Option Addr) (b : Nat) : Prop := xs ≠ [] → ∀ g o sp, s = some ⟨g, o, sp⟩ → g ≠ b
theorem CellsAt.grown2 {W W' : World} {s : Option Addr} {xs : List Value} {b : Nat} (h : CellsAt W s xs) (hg : W.grownBy W' (some b)) (hf : Off xs s b) : CellsAt W' s xs := by
  by_cases hx : xs = []
  · subst hx
    exact CellsAt.nil _ _
  · exact h.grown hg (hf hx)
/-- a player in memory. -/
structure Pl (W : World) (d : Pn) (v : List Bool) : Prop where
  box : W.heap[d.p]? = some (.cells #[.slice d.sg d.c.gates.length d.cg, .slice d.s1 d.ord.length d.c1, .slice d.s2 d.ins.length d.c2, .slice d.s3 d.las.length d.c3, .slice d.s4 d.srcs.length d.c4, .slice d.so d.c.outs.length d.co, .slice (some ⟨d.vb, 0, none⟩) d.c.gates.length d.c.gates.length] 67 (0, 0))
  cir : CirAt W d.c d.sg d.so
  ord : CellsAt W d.s1 (placesV d.ord)
  ins : CellsAt W d.s2 (placesV d.ins)
  las : CellsAt W d.s3 (placesV d.las)
  src : CellsAt W d.s4 (nu d.srcs)
  vals : W.heap[d.vb]? = some (.cells (bo v).toArray 4 (0, 0))
  len : v.length = d.c.gates.length
  farp : d.p ≠ d.vb
  farg : Off (gas d.c.gates) d.sg d.vb
  faro : Off (nu d.c.outs) d.so d.vb
  far1 : Off (placesV d.ord) d.s1 d.vb
  far2 : Off (placesV d.ins) d.s2 d.vb
  far3 : Off (placesV d.las) d.s3 d.vb
  far4 : Off (nu d.srcs) d.s4 d.vb
section
variable {W W' : World} {d : Pn} {v v' : List Bool}
theorem Pl.turn (h : Pl W d v) (hg : W.grownBy W' (some d.vb)) (hv : W'.heap[d.vb]? = some (.cells (bo v').toArray 4 (0, 0))) (hl : v'.length = d.c.gates.length) : Pl W' d v' :=
  ⟨(hg.block _ (Array.getElem?_eq_some_iff.1 h.box).1 (fun e => h.farp (by simpa using e))).trans h.box, ⟨h.cir.gates.grown2 hg h.farg, h.cir.outs.grown2 hg h.faro⟩, h.ord.grown2 hg h.far1, h.ins.grown2 hg h.far2, h.las.grown2 hg h.far3, h.src.grown2 hg h.far4, hv, hl, h.farp, h.farg, h.faro, h.far1, h.far2, h.far3, h.far4⟩
theorem Pl.on (h : Pl W d v) (hb : Below W.heap.size W W') : Pl W' d v :=
  h.turn (below_grown hb) ((hb.block _ (Array.getElem?_eq_some_iff.1 h.vals).1).trans h.vals) h.len
theorem Pl.cell (h : Pl W d v) (j : Nat) : W.cell? ⟨d.p, j, none⟩ = (#[.slice d.sg d.c.gates.length d.cg, .slice d.s1 d.ord.length d.c1, .slice d.s2 d.ins.length d.c2, .slice d.s3 d.las.length d.c3, .slice d.s4 d.srcs.length d.c4, .slice d.so d.c.outs.length d.co, .slice (some ⟨d.vb, 0, none⟩) d.c.gates.length d.c.gates.length] : Array Value)[j]? := cell_row h.box j
theorem Pl.size (h : Pl W d v) : d.p < W.heap.size := (Array.getElem?_eq_some_iff.1 h.box).1
theorem Pl.val (h : Pl W d v) {a : Nat} (ha : a < d.c.gates.length) : W.cell? ⟨d.vb, a, none⟩ = some (.bool (valAt v (a : Int))) ∧ W.frozen? ⟨d.vb, a, none⟩ = false ∧ d.vb < W.heap.size := by
  refine ⟨?_, unfrozen_row h.vals a, (Array.getElem?_eq_some_iff.1 h.vals).1⟩
  rw [cell_row h.vals]
  have hl := h.len
  simp [bo, valAt, List.getD_eq_getElem?_getD, List.getElem?_eq_getElem (show a < v.length by omega)]
theorem Pl.set (h : Pl W d v) (a : Nat) (u : Bool) : Pl (W.setCell ⟨d.vb, a, none⟩ (.bool u)) d (v.set a u) ∧ W.grownBy (W.setCell ⟨d.vb, a, none⟩ (.bool u)) (some d.vb) := by
  have hg : W.grownBy (W.setCell ⟨d.vb, a, none⟩ (.bool u)) (some d.vb) := grown_set (World.grownBy.refl _ _)
  refine ⟨h.turn hg ?_ (by rw [List.length_set]; exact h.len), hg⟩
  rw [row_set h.vals, bo_set]
end

set_option maxHeartbeats 1000000 in
theorem bit_ok (d : Pn) (v : List Bool) (a : Nat) (w : World) (h : Pl w d v) (ha : a < d.c.gates.length) :
    Calls Tryd.prog 67 #[.pointer (some ⟨d.p, 0, none⟩), .int .i64 (a : Int)] w fun e w' => e = .returned (.int .i64 ((valAt v (a : Int)).toNat : Int)) ∧ w' = w := by
  have c0 := h.cell
  have hp0 := h.size
  obtain ⟨e0, _, hv0⟩ := h.val ha
  clear h
  cases hb : valAt v (a : Int) with
  | true =>
    rw [hb] at e0
    go_enter Tryd.func67, Tryd.ntmps67
    go_wp2
    go_ret
    exact ⟨rfl, rfl⟩
  | false =>
    rw [hb] at e0
    go_enter Tryd.func67, Tryd.ntmps67
    go_wp2
    go_ret
    exact ⟨rfl, rfl⟩

set_option maxHeartbeats 1000000 in
theorem chosen_ok (d : Pn) (v : List Bool) (g : Ga) (a : Nat) (w : World) (h : Pl w d v) (hga : g.a = (a : Int)) (ha : a < d.c.gates.length) :
    Calls Tryd.prog 68 #[.pointer (some ⟨d.p, 0, none⟩), .agg #[.int .i64 g.kind, .string g.name, .int .i64 g.op, .int .i64 g.a, .int .i64 g.b, .int .i64 g.c]] w fun e w' => e = .returned (.int .i64 (if valAt v g.a = true then g.b else g.c)) ∧ Below w.heap.size w w' := by
  obtain ⟨x, hx⟩ : ∃ x, x = w.alloc (Obj.cells #[Value.int .i64 g.kind, .string g.name, .int .i64 g.op, .int .i64 (a : Int), .int .i64 g.b, .int .i64 g.c] 38) := ⟨_, rfl⟩
  have BX : Hid (Below w.heap.size w x) := by rw [hx]; exact (Below.refl _ _).alloc (Nat.le_refl _) _
  have C0 : Hid (x.heap[w.heap.size]? = some (.cells #[Value.int .i64 g.kind, .string g.name, .int .i64 g.op, .int .i64 (a : Int), .int .i64 g.b, .int .i64 g.c] 38 (0, 0))) := by rw [hx]; exact heap_alloc_new w _
  have PX := hid (h.on BX.out)
  have c0 := fun j => cell_row C0.out j
  have hb0 := (Array.getElem?_eq_some_iff.1 C0.out).1
  have KS : Hid (∀ W, Below x.heap.size x W → W.cell? ⟨d.p, 6, none⟩ = some (.slice (some ⟨d.vb, 0, none⟩) d.c.gates.length d.c.gates.length) ∧ W.cell? ⟨w.heap.size, 3, none⟩ = some (.int .i64 (a : Int)) ∧ W.cell? ⟨d.vb, a, none⟩ = some (.bool (valAt v (a : Int)))) := fun W hW => by
    have h2 := (hW.block _ (Array.getElem?_eq_some_iff.1 C0.out).1).trans C0.out
    exact ⟨(PX.out.on hW).cell 6, cell_row h2 3, ((PX.out.on hW).val ha).1⟩
  have HX := hid hx
  rw [hga]
  cases hb : valAt v (a : Int) with
  | true =>
    rw [hb] at KS
    clear hx h hga hb
    go_enter Tryd.func68, Tryd.ntmps68
    go_wp2_with (rw [← HX.out])
    refine wp_region_noPanic ?_
    refine wp_region_held_drew (S := fun W => W.cell? ⟨d.p, 6, none⟩ = some (.slice (some ⟨d.vb, 0, none⟩) d.c.gates.length d.c.gates.length) ∧ W.cell? ⟨w.heap.size, 3, none⟩ = some (.int .i64 (a : Int)) ∧ W.cell? ⟨d.vb, a, none⟩ = some (.bool true)) (by kernel_rfl) (KS.out _ (Below.refl _ _).drew) (fun hHeld => ?_)
    refine wpAnyH_take (i := 0) (v := ?_) (by simp only [List.getElem?_toArray, List.getElem?_cons_zero]; rfl) (by kernel_rfl) (by kernel_rfl) (by kernel_rfl) (fun _ _ _ h => h) (Or.inl ⟨by rfl, ?_⟩) (by assumption) ?_
    rotate_left 1
    · intro w hSw; (try dsimp only at hSw); go_simp; (try with_reducible rfl)
    try simp only [Act.put, List.setIfInBounds_toArray, List.set_cons_zero, List.set_cons_succ]
    refine wpAnyH_take (i := 1) (v := ?_) (by simp only [List.getElem?_toArray, List.getElem?_cons_succ, List.getElem?_cons_zero]; rfl) (by kernel_rfl) (by kernel_rfl) (by kernel_rfl) (fun _ _ _ h => h) (Or.inl ⟨by rfl, ?_⟩) (by assumption) ?_
    rotate_left 1
    · intro w hSw; (try dsimp only at hSw); go_simp; (try with_reducible rfl)
    try simp only [Act.put, List.setIfInBounds_toArray, List.set_cons_zero, List.set_cons_succ]
    refine wpAnyH_take (i := 2) (v := ?_) (by simp only [List.getElem?_toArray, List.getElem?_cons_succ, List.getElem?_cons_zero]; rfl) (by kernel_rfl) (by kernel_rfl) (by kernel_rfl) (fun _ _ _ h => h) (Or.inl ⟨by rfl, ?_⟩) (by assumption) ?_
    rotate_left 1
    · intro w hSw; (try dsimp only at hSw); go_simp; (try with_reducible rfl)
    try simp only [Act.put, List.setIfInBounds_toArray, List.set_cons_zero, List.set_cons_succ]
    refine wpAnyH_take (i := 3) (v := ?_) (by simp only [List.getElem?_toArray, List.getElem?_cons_succ, List.getElem?_cons_zero]; rfl) (by kernel_rfl) (by kernel_rfl) (by kernel_rfl) (fun _ _ _ h => h) (Or.inl ⟨by rfl, ?_⟩) (by assumption) ?_
    rotate_left 1
    · intro w hSw; (try dsimp only at hSw); go_simp; (try with_reducible rfl)
    try simp only [Act.put, List.setIfInBounds_toArray, List.set_cons_zero, List.set_cons_succ]
    refine wpAnyH_take (i := 4) (v := ?_) (by simp only [List.getElem?_toArray, List.getElem?_cons_succ, List.getElem?_cons_zero]; rfl) (by kernel_rfl) (by kernel_rfl) (by kernel_rfl) (fun _ _ _ h => h) (Or.inl ⟨by rfl, ?_⟩) (by assumption) ?_
    rotate_left 1
    · intro w hSw; (try dsimp only at hSw); go_simp; (try with_reducible rfl)
    try simp only [Act.put, List.setIfInBounds_toArray, List.set_cons_zero, List.set_cons_succ]
    refine wpAnyH_take (i := 5) (v := ?_) (by simp only [List.getElem?_toArray, List.getElem?_cons_succ, List.getElem?_cons_zero]; rfl) (by kernel_rfl) (by kernel_rfl) (by kernel_rfl) (fun _ _ _ h => h) (Or.inl ⟨by rfl, ?_⟩) (by assumption) ?_
    rotate_left 1
    · intro w hSw; (try dsimp only at hSw); go_simp; (try with_reducible rfl)
    try simp only [Act.put, List.setIfInBounds_toArray, List.set_cons_zero, List.set_cons_succ]
    refine wpAnyH_take (i := 6) (v := .pointer (some ⟨d.vb, a, none⟩)) (by simp only [List.getElem?_toArray, List.getElem?_cons_succ, List.getElem?_cons_zero]; rfl) (by kernel_rfl) (by kernel_rfl) (by kernel_rfl) (fun _ _ _ h => h) (Or.inl ⟨by rfl, ?_⟩) (by assumption) ?_
    · intro w hSw; (try dsimp only at hSw); (try go_simp); ((try rw [if_pos (by omega)]); (try simp); (try (intro h9; omega)))
    try simp only [Act.put, List.setIfInBounds_toArray, List.set_cons_zero, List.set_cons_succ]
    refine wpAnyH_take (i := 7) (v := ?_) (by simp only [List.getElem?_toArray, List.getElem?_cons_succ, List.getElem?_cons_zero]; rfl) (by kernel_rfl) (by kernel_rfl) (by kernel_rfl) (fun _ _ _ h => h) (Or.inl ⟨by rfl, ?_⟩) (by assumption) ?_
    rotate_left 1
    · intro w hSw; (try dsimp only at hSw); go_simp; (try with_reducible rfl)
    try simp only [Act.put, List.setIfInBounds_toArray, List.set_cons_zero, List.set_cons_succ]
    refine wpAnyH_done (by kernel_rfl) ?_ _
    refine NoPanic.normal ?_
    go_wp2
    go_ret
    exact ⟨rfl, BX.out.trans ((Below.refl _ _).drew.mono BX.out.size)⟩
  | false =>
    rw [hb] at KS
    clear hx h hga hb
    go_enter Tryd.func68, Tryd.ntmps68
    go_wp2_with (rw [← HX.out])
    refine wp_region_noPanic ?_
    refine wp_region_held_drew (S := fun W => W.cell? ⟨d.p, 6, none⟩ = some (.slice (some ⟨d.vb, 0, none⟩) d.c.gates.length d.c.gates.length) ∧ W.cell? ⟨w.heap.size, 3, none⟩ = some (.int .i64 (a : Int)) ∧ W.cell? ⟨d.vb, a, none⟩ = some (.bool false)) (by kernel_rfl) (KS.out _ (Below.refl _ _).drew) (fun hHeld => ?_)
    refine wpAnyH_take (i := 0) (v := ?_) (by simp only [List.getElem?_toArray, List.getElem?_cons_zero]; rfl) (by kernel_rfl) (by kernel_rfl) (by kernel_rfl) (fun _ _ _ h => h) (Or.inl ⟨by rfl, ?_⟩) (by assumption) ?_
    rotate_left 1
    · intro w hSw; (try dsimp only at hSw); go_simp; (try with_reducible rfl)
    try simp only [Act.put, List.setIfInBounds_toArray, List.set_cons_zero, List.set_cons_succ]
    refine wpAnyH_take (i := 1) (v := ?_) (by simp only [List.getElem?_toArray, List.getElem?_cons_succ, List.getElem?_cons_zero]; rfl) (by kernel_rfl) (by kernel_rfl) (by kernel_rfl) (fun _ _ _ h => h) (Or.inl ⟨by rfl, ?_⟩) (by assumption) ?_
    rotate_left 1
    · intro w hSw; (try dsimp only at hSw); go_simp; (try with_reducible rfl)
    try simp only [Act.put, List.setIfInBounds_toArray, List.set_cons_zero, List.set_cons_succ]
    refine wpAnyH_take (i := 2) (v := ?_) (by simp only [List.getElem?_toArray, List.getElem?_cons_succ, List.getElem?_cons_zero]; rfl) (by kernel_rfl) (by kernel_rfl) (by kernel_rfl) (fun _ _ _ h => h) (Or.inl ⟨by rfl, ?_⟩) (by assumption) ?_
    rotate_left 1
    · intro w hSw; (try dsimp only at hSw); go_simp; (try with_reducible rfl)
    try simp only [Act.put, List.setIfInBounds_toArray, List.set_cons_zero, List.set_cons_succ]
    refine wpAnyH_take (i := 3) (v := ?_) (by simp only [List.getElem?_toArray, List.getElem?_cons_succ, List.getElem?_cons_zero]; rfl) (by kernel_rfl) (by kernel_rfl) (by kernel_rfl) (fun _ _ _ h => h) (Or.inl ⟨by rfl, ?_⟩) (by assumption) ?_
    rotate_left 1
    · intro w hSw; (try dsimp only at hSw); go_simp; (try with_reducible rfl)
    try simp only [Act.put, List.setIfInBounds_toArray, List.set_cons_zero, List.set_cons_succ]
    refine wpAnyH_take (i := 4) (v := ?_) (by simp only [List.getElem?_toArray, List.getElem?_cons_succ, List.getElem?_cons_zero]; rfl) (by kernel_rfl) (by kernel_rfl) (by kernel_rfl) (fun _ _ _ h => h) (Or.inl ⟨by rfl, ?_⟩) (by assumption) ?_
    rotate_left 1
    · intro w hSw; (try dsimp only at hSw); go_simp; (try with_reducible rfl)
    try simp only [Act.put, List.setIfInBounds_toArray, List.set_cons_zero, List.set_cons_succ]
    refine wpAnyH_take (i := 5) (v := ?_) (by simp only [List.getElem?_toArray, List.getElem?_cons_succ, List.getElem?_cons_zero]; rfl) (by kernel_rfl) (by kernel_rfl) (by kernel_rfl) (fun _ _ _ h => h) (Or.inl ⟨by rfl, ?_⟩) (by assumption) ?_
    rotate_left 1
    · intro w hSw; (try dsimp only at hSw); go_simp; (try with_reducible rfl)
    try simp only [Act.put, List.setIfInBounds_toArray, List.set_cons_zero, List.set_cons_succ]
    refine wpAnyH_take (i := 6) (v := .pointer (some ⟨d.vb, a, none⟩)) (by simp only [List.getElem?_toArray, List.getElem?_cons_succ, List.getElem?_cons_zero]; rfl) (by kernel_rfl) (by kernel_rfl) (by kernel_rfl) (fun _ _ _ h => h) (Or.inl ⟨by rfl, ?_⟩) (by assumption) ?_
    · intro w hSw; (try dsimp only at hSw); (try go_simp); ((try rw [if_pos (by omega)]); (try simp); (try (intro h9; omega)))
    try simp only [Act.put, List.setIfInBounds_toArray, List.set_cons_zero, List.set_cons_succ]
    refine wpAnyH_take (i := 7) (v := ?_) (by simp only [List.getElem?_toArray, List.getElem?_cons_succ, List.getElem?_cons_zero]; rfl) (by kernel_rfl) (by kernel_rfl) (by kernel_rfl) (fun _ _ _ h => h) (Or.inl ⟨by rfl, ?_⟩) (by assumption) ?_
    rotate_left 1
    · intro w hSw; (try dsimp only at hSw); go_simp; (try with_reducible rfl)
    try simp only [Act.put, List.setIfInBounds_toArray, List.set_cons_zero, List.set_cons_succ]
    refine wpAnyH_done (by kernel_rfl) ?_ _
    refine NoPanic.normal ?_
    go_wp2
    go_ret
    exact ⟨rfl, BX.out.trans ((Below.refl _ _).drew.mono BX.out.size)⟩

/-- values put at places. -/
def setAll : List Bool → List Nat → List Bool → List Bool
  | v, p :: P, x :: X => setAll (v.set p x) P X
  | v, _, _ => v
theorem setAll_len : ∀ (P : List Nat) (X v : List Bool), (setAll v P X).length = v.length
  | [], _, _ => by simp [setAll]
  | p :: P, [], _ => by simp [setAll]
  | p :: P, x :: X, v => by rw [setAll, setAll_len P X, List.length_set]
theorem setAll_snoc : ∀ (P : List Nat) (X v : List Bool) (p : Nat) (x : Bool), P.length = X.length → setAll v (P ++ [p]) (X ++ [x]) = (setAll v P X).set p x
  | [], [], _, _, _, _ => rfl
  | q :: P, y :: X, v, p, x, h => by
    show setAll (v.set q y) (P ++ [p]) (X ++ [x]) = (setAll (v.set q y) P X).set p x
    exact setAll_snoc P X _ p x (by simpa using h)

set_option maxHeartbeats 2000000 in
theorem set_ok (d : Pn) (v : List Bool) (P : List Nat) (X : List Bool) (sp sx : Option Addr) (cp cx : Nat) (w : World) (h : Pl w d v) (hP : CellsAt w sp (placesV P)) (hX : CellsAt w sx (bo X)) (hl : P.length = X.length) (hPl : P.length ≤ 65536) (hfP : Off (placesV P) sp d.vb) (hfX : Off (bo X) sx d.vb) (hlt : ∀ x ∈ P, x < d.c.gates.length) :
    Calls Tryd.prog 66 #[.pointer (some ⟨d.p, 0, none⟩), .slice sp P.length cp, .slice sx P.length cx] w fun e w' => (∃ u, e = .returned u) ∧ Pl w' d (setAll v P X) ∧ w.grownBy w' (some d.vb) := by
  have H0 := hid h
  have HP := hid hP
  have HX := hid hX
  have FP := hid hfP
  have FX := hid hfX
  have HT := hid hlt
  have HL := hid hl
  clear h hP hX hfP hfX hlt hl
  go_enter Tryd.func66, Tryd.ntmps66
  go_wp2
  go_loopw [10] (fun iv W => ∃ i : Nat, i ≤ P.length ∧ iv = .int .i64 (i : Int) ∧ Hid (Pl W d (setAll v (P.take i) (X.take i)) ∧ w.grownBy W (some d.vb))) (fun iv _ => P.length - (intOf iv).toNat)
  case atStart => exact ⟨0, Nat.zero_le _, rfl, by simp only [List.take_zero, setAll]; exact H0.out, World.grownBy.refl _ _⟩
  case round =>
    obtain ⟨i, hi, rfl, HR⟩ := hrel
    obtain ⟨hpl, hgr⟩ := HR.out
    clear HR
    by_cases hlt : i < P.length
    · obtain ⟨x, hx⟩ : ∃ x, P[i]? = some x := ⟨_, List.getElem?_eq_getElem hlt⟩
      obtain ⟨y, hy⟩ : ∃ y, X[i]? = some y := ⟨_, List.getElem?_eq_getElem (by rw [← HL.out]; exact hlt)⟩
      obtain ⟨g, q, rfl, hgs, hcx⟩ := (HP.out.grown2 hgr FP.out).at_ i _ (places_at P i x hx)
      obtain ⟨b, o, rfl, hbs, hcy⟩ := bit_at (HX.out.grown2 hgr FX.out) i y hy
      have hn2 : b ≠ d.vb := FX.out (fun e => by have := congrArg List.length e; simp [bo] at this; rw [this] at hy; simp at hy) _ _ _ rfl
      have hn1 := hpl.farp
      have hxl : x < d.c.gates.length := HT.out x (List.mem_of_getElem? hx)
      have e6 : wr.cell? ⟨d.p, 6, none⟩ = some (.slice (some ⟨d.vb, 0, none⟩) d.c.gates.length d.c.gates.length) := hpl.cell 6
      have hp0 := hpl.size
      obtain ⟨_, hfz, hvs⟩ := hpl.val hxl
      obtain ⟨hp2, hg2⟩ := hpl.set x y
      have e7 : setAll v (P.take (i + 1)) (X.take (i + 1)) = (setAll v (P.take i) (X.take i)).set x y := by
        rw [List.take_add_one, List.take_add_one, hx, hy]
        exact setAll_snoc _ _ v x y (by have := HL.out; simp; omega)
      have P2 : Hid (Pl (wr.setCell ⟨d.vb, x, none⟩ (.bool y)) d (setAll v (P.take (i + 1)) (X.take (i + 1))) ∧ w.grownBy (wr.setCell ⟨d.vb, x, none⟩ (.bool y)) (some d.vb)) := by rw [e7]; exact ⟨hp2, grown_trans hgr hg2⟩
      clear hpl hgr hx hy hp2 hg2 e7
      go_wp2
      refine wp_region_noPanic ?_
      refine wp_region_held_drew (S := fun W => W.cell? ⟨d.p, 6, none⟩ = some (.slice (some ⟨d.vb, 0, none⟩) d.c.gates.length d.c.gates.length) ∧ W.cell? ⟨b, o + i, none⟩ = some (.bool y)) (by kernel_rfl) ⟨e6, hcy⟩ (fun hHeld => ?_)
      refine wpAnyH_take (i := 0) (v := ?_) (by simp only [List.getElem?_toArray, List.getElem?_cons_zero]; rfl) (by kernel_rfl) (by kernel_rfl) (by kernel_rfl) (fun _ _ _ h => h) (Or.inl ⟨by rfl, ?_⟩) (by assumption) ?_
      rotate_left 1
      · intro w hSw; (try dsimp only at hSw); go_simp; (try with_reducible rfl)
      try simp only [Act.put, List.setIfInBounds_toArray, List.set_cons_zero, List.set_cons_succ]
      refine wpAnyH_take (i := 1) (v := ?_) (by simp only [List.getElem?_toArray, List.getElem?_cons_succ, List.getElem?_cons_zero]; rfl) (by kernel_rfl) (by kernel_rfl) (by kernel_rfl) (fun _ _ _ h => h) (Or.inl ⟨by rfl, ?_⟩) (by assumption) ?_
      rotate_left 1
      · intro w hSw; (try dsimp only at hSw); go_simp; (try with_reducible rfl)
      try simp only [Act.put, List.setIfInBounds_toArray, List.set_cons_zero, List.set_cons_succ]
      refine wpAnyH_take (i := 2) (v := ?_) (by simp only [List.getElem?_toArray, List.getElem?_cons_succ, List.getElem?_cons_zero]; rfl) (by kernel_rfl) (by kernel_rfl) (by kernel_rfl) (fun _ _ _ h => h) (Or.inl ⟨by rfl, ?_⟩) (by assumption) ?_
      rotate_left 1
      · intro w hSw; (try dsimp only at hSw); go_simp; (try with_reducible rfl)
      try simp only [Act.put, List.setIfInBounds_toArray, List.set_cons_zero, List.set_cons_succ]
      refine wpAnyH_take (i := 3) (v := ?_) (by simp only [List.getElem?_toArray, List.getElem?_cons_succ, List.getElem?_cons_zero]; rfl) (by kernel_rfl) (by kernel_rfl) (by kernel_rfl) (fun _ _ _ h => h) (Or.inl ⟨by rfl, ?_⟩) (by assumption) ?_
      rotate_left 1
      · intro w hSw; (try dsimp only at hSw); go_simp; (try with_reducible rfl)
      try simp only [Act.put, List.setIfInBounds_toArray, List.set_cons_zero, List.set_cons_succ]
      refine wpAnyH_take (i := 4) (v := ?_) (by simp only [List.getElem?_toArray, List.getElem?_cons_succ, List.getElem?_cons_zero]; rfl) (by kernel_rfl) (by kernel_rfl) (by kernel_rfl) (fun _ _ _ h => h) (Or.inl ⟨by rfl, ?_⟩) (by assumption) ?_
      rotate_left 1
      · intro w hSw; (try dsimp only at hSw); go_simp; (try with_reducible rfl)
      try simp only [Act.put, List.setIfInBounds_toArray, List.set_cons_zero, List.set_cons_succ]
      refine wpAnyH_take (i := 5) (v := ?_) (by simp only [List.getElem?_toArray, List.getElem?_cons_succ, List.getElem?_cons_zero]; rfl) (by kernel_rfl) (by kernel_rfl) (by kernel_rfl) (fun _ _ _ h => h) (Or.inl ⟨by rfl, ?_⟩) (by assumption) ?_
      rotate_left 1
      · intro w hSw; (try dsimp only at hSw); go_simp; (try with_reducible rfl)
      try simp only [Act.put, List.setIfInBounds_toArray, List.set_cons_zero, List.set_cons_succ]
      refine wpAnyH_take (i := 6) (v := ?_) (by simp only [List.getElem?_toArray, List.getElem?_cons_succ, List.getElem?_cons_zero]; rfl) (by kernel_rfl) (by kernel_rfl) (by kernel_rfl) (fun _ _ _ h => h) (Or.inl ⟨by rfl, ?_⟩) (by assumption) ?_
      rotate_left 1
      · intro w hSw; (try dsimp only at hSw); go_simp; (try with_reducible rfl)
      try simp only [Act.put, List.setIfInBounds_toArray, List.set_cons_zero, List.set_cons_succ]
      refine wpAnyH_take (i := 7) (v := .pointer (some ⟨b, o + i, none⟩)) (by simp only [List.getElem?_toArray, List.getElem?_cons_succ, List.getElem?_cons_zero]; rfl) (by kernel_rfl) (by kernel_rfl) (by kernel_rfl) (fun _ _ _ h => h) (Or.inl ⟨by rfl, ?_⟩) (by assumption) ?_
      · intro w hSw; (try dsimp only at hSw); (try go_simp); ((try rw [if_pos (by omega)]); (try simp); (try (intro h9; omega)))
      try simp only [Act.put, List.setIfInBounds_toArray, List.set_cons_zero, List.set_cons_succ]
      refine wpAnyH_take (i := 8) (v := ?_) (by simp only [List.getElem?_toArray, List.getElem?_cons_succ, List.getElem?_cons_zero]; rfl) (by kernel_rfl) (by kernel_rfl) (by kernel_rfl) (fun _ _ _ h => h) (Or.inl ⟨by rfl, ?_⟩) (by assumption) ?_
      rotate_left 1
      · intro w hSw; (try dsimp only at hSw); go_simp; (try with_reducible rfl)
      try simp only [Act.put, List.setIfInBounds_toArray, List.set_cons_zero, List.set_cons_succ]
      refine wpAnyH_take (i := 9) (v := .pointer (some ⟨d.vb, x, none⟩)) (by simp only [List.getElem?_toArray, List.getElem?_cons_succ, List.getElem?_cons_zero]; rfl) (by kernel_rfl) (by kernel_rfl) (by kernel_rfl) (fun _ _ _ h => h) (Or.inl ⟨by rfl, ?_⟩) (by assumption) ?_
      · intro w hSw; (try dsimp only at hSw); (try go_simp); ((try rw [if_pos (by omega)]); (try simp); (try (intro h9; omega)))
      try simp only [Act.put, List.setIfInBounds_toArray, List.set_cons_zero, List.set_cons_succ]
      refine wpAnyH_ready (rs := [10]) (by kernel_rfl) (by simp) ?_
      refine AllReadyH.cons (by simp only [List.getElem?_toArray, List.getElem?_cons_succ, List.getElem?_cons_zero]; rfl) (fun K hK => ?_) AllReadyH.nil
      go_simp
      clear hHeld
      refine hK.out _ _ ⟨(World.cell?_setCell_far _ _ _ _ (Ne.symm hn1)).trans e6, (World.cell?_setCell_far _ _ _ _ (Ne.symm hn2)).trans hcy⟩ (fun hHeld => ?_)
      clear hK K
      try simp only [Act.put, List.setIfInBounds_toArray, List.set_cons_zero, List.set_cons_succ]
      refine wpAnyH_done (by kernel_rfl) ?_ _
      refine NoPanic.normal ?_
      go_wp2
      exact ⟨⟨i + 1, hlt, by go_num, P2.out.1.on (Below.refl _ _).drew, grown_below P2.out.2 (Below.refl _ _).drew⟩, by simp [intOf]; omega⟩
    · have e8 : Hid (Pl wr d (setAll v P X) ∧ w.grownBy wr (some d.vb)) := by
        rw [List.take_of_length_le (by omega), List.take_of_length_le (by have := HL.out; omega)] at hpl
        exact ⟨hpl, hgr⟩
      clear hpl hgr
      go_wp2
      exact bodyPost_end (results_none rfl _ _ _) rfl ⟨⟨_, rfl⟩, e8.out⟩
end Go.Proofs.YtfmmmhcpdinhgaaDoor
