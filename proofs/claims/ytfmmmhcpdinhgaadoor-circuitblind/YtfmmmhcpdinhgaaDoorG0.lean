/-
  General lemmas of the texts of circuit.
-/
import Derived.Test.YtfmmmhcpdinhgaaDoorRows
import Derived.Test.YtfmmmhcpdinhgaaDoorNet
import Derived.Lib.BufSteps
import Derived.Lib.ItoaLen
import Derived.Lib.Strings
import Derived.WalkKit
import Derived.WalkSpells
import Derived.WalkLawsBesides
import Derived.Deep.QuietTactic
import Derived.Deep.RegionHeld3
import Derived.Deep.RegionWith
import Derived.Deep.RegionLaw
import Derived.Deep.DeepCutAuto
import Derived.Deep.OwnRows
import Derived.Laws.LoneSync
import Derived.Lib.OwnKind
import Derived.OwnWalk
import Derived.Below
import Derived.Laws.IdiomStrings
namespace Go.Proofs.YtfmmmhcpdinhgaaDoor
open Go.RowKit Go.Deep PureNet
set_option maxRecDepth 100000

theorem hid {q : Prop} (h : q) : Hid q := h
theorem Hid.out {q : Prop} (h : Hid q) : q := h
theorem add_plain (g o k : Nat) : (⟨g, o, none⟩ : Addr).add k = ⟨g, o + k, none⟩ := by
  unfold Addr.add
  split <;> simp_all
theorem add_zero_addr (g j : Nat) : (⟨g, 0, none⟩ : Addr).add j = ⟨g, j, none⟩ := by rw [add_plain, Nat.zero_add]
theorem cell_row {w : World} {b : Nat} {c : Array Value} {t : TypeId} {fz : Nat × Nat} (h : w.heap[b]? = some (.cells c t fz)) (i : Nat) : w.cell? ⟨b, i, none⟩ = c[i]? := by simp [World.cell?, h]
theorem unfrozen_row {w : World} {b : Nat} {c : Array Value} {t : TypeId} (h : w.heap[b]? = some (.cells c t (0, 0))) (i : Nat) : w.frozen? ⟨b, i, none⟩ = false := by simp [World.frozen?, h]
theorem below_cell {B b o : Nat} {w w' : World} {x : Value} (hb : Below B w w') (hlt : b < B) (h : w.cell? ⟨b, o, none⟩ = some x) : w'.cell? ⟨b, o, none⟩ = some x := (hb.cell (p := ⟨b, o, none⟩) hlt).trans h
theorem below_drewN {B : Nat} {w W : World} (h : Below B w W) (n : Nat) : Below B w (W.drewN n) := ⟨h.os, h.tape, h.output, h.size, h.block⟩
theorem ownsRow_below {w W : World} {base e size n : Nat} {v : Value} {xs : List Value} (h : w.ownsRow base e size v n xs) (hb : Below w.heap.size w W) : W.ownsRow base e size v n xs := by
  refine ⟨h.1, ?_⟩
  rcases h.2 with hn | ⟨g, cap, cur, hv, hB, hg, rest⟩
  · exact .inl hn
  · exact .inr ⟨g, cap, cur, hv, hB, (hb.block g (Array.getElem?_eq_some_iff.1 hg).1).trans hg, rest⟩
theorem own_shape {W : World} {B e size n : Nat} {v : Value} {xs : List Value} (h : W.ownsRow B e size v n xs) : ∃ sa c, v = .slice sa n c := by
  rcases h.2 with ⟨hv, h0⟩ | ⟨g, cap, cur, hv, _⟩
  · exact ⟨none, 0, by rw [hv, h0]⟩
  · exact ⟨_, _, hv⟩
theorem row_set {W : World} {b : Nat} {cs : Array Value} {t i : Nat} {u : Value} (hr : W.heap[b]? = some (.cells cs t (0, 0))) : (W.setCell ⟨b, i, none⟩ u).heap[b]? = some (.cells (cs.setIfInBounds i u) t (0, 0)) := by
  have hb := (Array.getElem?_eq_some_iff.1 hr).1
  simp [World.setCell, Array.getElem?_modify, hr]
theorem own_ne {W : World} {b B e size n t : Nat} {v : Value} {xs : List Value} {cs : Array Value} {fz : Nat × Nat} (h : W.ownsRow B e size v n xs) (hr : W.heap[b]? = some (.cells cs t fz)) (hte : t ≠ e) : v.ownBlock ≠ some b := by
  intro hv
  obtain ⟨c, f, hk⟩ := Lib.ownsRow_kind h b hv
  rw [hr] at hk
  simp only [Option.some.injEq, Obj.cells.injEq] at hk
  exact hte hk.2.1
/-- an owned row of another type stays when a row grows. -/
theorem own_kept {W W' : World} {B B' e e' size size' n n' : Nat} {v v' : Value} {xs xs' : List Value} (h : W.ownsRow B e size v n xs) (h' : W.ownsRow B' e' size' v' n' xs') (hg : W.grownBy W' v'.ownBlock) (hne : e ≠ e') : W'.ownsRow B e size v n xs :=
  h.kept hg (by
    cases hv : v.ownBlock with
    | none => exact .inl rfl
    | some g =>
      right
      intro e
      obtain ⟨c1, f1, k1⟩ := Lib.ownsRow_kind h g hv
      exact own_ne h' k1 hne e.symm)

/-- append of one, as a step of a region that draws its order. -/
theorem step_one {ops : Array Oper} {o : Oper} {a : Act} {w : World} {K : Act → World → Prop} {Q : Exit → Act → World → Prop} {X : Prop} (hgd : o.guard = none) (sl x : Operand) (t e : TypeId) (z : Value) (size bytes : Nat)
    (ho : o.op = .call { callee := .builtin .append, args := #[sl, x], argTypes := #[t, t] }) (hu : Tryd.prog.underlying t = some (.slice e)) (hinf : (Tryd.prog.info? e).map (fun i => (i.zero, i.size, i.bytes)) = some (some z, size, bytes))
    (hzs : z.cells.size = size) (hsz : 0 < size) (B n : Nat) (v : Value) (xs news : List Value) (ad : Addr) (hs : a.eval sl = v) (hown : w.ownsRow B e size v n xs) (hx : a.eval x = .slice (some ad) 1 1)
    (hl : news.length = size) (hnews : ∀ j u, news[j]? = some u → w.cell? (ad.add j) = some u) (h1 : ∀ u ∈ news, u.oneCell' = true) (hn : n ≤ 140737488351232) (hby : (n + 1) * bytes ≤ 140737488351233) (hB : B ≤ w.heap.size)
    (h : ∀ v' w', w'.ownsRow B e size v' (n + 1) (xs ++ news) → w.grownBy w' v.ownBlock → K (a.put o.dst v') w') : if Region.wanted o (yielded ops a.tmps) = true then Oper.wp Tryd.prog o a w K Q else X := by
  have hw : Region.wanted o (yielded ops a.tmps) = true := by simp [Region.wanted, hgd]
  rw [if_pos hw]
  obtain ⟨i, hi, hz0, hz1, hz2⟩ := info_parts hinf
  obtain ⟨v', w', hr, h2, h3, _⟩ := run_append_own (P := Tryd.prog) w B t o.type e i z size bytes hu hi hz0 hz1 hz2 hzs hsz v n xs hown ad 1 1 news (by rw [hl, Nat.one_mul]) hnews h1 (by unfold maxLen; omega) (by omega) hB
  unfold Oper.wp execOp
  simp only [ho, resolve, invoke, builtin, Sem.run_bind, Sem.run_pure, Result.andThen_ok, List.map_toArray, List.map_cons, List.map_nil, hs, hx, hr]
  exact h v' w' h2 h3
/-- append of one, in a region of the text's order. -/
theorem app_one {ops : Array Oper} {rest : List Oper} {o : Oper} {a : Act} {Q : Exit → Act → World → Prop} {w : World} (hgd : o.guard = none) (sl x : Operand) (t e : TypeId) (z : Value) (size bytes : Nat)
    (ho : o.op = .call { callee := .builtin .append, args := #[sl, x], argTypes := #[t, t] }) (hu : Tryd.prog.underlying t = some (.slice e)) (hinf : (Tryd.prog.info? e).map (fun i => (i.zero, i.size, i.bytes)) = some (some z, size, bytes))
    (hzs : z.cells.size = size) (hsz : 0 < size) (B n : Nat) (v : Value) (xs news : List Value) (ad : Addr) (hs : a.eval sl = v) (hown : w.ownsRow B e size v n xs) (hx : a.eval x = .slice (some ad) 1 1)
    (hl : news.length = size) (hnews : ∀ j u, news[j]? = some u → w.cell? (ad.add j) = some u) (h1 : ∀ u ∈ news, u.oneCell' = true) (hn : n ≤ 140737488351232) (hby : (n + 1) * bytes ≤ 140737488351233) (hB : B ≤ w.heap.size)
    (h : ∀ v' w', w'.ownsRow B e size v' (n + 1) (xs ++ news) → w.grownBy w' v.ownBlock → wpList Tryd.prog ops Q rest (a.put o.dst v') w') : wpList Tryd.prog ops Q (o :: rest) a w := by
  obtain ⟨i, hi, hz0, hz1, hz2⟩ := info_parts hinf
  refine wpList_append_own _ hgd sl x t ho B e i z size bytes hu hi hz0 hz1 hz2 hzs hsz v n xs hs hown ad 1 1 news hx (by rw [hl, Nat.one_mul]) hnews h1 (by unfold maxLen; omega) (by omega) hB ?_
  intro v' w' h2 h3 _
  exact h v' w' h2 h3

theorem info3 : (Tryd.prog.info? 3).map (fun i => (i.zero, i.size, i.bytes)) = some (some (.int .i64 0), 1, 8) := by kernel_rfl
theorem info4 : (Tryd.prog.info? 4).map (fun i => (i.zero, i.size, i.bytes)) = some (some (.bool false), 1, 1) := by kernel_rfl
theorem info29 : (Tryd.prog.info? 29).map (fun i => (i.zero, i.size, i.bytes)) = some (some (.slice none 0 0), 1, 24) := by kernel_rfl
theorem info38 : (Tryd.prog.info? 38).map (fun i => (i.zero, i.size, i.bytes)) = some (some (.agg #[.int .i64 0, .string ⟨#[]⟩, .int .i64 0, .int .i64 0, .int .i64 0, .int .i64 0]), 6, 56) := by kernel_rfl

/-- cells that can be read there. -/
structure CellsAt (W : World) (s : Option Addr) (xs : List Value) : Prop where
  at_ : ∀ (k : Nat) (x : Value), xs[k]? = some x → ∃ g o, s = some ⟨g, o, none⟩ ∧ g < W.heap.size ∧ W.cell? ⟨g, o + k, none⟩ = some x
theorem CellsAt.below {w W : World} {s : Option Addr} {xs : List Value} (h : CellsAt w s xs) (hb : Below w.heap.size w W) : CellsAt W s xs := ⟨fun k x hx => by
  obtain ⟨g, o, e, hg, c⟩ := h.at_ k x hx
  exact ⟨g, o, e, Nat.lt_of_lt_of_le hg hb.size, below_cell hb hg c⟩⟩
theorem CellsAt.nil (W : World) (s : Option Addr) : CellsAt W s [] := ⟨fun k x hx => by simp at hx⟩
theorem own_cells {W : World} {B e size n : Nat} {v : Value} {xs : List Value} (h : W.ownsRow B e size v n xs) : ∃ sa c, v = .slice sa n c ∧ CellsAt W sa xs ∧ (sa = none → c = 0) ∧ n ≤ c ∧ ∀ g o sp, sa = some ⟨g, o, sp⟩ → B ≤ g := by
  have hlen := h.1
  rcases h.2 with ⟨hv, h0⟩ | ⟨g, cap, cur, hv, hb, hg, hn, hm, hsz, ht⟩
  · subst h0
    have : xs = [] := List.eq_nil_of_length_eq_zero (by simpa using hlen)
    subst this
    exact ⟨none, 0, hv, CellsAt.nil _ _, fun _ => rfl, Nat.le_refl _, fun g o sp e => by cases e⟩
  · refine ⟨_, _, hv, ⟨fun k x hx => ⟨g, 0, rfl, (Array.getElem?_eq_some_iff.1 hg).1, ?_⟩⟩, (fun e => by cases e), hn, fun g' o' sp e => by cases e; exact hb⟩
    rw [cell_row hg, Nat.zero_add]
    rw [← ht] at hx
    have hk : k < n * size := by
      have := (List.getElem?_eq_some_iff.1 hx).1
      simp only [List.length_take] at this
      omega
    rw [List.getElem?_take_of_lt hk] at hx
    simpa using hx

def ga (g : Ga) : List Value := [.int .i64 g.kind, .string g.name, .int .i64 g.op, .int .i64 g.a, .int .i64 g.b, .int .i64 g.c]
def gas (l : List Ga) : List Value := l.flatMap ga
def bo (l : List Bool) : List Value := l.map Value.bool
def nu (l : List Int) : List Value := l.map (Value.int .i64)
theorem gas_length (l : List Ga) : (gas l).length = l.length * 6 := by
  induction l with
  | nil => rfl
  | cons p t ih => simp only [gas, List.flatMap_cons, List.length_append, List.length_cons] at ih ⊢; simp only [ga, List.length_cons, List.length_nil]; omega
theorem gas_snoc (l : List Ga) (g : Ga) : gas (l ++ [g]) = gas l ++ ga g := by simp [gas]
theorem gas_at (l : List Ga) (k j : Nat) (hk : k < l.length) (hj : j < 6) : (gas l)[k * 6 + j]? = (ga l[k])[j]? := by
  induction l generalizing k with
  | nil => simp at hk
  | cons p t ih =>
    have e : gas (p :: t) = ga p ++ gas t := by simp [gas]
    have hl : (ga p).length = 6 := rfl
    rw [e]
    cases k with
    | zero => rw [List.getElem?_append_left (by omega)]; simp
    | succ k =>
      rw [List.getElem?_append_right (by omega), hl, show (k + 1) * 6 + j - 6 = k * 6 + j by omega, ih k (by simpa using hk)]
      simp
/-- a line of a circuit, read. -/
theorem gate_at {W : World} {s : Option Addr} {l : List Ga} (h : CellsAt W s (gas l)) (k : Nat) (g : Ga) (hg : l[k]? = some g) : ∃ b o, s = some ⟨b, o, none⟩ ∧ b < W.heap.size ∧ W.cell? ⟨b, o + k * 6, none⟩ = some (.int .i64 g.kind) ∧ W.cell? ⟨b, o + k * 6 + 1, none⟩ = some (.string g.name) ∧ W.cell? ⟨b, o + k * 6 + 2, none⟩ = some (.int .i64 g.op) ∧ W.cell? ⟨b, o + k * 6 + 3, none⟩ = some (.int .i64 g.a) ∧ W.cell? ⟨b, o + k * 6 + 4, none⟩ = some (.int .i64 g.b) ∧ W.cell? ⟨b, o + k * 6 + 5, none⟩ = some (.int .i64 g.c) := by
  obtain ⟨hk, rfl⟩ := List.getElem?_eq_some_iff.1 hg
  have one : ∀ j (hj : j < 6), (gas l)[k * 6 + j]? = some ((ga l[k])[j]'(by simpa [ga] using hj)) := fun j hj => by rw [gas_at l k j hk hj, List.getElem?_eq_getElem]
  obtain ⟨b, o, e, hb, c0⟩ := h.at_ _ _ (one 0 (by omega))
  have rest : ∀ j (hj : j < 6), W.cell? ⟨b, o + k * 6 + j, none⟩ = some ((ga l[k])[j]'(by simpa [ga] using hj)) := fun j hj => by
    obtain ⟨b', o', e', hb', c'⟩ := h.at_ _ _ (one j hj)
    rw [e] at e'
    simp only [Option.some.injEq, Addr.mk.injEq, and_true] at e'
    obtain ⟨rfl, rfl⟩ := e'
    rw [Nat.add_assoc]; exact c'
  exact ⟨b, o, e, hb, rest 0 (by omega), rest 1 (by omega), rest 2 (by omega), rest 3 (by omega), rest 4 (by omega), rest 5 (by omega)⟩
theorem bit_at {W : World} {s : Option Addr} {l : List Bool} (h : CellsAt W s (bo l)) (k : Nat) (x : Bool) (hx : l[k]? = some x) : ∃ b o, s = some ⟨b, o, none⟩ ∧ b < W.heap.size ∧ W.cell? ⟨b, o + k, none⟩ = some (.bool x) :=
  h.at_ k _ (by simp [bo, hx])
theorem num_at {W : World} {s : Option Addr} {l : List Int} (h : CellsAt W s (nu l)) (k : Nat) (x : Int) (hx : l[k]? = some x) : ∃ b o, s = some ⟨b, o, none⟩ ∧ b < W.heap.size ∧ W.cell? ⟨b, o + k, none⟩ = some (.int .i64 x) :=
  h.at_ k _ (by simp [nu, hx])

/-- a circuit as a value. -/
abbrev cirV (c : Net) (sg : Option Addr) (cg : Nat) (so : Option Addr) (co : Nat) : Value := .agg #[.string c.name, .slice sg c.gates.length cg, .slice so c.outs.length co]
/-- its lists. -/
structure CirAt (W : World) (c : Net) (sg so : Option Addr) : Prop where
  gates : CellsAt W sg (gas c.gates)
  outs : CellsAt W so (nu c.outs)
theorem CirAt.below {w W : World} {c : Net} {sg so : Option Addr} (h : CirAt w c sg so) (hb : Below w.heap.size w W) : CirAt W c sg so := ⟨h.gates.below hb, h.outs.below hb⟩

/-- a list of lists of truths. -/
structure ListsAt (W : World) (s : Option Addr) (L : List (List Bool)) : Prop where
  at_ : ∀ (k : Nat) (l : List Bool), L[k]? = some l → ∃ g o sb cb, s = some ⟨g, o, none⟩ ∧ g < W.heap.size ∧ W.cell? ⟨g, o + k, none⟩ = some (.slice sb l.length cb) ∧ CellsAt W sb (bo l) ∧ (sb = none → cb = 0)
theorem ListsAt.below {w W : World} {s : Option Addr} {L : List (List Bool)} (h : ListsAt w s L) (hb : Below w.heap.size w W) : ListsAt W s L := ⟨fun k l hl => by
  obtain ⟨g, o, sb, cb, e, hg, c, h2, h3⟩ := h.at_ k l hl
  exact ⟨g, o, sb, cb, e, Nat.lt_of_lt_of_le hg hb.size, below_cell hb hg c, h2.below hb, h3⟩⟩

/-- a row in the making since w. -/
structure Mk (w W : World) (e size : Nat) (v : Value) (n : Nat) (xs : List Value) : Prop where
  own : W.ownsRow w.heap.size e size v n xs
  below : Below w.heap.size w W
theorem Mk.nil (w : World) (e size : Nat) : Mk w w e size (.slice none 0 0) 0 [] := ⟨World.ownsRow_nil _ _ _ _, Below.refl _ _⟩
theorem Mk.on {w W W' : World} {e size n : Nat} {v : Value} {xs : List Value} (h : Mk w W e size v n xs) (hb : Below W.heap.size W W') : Mk w W' e size v n xs := ⟨ownsRow_below h.own hb, h.below.trans (hb.mono h.below.size)⟩
theorem Mk.grow {w W W' : World} {e size n n' : Nat} {v v' : Value} {xs xs' : List Value} (h : Mk w W e size v n xs) (ho : W'.ownsRow w.heap.size e size v' n' xs') (hg : W.grownBy W' v.ownBlock) : Mk w W' e size v' n' xs' := ⟨ho, h.below.grown hg h.below.size (fun j hj => (h.own.lt j hj).1)⟩
theorem Mk.aside {w W W' : World} {e e' size size' n n' : Nat} {v v' : Value} {xs xs' : List Value} (h : Mk w W e size v n xs) (h' : Mk w W e' size' v' n' xs') (hg : W.grownBy W' v'.ownBlock) (hne : e ≠ e') : Mk w W' e size v n xs :=
  ⟨own_kept h.own h'.own hg hne, h.below.grown hg h.below.size (fun j hj => (h'.own.lt j hj).1)⟩
/-- append of one to a row in the making. -/
theorem mk_app {ops : Array Oper} {rest : List Oper} {o : Oper} {a : Act} {Q : Exit → Act → World → Prop} {w W : World} {v : Value} {e size n : Nat} {xs : List Value} (hgd : o.guard = none) (sl y : Operand) (t : TypeId) (z : Value) (bytes : Nat)
    (ho : o.op = .call { callee := .builtin .append, args := #[sl, y], argTypes := #[t, t] }) (hu : Tryd.prog.underlying t = some (.slice e)) (hinf : (Tryd.prog.info? e).map (fun i => (i.zero, i.size, i.bytes)) = some (some z, size, bytes)) (hzs : z.cells.size = size) (hsz : 0 < size)
    (h : Mk w W e size v n xs) (news : List Value) (u : TypeId) (ad : Nat) (had : ad = W.heap.size) (hs : a.eval sl = v) (hx : a.eval y = .slice (some ⟨ad, 0, none⟩) 1 1) (hl : news.length = size) (h1 : ∀ u ∈ news, u.oneCell' = true) (hn : n ≤ 140737488351232) (hby : (n + 1) * bytes ≤ 140737488351233)
    (hK : ∀ sx cx w', (W.alloc (.cells news.toArray u)).grownBy w' v.ownBlock → Mk w w' e size (.slice sx (n + 1) cx) (n + 1) (xs ++ news) → wpList Tryd.prog ops Q rest (a.put o.dst (.slice sx (n + 1) cx)) w') :
    wpList Tryd.prog ops Q (o :: rest) a (W.alloc (.cells news.toArray u)) := by
  subst had
  have h2 := h.on ((Below.refl _ _).alloc (Nat.le_refl _) (Obj.cells news.toArray u))
  refine app_one hgd sl y t e z size bytes ho hu hinf hzs hsz w.heap.size n v xs news ⟨W.heap.size, 0, none⟩ hs h2.own hx hl (fun j u hu => by rw [add_zero_addr, cell_row (heap_alloc_new W _)]; simpa using hu) h1 hn hby h2.below.size ?_
  intro v4 w4 o4 g4
  obtain ⟨sx, cx, rfl⟩ := own_shape o4
  exact hK sx cx w4 g4 (h2.grow o4 g4)
end Go.Proofs.YtfmmmhcpdinhgaaDoor
