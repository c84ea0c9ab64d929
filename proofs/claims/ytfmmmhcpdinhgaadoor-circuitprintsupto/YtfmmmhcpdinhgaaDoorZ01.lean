import Derived.Lib.BufSteps
import Derived.Lib.ItoaLen
import Derived.Lib.Strings
import Derived.WalkKit
import Derived.WalkSpells
import Derived.WalkLawsBesides
import Derived.Deep.QuietTactic
import Derived.Deep.RegionHeld3
import Derived.Deep.RegionWith
import Derived.Deep.RegionLaw
import Derived.Deep.DeepCutAuto
import Derived.Deep.OwnRows
import Derived.Laws.LoneSync
import Derived.Lib.OwnKind
import Derived.OwnWalk
import Derived.Below
import Derived.Laws.IdiomStrings
import Derived.Laws.CopyRow
import Derived.Laws.OwnMore
import Derived.Laws.Tables
import Derived.Laws.MakeOwn
import Derived.Deep.CutBlock
import Derived.OpenShut
import Derived.SizedLaws
import Derived.ProofKit
import Derived.Deep.Slices
import Derived.ChangeArms
import Derived.DataElems
import Derived.Deep.DeepHandedRow
import Derived.Deep.DeepWitnessRowRef
import Derived.SevenTiedAt
import Derived.BigQuiet
import Derived.Lib.Builder
import Derived.Lib.FrozenHead
import Derived.Lib.OthersKept
import Derived.Lib.UnsafeStr
import Derived.Laws.Externs
import Derived.Shelf.RegionOpenPlain
import Derived.Lib.FrozenHead2
import Derived.Lib.ConvBytes
import Derived.Maps.OwnSet
import Derived.Maps.Views
import Derived.Maps.OwnOps
import Derived.StringKeys
import Derived.Laws.AppendOwn
import Derived.Deep.DeepAppendRoom
import Derived.ArgAppend
import Derived.Deep.LoopGhost
import Derived.ScopeJumps
import Derived.Shelf.Sort.Plain
import Derived.Sort.OwnSortedInts
import Derived.Test.YtfmmmhcpdinhgaaDoorRows
import Derived.Test.YtfmmmhcpdinhgaaDoorTie
import Derived.Test.YtfmmmhcpdinhgaaDoorCards
/-
  Circuits: what the document says of them, by lists.
-/
namespace PureNet
set_option maxRecDepth 100000

/-- a line. -/
structure Ga where
  kind : Int
  name : ByteArray
  op : Int
  a : Int
  b : Int
  c : Int
structure Net where
  name : ByteArray
  gates : List Ga
  outs : List Int

def letB (c : UInt8) : Bool := decide ((97 ≤ c.toNat ∧ c.toNat ≤ 122) ∨ (65 ≤ c.toNat ∧ c.toNat ≤ 90) ∨ c.toNat = 95)
def nameCB (c : UInt8) : Bool := letB c || decide ((48 ≤ c.toNat ∧ c.toNat ≤ 57) ∨ c.toNat = 46)
def nameL : List UInt8 → Bool
  | [] => false
  | c :: r => letB c && r.all nameCB && decide (r.length ≤ 31)
def nameB (s : ByteArray) : Bool := nameL s.data.toList

def leansOn (g : Ga) : List Int := if g.kind = 2 then [g.a, g.b] else if g.kind = 4 then [g.a, g.b, g.c] else []
def fieldB (v : Int) (used : Bool) (n : Nat) : Bool := if used then decide (0 ≤ v ∧ v < n) else decide (v = 0)
def mostOp (k : Int) : Int := if k = 2 then 15 else if k = 3 then 1 else 0
def lineB (g : Ga) (n : Nat) : Bool :=
  decide (1 ≤ g.kind ∧ g.kind ≤ 4 ∧ 0 ≤ g.op ∧ g.op ≤ mostOp g.kind) && fieldB g.a (decide (g.kind ≠ 1)) n && fieldB g.b (decide (g.kind = 2 ∨ g.kind = 4)) n && fieldB g.c (decide (g.kind = 4)) n

/-- a line leans on another. -/
def Leans (l : List Ga) (i j : Nat) : Prop := ∃ g, l[i]? = some g ∧ (j : Int) ∈ leansOn g
def Way (l : List Ga) (i j : Nat) : Prop := ∀ P : Nat → Nat → Prop, (∀ a b, Leans l a b → P a b) → (∀ a b c, Leans l a b → P b c → P a c) → P i j
theorem Way.one {l : List Ga} {i j : Nat} (h : Leans l i j) : Way l i j := fun _ h1 _ => h1 _ _ h
theorem Way.more {l : List Ga} {i j k : Nat} (h : Leans l i j) (w : Way l j k) : Way l i k := fun P h1 h2 => h2 _ _ _ h (w P h1 h2)
theorem Way.ind {l : List Ga} {motive : (i j : Nat) → Way l i j → Prop} (one : ∀ {i j : Nat} (h : Leans l i j), motive i j (Way.one h)) (more : ∀ {i j k : Nat} (h : Leans l i j) (w : Way l j k), motive j k w → motive i k (Way.more h w)) {i j : Nat} (t : Way l i j) : motive i j t := by
  obtain ⟨w, hw⟩ := t (fun a b => ∃ w : Way l a b, motive a b w) (fun a b h => ⟨Way.one h, one h⟩) (fun a b c h ⟨w, hw⟩ => ⟨Way.more h w, more h w hw⟩)
  exact hw
theorem Way.cas {l : List Ga} {motive : (i j : Nat) → Way l i j → Prop} (one : ∀ {i j : Nat} (h : Leans l i j), motive i j (Way.one h)) (more : ∀ {i j k : Nat} (h : Leans l i j) (w : Way l j k), motive i k (Way.more h w)) {i j : Nat} (t : Way l i j) : motive i j t := Way.ind one (fun h w _ => more h w) t

structure Formed (c : Net) : Prop where
  name : nameB c.name = true
  few : c.gates.length ≤ 65536
  fewOuts : c.outs.length ≤ 65536
  lines : ∀ (i : Nat) (g : Ga), c.gates[i]? = some g → nameB g.name = true ∧ lineB g c.gates.length = true
  apart : ∀ (i j : Nat) (g h : Ga), c.gates[i]? = some g → c.gates[j]? = some h → g.name = h.name → i = j
  outs : ∀ o ∈ c.outs, 0 ≤ o ∧ o < (c.gates.length : Int)
  free : ∀ i, ¬ Way c.gates i i


theorem lineB_kind {g : Ga} {n : Nat} (h : lineB g n = true) : 1 ≤ g.kind ∧ g.kind ≤ 4 := by
  simp only [lineB, Bool.and_eq_true, decide_eq_true_eq] at h
  exact ⟨h.1.1.1.1, h.1.1.1.2.1⟩
theorem lineB_leans {g : Ga} {n : Nat} (h : lineB g n = true) {a : Int} (ha : a ∈ leansOn g) : 0 ≤ a ∧ a < (n : Int) := by
  simp only [lineB, Bool.and_eq_true, decide_eq_true_eq, fieldB] at h
  obtain ⟨⟨⟨h0, h1⟩, h2⟩, h3⟩ := h
  unfold leansOn at ha
  by_cases e2 : g.kind = 2
  · simp [e2] at ha h1 h2
    rcases ha with rfl | rfl
    · exact h1
    · exact h2
  by_cases e4 : g.kind = 4
  · simp [e4] at ha h1 h2 h3
    rcases ha with rfl | rfl | rfl
    · exact h1
    · exact h2
    · exact h3
  · simp [e2, e4] at ha



end PureNet
/-
  General lemmas of the texts of circuit.
-/
namespace Go.Proofs.YtfmmmhcpdinhgaaDoor
open Go.RowKit Go.Deep PureNet
set_option maxRecDepth 100000

theorem hid {q : Prop} (h : q) : Hid q := h
theorem add_plain (g o k : Nat) : (⟨g, o, none⟩ : Addr).add k = ⟨g, o + k, none⟩ := by
  unfold Addr.add
  split <;> simp_all
theorem add_zero_addr (g j : Nat) : (⟨g, 0, none⟩ : Addr).add j = ⟨g, j, none⟩ := by rw [add_plain, Nat.zero_add]
theorem cell_row {w : World} {b : Nat} {c : Array Value} {t : TypeId} {fz : Nat × Nat} (h : w.heap[b]? = some (.cells c t fz)) (i : Nat) : w.cell? ⟨b, i, none⟩ = c[i]? := by simp [World.cell?, h]
theorem unfrozen_row {w : World} {b : Nat} {c : Array Value} {t : TypeId} (h : w.heap[b]? = some (.cells c t (0, 0))) (i : Nat) : w.frozen? ⟨b, i, none⟩ = false := by simp [World.frozen?, h]
theorem below_cell {B b o : Nat} {w w' : World} {x : Value} (hb : Below B w w') (hlt : b < B) (h : w.cell? ⟨b, o, none⟩ = some x) : w'.cell? ⟨b, o, none⟩ = some x := (hb.cell (p := ⟨b, o, none⟩) hlt).trans h
theorem below_drewN {B : Nat} {w W : World} (h : Below B w W) (n : Nat) : Below B w (W.drewN n) := ⟨h.os, h.tape, h.output, h.size, h.block⟩
theorem ownsRow_below {w W : World} {base e size n : Nat} {v : Value} {xs : List Value} (h : w.ownsRow base e size v n xs) (hb : Below w.heap.size w W) : W.ownsRow base e size v n xs := by
  refine ⟨h.1, ?_⟩
  rcases h.2 with hn | ⟨g, cap, cur, hv, hB, hg, rest⟩
  · exact .inl hn
  · exact .inr ⟨g, cap, cur, hv, hB, (hb.block g (Array.getElem?_eq_some_iff.1 hg).1).trans hg, rest⟩
theorem own_shape {W : World} {B e size n : Nat} {v : Value} {xs : List Value} (h : W.ownsRow B e size v n xs) : ∃ sa c, v = .slice sa n c := by
  rcases h.2 with ⟨hv, h0⟩ | ⟨g, cap, cur, hv, _⟩
  · exact ⟨none, 0, by rw [hv, h0]⟩
  · exact ⟨_, _, hv⟩
theorem row_set {W : World} {b : Nat} {cs : Array Value} {t i : Nat} {u : Value} (hr : W.heap[b]? = some (.cells cs t (0, 0))) : (W.setCell ⟨b, i, none⟩ u).heap[b]? = some (.cells (cs.setIfInBounds i u) t (0, 0)) := by
  have hb := (Array.getElem?_eq_some_iff.1 hr).1
  simp [World.setCell, Array.getElem?_modify, hr]
theorem own_ne {W : World} {b B e size n t : Nat} {v : Value} {xs : List Value} {cs : Array Value} {fz : Nat × Nat} (h : W.ownsRow B e size v n xs) (hr : W.heap[b]? = some (.cells cs t fz)) (hte : t ≠ e) : v.ownBlock ≠ some b := by
  intro hv
  obtain ⟨c, f, hk⟩ := Lib.ownsRow_kind h b hv
  rw [hr] at hk
  simp only [Option.some.injEq, Obj.cells.injEq] at hk
  exact hte hk.2.1
/-- an owned row of another type stays when a row grows. -/
theorem own_kept {W W' : World} {B B' e e' size size' n n' : Nat} {v v' : Value} {xs xs' : List Value} (h : W.ownsRow B e size v n xs) (h' : W.ownsRow B' e' size' v' n' xs') (hg : W.grownBy W' v'.ownBlock) (hne : e ≠ e') : W'.ownsRow B e size v n xs :=
  h.kept hg (by
    cases hv : v.ownBlock with
    | none => exact .inl rfl
    | some g =>
      right
      intro e
      obtain ⟨c1, f1, k1⟩ := Lib.ownsRow_kind h g hv
      exact own_ne h' k1 hne e.symm)

/-- append of one, in a region of the text's order. -/
theorem app_one {ops : Array Oper} {rest : List Oper} {o : Oper} {a : Act} {Q : Exit → Act → World → Prop} {w : World} (hgd : o.guard = none) (sl x : Operand) (t e : TypeId) (z : Value) (size bytes : Nat)
    (ho : o.op = .call { callee := .builtin .append, args := #[sl, x], argTypes := #[t, t] }) (hu : Tryd.prog.underlying t = some (.slice e)) (hinf : (Tryd.prog.info? e).map (fun i => (i.zero, i.size, i.bytes)) = some (some z, size, bytes))
    (hzs : z.cells.size = size) (hsz : 0 < size) (B n : Nat) (v : Value) (xs news : List Value) (ad : Addr) (hs : a.eval sl = v) (hown : w.ownsRow B e size v n xs) (hx : a.eval x = .slice (some ad) 1 1)
    (hl : news.length = size) (hnews : ∀ j u, news[j]? = some u → w.cell? (ad.add j) = some u) (h1 : ∀ u ∈ news, u.oneCell' = true) (hn : n ≤ 140737488351232) (hby : (n + 1) * bytes ≤ 140737488351233) (hB : B ≤ w.heap.size)
    (h : ∀ v' w', w'.ownsRow B e size v' (n + 1) (xs ++ news) → w.grownBy w' v.ownBlock → wpList Tryd.prog ops Q rest (a.put o.dst v') w') : wpList Tryd.prog ops Q (o :: rest) a w := by
  obtain ⟨i, hi, hz0, hz1, hz2⟩ := info_parts hinf
  refine wpList_append_own _ hgd sl x t ho B e i z size bytes hu hi hz0 hz1 hz2 hzs hsz v n xs hs hown ad 1 1 news hx (by rw [hl, Nat.one_mul]) hnews h1 (by unfold maxLen; omega) (by omega) hB ?_
  intro v' w' h2 h3 _
  exact h v' w' h2 h3

theorem info3 : (Tryd.prog.info? 3).map (fun i => (i.zero, i.size, i.bytes)) = some (some (.int .i64 0), 1, 8) := by kernel_rfl
theorem info4 : (Tryd.prog.info? 4).map (fun i => (i.zero, i.size, i.bytes)) = some (some (.bool false), 1, 1) := by kernel_rfl
theorem info38 : (Tryd.prog.info? 38).map (fun i => (i.zero, i.size, i.bytes)) = some (some (.agg #[.int .i64 0, .string ⟨#[]⟩, .int .i64 0, .int .i64 0, .int .i64 0, .int .i64 0]), 6, 56) := by kernel_rfl

/-- cells that can be read there. -/
structure CellsAt (W : World) (s : Option Addr) (xs : List Value) : Prop where
  at_ : ∀ (k : Nat) (x : Value), xs[k]? = some x → ∃ g o, s = some ⟨g, o, none⟩ ∧ g < W.heap.size ∧ W.cell? ⟨g, o + k, none⟩ = some x
theorem CellsAt.below {w W : World} {s : Option Addr} {xs : List Value} (h : CellsAt w s xs) (hb : Below w.heap.size w W) : CellsAt W s xs := ⟨fun k x hx => by
  obtain ⟨g, o, e, hg, c⟩ := h.at_ k x hx
  exact ⟨g, o, e, Nat.lt_of_lt_of_le hg hb.size, below_cell hb hg c⟩⟩
theorem CellsAt.nil (W : World) (s : Option Addr) : CellsAt W s [] := ⟨fun k x hx => by simp at hx⟩
theorem own_cells {W : World} {B e size n : Nat} {v : Value} {xs : List Value} (h : W.ownsRow B e size v n xs) : ∃ sa c, v = .slice sa n c ∧ CellsAt W sa xs ∧ (sa = none → c = 0) ∧ n ≤ c ∧ ∀ g o sp, sa = some ⟨g, o, sp⟩ → B ≤ g := by
  have hlen := h.1
  rcases h.2 with ⟨hv, h0⟩ | ⟨g, cap, cur, hv, hb, hg, hn, hm, hsz, ht⟩
  · subst h0
    have : xs = [] := List.eq_nil_of_length_eq_zero (by simpa using hlen)
    subst this
    exact ⟨none, 0, hv, CellsAt.nil _ _, fun _ => rfl, Nat.le_refl _, fun g o sp e => by cases e⟩
  · refine ⟨_, _, hv, ⟨fun k x hx => ⟨g, 0, rfl, (Array.getElem?_eq_some_iff.1 hg).1, ?_⟩⟩, (fun e => by cases e), hn, fun g' o' sp e => by cases e; exact hb⟩
    rw [cell_row hg, Nat.zero_add]
    rw [← ht] at hx
    have hk : k < n * size := by
      have := (List.getElem?_eq_some_iff.1 hx).1
      simp only [List.length_take] at this
      omega
    rw [List.getElem?_take_of_lt hk] at hx
    simpa using hx

def ga (g : Ga) : List Value := [.int .i64 g.kind, .string g.name, .int .i64 g.op, .int .i64 g.a, .int .i64 g.b, .int .i64 g.c]
def gas (l : List Ga) : List Value := l.flatMap ga
def bo (l : List Bool) : List Value := l.map Value.bool
def nu (l : List Int) : List Value := l.map (Value.int .i64)
theorem gas_length (l : List Ga) : (gas l).length = l.length * 6 := by
  induction l with
  | nil => rfl
  | cons p t ih => simp only [gas, List.flatMap_cons, List.length_append, List.length_cons] at ih ⊢; simp only [ga, List.length_cons, List.length_nil]; omega
theorem gas_at (l : List Ga) (k j : Nat) (hk : k < l.length) (hj : j < 6) : (gas l)[k * 6 + j]? = (ga l[k])[j]? := by
  induction l generalizing k with
  | nil => simp at hk
  | cons p t ih =>
    have e : gas (p :: t) = ga p ++ gas t := by simp [gas]
    have hl : (ga p).length = 6 := rfl
    rw [e]
    cases k with
    | zero => rw [List.getElem?_append_left (by omega)]; simp
    | succ k =>
      rw [List.getElem?_append_right (by omega), hl, show (k + 1) * 6 + j - 6 = k * 6 + j by omega, ih k (by simpa using hk)]
      simp
/-- a line of a circuit, read. -/
theorem gate_at {W : World} {s : Option Addr} {l : List Ga} (h : CellsAt W s (gas l)) (k : Nat) (g : Ga) (hg : l[k]? = some g) : ∃ b o, s = some ⟨b, o, none⟩ ∧ b < W.heap.size ∧ W.cell? ⟨b, o + k * 6, none⟩ = some (.int .i64 g.kind) ∧ W.cell? ⟨b, o + k * 6 + 1, none⟩ = some (.string g.name) ∧ W.cell? ⟨b, o + k * 6 + 2, none⟩ = some (.int .i64 g.op) ∧ W.cell? ⟨b, o + k * 6 + 3, none⟩ = some (.int .i64 g.a) ∧ W.cell? ⟨b, o + k * 6 + 4, none⟩ = some (.int .i64 g.b) ∧ W.cell? ⟨b, o + k * 6 + 5, none⟩ = some (.int .i64 g.c) := by
  obtain ⟨hk, rfl⟩ := List.getElem?_eq_some_iff.1 hg
  have one : ∀ j (hj : j < 6), (gas l)[k * 6 + j]? = some ((ga l[k])[j]'(by simpa [ga] using hj)) := fun j hj => by rw [gas_at l k j hk hj, List.getElem?_eq_getElem]
  obtain ⟨b, o, e, hb, c0⟩ := h.at_ _ _ (one 0 (by omega))
  have rest : ∀ j (hj : j < 6), W.cell? ⟨b, o + k * 6 + j, none⟩ = some ((ga l[k])[j]'(by simpa [ga] using hj)) := fun j hj => by
    obtain ⟨b', o', e', hb', c'⟩ := h.at_ _ _ (one j hj)
    rw [e] at e'
    simp only [Option.some.injEq, Addr.mk.injEq, and_true] at e'
    obtain ⟨rfl, rfl⟩ := e'
    rw [Nat.add_assoc]; exact c'
  exact ⟨b, o, e, hb, rest 0 (by omega), rest 1 (by omega), rest 2 (by omega), rest 3 (by omega), rest 4 (by omega), rest 5 (by omega)⟩
theorem bit_at {W : World} {s : Option Addr} {l : List Bool} (h : CellsAt W s (bo l)) (k : Nat) (x : Bool) (hx : l[k]? = some x) : ∃ b o, s = some ⟨b, o, none⟩ ∧ b < W.heap.size ∧ W.cell? ⟨b, o + k, none⟩ = some (.bool x) :=
  h.at_ k _ (by simp [bo, hx])
theorem num_at {W : World} {s : Option Addr} {l : List Int} (h : CellsAt W s (nu l)) (k : Nat) (x : Int) (hx : l[k]? = some x) : ∃ b o, s = some ⟨b, o, none⟩ ∧ b < W.heap.size ∧ W.cell? ⟨b, o + k, none⟩ = some (.int .i64 x) :=
  h.at_ k _ (by simp [nu, hx])

/-- a circuit as a value. -/
abbrev cirV (c : Net) (sg : Option Addr) (cg : Nat) (so : Option Addr) (co : Nat) : Value := .agg #[.string c.name, .slice sg c.gates.length cg, .slice so c.outs.length co]
/-- its lists. -/
structure CirAt (W : World) (c : Net) (sg so : Option Addr) : Prop where
  gates : CellsAt W sg (gas c.gates)
  outs : CellsAt W so (nu c.outs)
theorem CirAt.below {w W : World} {c : Net} {sg so : Option Addr} (h : CirAt w c sg so) (hb : Below w.heap.size w W) : CirAt W c sg so := ⟨h.gates.below hb, h.outs.below hb⟩


/-- a row in the making since w. -/
structure Mk (w W : World) (e size : Nat) (v : Value) (n : Nat) (xs : List Value) : Prop where
  own : W.ownsRow w.heap.size e size v n xs
  below : Below w.heap.size w W
theorem Mk.on {w W W' : World} {e size n : Nat} {v : Value} {xs : List Value} (h : Mk w W e size v n xs) (hb : Below W.heap.size W W') : Mk w W' e size v n xs := ⟨ownsRow_below h.own hb, h.below.trans (hb.mono h.below.size)⟩
theorem Mk.grow {w W W' : World} {e size n n' : Nat} {v v' : Value} {xs xs' : List Value} (h : Mk w W e size v n xs) (ho : W'.ownsRow w.heap.size e size v' n' xs') (hg : W.grownBy W' v.ownBlock) : Mk w W' e size v' n' xs' := ⟨ho, h.below.grown hg h.below.size (fun j hj => (h.own.lt j hj).1)⟩
/-- append of one to a row in the making. -/
theorem mk_app {ops : Array Oper} {rest : List Oper} {o : Oper} {a : Act} {Q : Exit → Act → World → Prop} {w W : World} {v : Value} {e size n : Nat} {xs : List Value} (hgd : o.guard = none) (sl y : Operand) (t : TypeId) (z : Value) (bytes : Nat)
    (ho : o.op = .call { callee := .builtin .append, args := #[sl, y], argTypes := #[t, t] }) (hu : Tryd.prog.underlying t = some (.slice e)) (hinf : (Tryd.prog.info? e).map (fun i => (i.zero, i.size, i.bytes)) = some (some z, size, bytes)) (hzs : z.cells.size = size) (hsz : 0 < size)
    (h : Mk w W e size v n xs) (news : List Value) (u : TypeId) (ad : Nat) (had : ad = W.heap.size) (hs : a.eval sl = v) (hx : a.eval y = .slice (some ⟨ad, 0, none⟩) 1 1) (hl : news.length = size) (h1 : ∀ u ∈ news, u.oneCell' = true) (hn : n ≤ 140737488351232) (hby : (n + 1) * bytes ≤ 140737488351233)
    (hK : ∀ sx cx w', (W.alloc (.cells news.toArray u)).grownBy w' v.ownBlock → Mk w w' e size (.slice sx (n + 1) cx) (n + 1) (xs ++ news) → wpList Tryd.prog ops Q rest (a.put o.dst (.slice sx (n + 1) cx)) w') :
    wpList Tryd.prog ops Q (o :: rest) a (W.alloc (.cells news.toArray u)) := by
  subst had
  have h2 := h.on ((Below.refl _ _).alloc (Nat.le_refl _) (Obj.cells news.toArray u))
  refine app_one hgd sl y t e z size bytes ho hu hinf hzs hsz w.heap.size n v xs news ⟨W.heap.size, 0, none⟩ hs h2.own hx hl (fun j u hu => by rw [add_zero_addr, cell_row (heap_alloc_new W _)]; simpa using hu) h1 hn hby h2.below.size ?_
  intro v4 w4 o4 g4
  obtain ⟨sx, cx, rfl⟩ := own_shape o4
  exact hK sx cx w4 g4 (h2.grow o4 g4)
end Go.Proofs.YtfmmmhcpdinhgaaDoor
/-
  Circuits: lines in another order; lines that bear on nothing.
-/
namespace PureNet
set_option maxRecDepth 100000


theorem leans_lt {l : List Ga} {i j : Nat} (h : Leans l i j) : i < l.length := by
  obtain ⟨g, hg, _⟩ := h
  exact (List.getElem?_eq_some_iff.1 hg).1
theorem way_lt {l : List Ga} {i j : Nat} (h : Way l i j) : i < l.length := by
  cases h using PureNet.Way.cas with
  | one h => exact leans_lt h
  | more h _ => exact leans_lt h


end PureNet
/-
  The law's small calls: within, number, count, truths, fit.
-/
namespace Go.Proofs.YtfmmmhcpdinhgaaDoor
open Go.RowKit Go.Deep PureNet
set_option maxRecDepth 100000

/-- a string of these bytes. -/
abbrev str (l : List UInt8) : Value := .string ⟨l.toArray⟩




end Go.Proofs.YtfmmmhcpdinhgaaDoor
/-
  The program's table of kinds in memory.
-/
namespace Go.Proofs.YtfmmmhcpdinhgaaDoor
open Go.RowKit Go.Deep PureNet
set_option maxRecDepth 100000

def usesN (k : Nat) : Nat := if k = 2 then 2 else if k = 3 then 1 else if k = 4 then 3 else 0
def mostN (k : Nat) : Int := if k = 2 then 15 else if k = 3 then 1 else 0
/-- the table of kinds, in memory. -/
structure KindsAt (W : World) : Prop where
  pos : 0 < W.heap.size
  op : ∀ k : Nat, 1 ≤ k → k ≤ 4 → W.cell? ⟨0, k * 3 + 1, none⟩ = some (.int .i64 (mostN k))
  uses : ∀ k : Nat, 1 ≤ k → k ≤ 4 → W.cell? ⟨0, k * 3 + 2, none⟩ = some (.int .i64 (usesN k : Int))
theorem KindsAt.below {B : Nat} {w W : World} (h : KindsAt w) (hb : Below B w W) (hB : 0 < B) : KindsAt W :=
  ⟨Nat.lt_of_lt_of_le h.pos hb.size, fun k h1 h2 => (hb.cell (p := ⟨0, k * 3 + 1, none⟩) hB).trans (h.op k h1 h2), fun k h1 h2 => (hb.cell (p := ⟨0, k * 3 + 2, none⟩) hB).trans (h.uses k h1 h2)⟩
theorem KindsAt.on {w W : World} (h : KindsAt w) (hb : Below w.heap.size w W) : KindsAt W := h.below hb h.pos

end Go.Proofs.YtfmmmhcpdinhgaaDoor
/-
  CircuitMeans, CircuitBlind: what comes in.
-/
namespace Go.Proofs.YtfmmmhcpdinhgaaDoor
open Go.ChangeShapes Go.WideShapes Go.ChangeAt Go.RowKit Go.Deep PureNet
set_option maxRecDepth 100000

theorem own : ownKnob Tryd.prog.godebug = none := by kernel_rfl
theorem laidOut : laidOutB Tryd.prog = true := by kernel_rfl
theorem cells3 : Tryd.prog.cellsOf 3 = 1 := by kernel_rfl
theorem cells_of {W : World} {a : Addr} {xs : List Value} (h : ∀ (k : Nat) (x : Value), xs[k]? = some x → W.cell? (a.add k) = some x) : CellsAt W (some a) xs := ⟨fun k x hx => by
  have hc := h k x hx
  have h0 : 0 < xs.length := by
    have := (List.getElem?_eq_some_iff.1 hx).1
    omega
  have hs := World.cell?_spot (h 0 _ (List.getElem?_eq_getElem h0))
  obtain ⟨b, off, spot⟩ := a
  obtain rfl : spot = none := by simpa [Addr.add] using hs
  rw [add_plain] at hc
  exact ⟨b, off, rfl, World.block_lt_of_cell? W _ hc, hc⟩⟩

section
variable {H : Type} {enc : TypeId × Value → H} {W : World} {spare : Nat → Bool} {held : Bool}



end
end Go.Proofs.YtfmmmhcpdinhgaaDoor
/-
  The table of kinds off what a row lists.
-/
namespace Go.Proofs.YtfmmmhcpdinhgaaDoor
open Go.ChangeShapes Go.WideShapes Go.ChangeAt Go.RowKit Go.Deep PureNet
set_option maxRecDepth 100000

theorem cells137 : Tryd.prog.cellsOf 137 = 3 := by kernel_rfl
theorem cells138 : Tryd.prog.cellsOf 138 = 15 := by kernel_rfl
theorem cells9 : Tryd.prog.cellsOf 9 = 1 := by kernel_rfl
/-- a number of a line of the table. -/
theorem kind_cells {W : World} {fuel : Nat} {cs : List Value} {s : List UInt8} {a b : Int} {y : DataW Unit × List MemPlace} (h : DataW.trod (fun _ => ()) Tryd.prog W 0 (fun _ => true) false fuel 137 cs = some y) (hy : y.1 = .agg [.lit (.string s), .lit (.int .i64 a), .lit (.int .i64 b)]) :
    cs[1]? = some (.int .i64 a) ∧ cs[2]? = some (.int .i64 b) := by
  obtain ⟨xs, m, e1, e2, hl, hxs, hall⟩ := DataW.trod_struct Tryd.underlying137 h
  have hl3 : cs.length = 3 := by rw [hl]; exact cells137
  match cs, hl3 with
  | [v0, v1, v2], _ =>
  have f1 := hall 1 _ rfl
  have f2 := hall 2 _ rfl
  simp [cells3] at f1 f2
  have hx3 : xs.length = 3 := by simpa using hxs
  rw [List.getElem?_eq_getElem (by omega)] at f1 f2
  obtain ⟨n1, g1, d1, _⟩ := DataW.trod_int Tryd.underlying3 f1
  obtain ⟨n2, g2, d2, _⟩ := DataW.trod_int Tryd.underlying3 f2
  rw [e2] at hy
  simp only [DataW.agg.injEq] at hy
  match xs, hx3 with
  | [x0, x1, x2], _ =>
  simp at hy d1 d2 g1 g2
  obtain ⟨_, hy1, hy2⟩ := hy
  rw [d1] at hy1
  rw [d2] at hy2
  simp at hy1 hy2
  subst hy1 hy2
  simp [g1, g2]
end Go.Proofs.YtfmmmhcpdinhgaaDoor
/-
  A circuit that came in, within the bound.
-/
namespace Go.Proofs.YtfmmmhcpdinhgaaDoor
open Go.ChangeShapes Go.WideShapes Go.ChangeAt Go.RowKit Go.Deep PureNet
set_option maxRecDepth 100000

theorem cells38 : Tryd.prog.cellsOf 38 = 6 := by kernel_rfl
theorem cells24 : Tryd.prog.cellsOf 24 = 1 := by kernel_rfl
theorem cells22 : Tryd.prog.cellsOf 22 = 1 := by kernel_rfl
theorem cells26 : Tryd.prog.cellsOf 26 = 3 := by kernel_rfl
theorem bulk_one {H : Type} (d : DataW H) : 1 ≤ Rows.uptoBulk d := by
  cases d with
  | lit l => cases l <;> simp [Rows.uptoBulk]
  | nil => simp [Rows.uptoBulk]
  | ptr d => simp [Rows.uptoBulk]
  | slice elems spare => simp [Rows.uptoBulk]
  | agg parts => simp [Rows.uptoBulk]
  | iface t d => simp [Rows.uptoBulk]
  | map entries => simp [Rows.uptoBulk]
  | held h => simp [Rows.uptoBulk]
theorem bulk_part {H : Type} {d : DataW H} {l : List (DataW H)} (h : d ∈ l) : Rows.uptoBulk d ≤ Rows.uptoBulkAll l := by
  induction l with
  | nil => cases h
  | cons x r ih =>
    simp only [Rows.uptoBulkAll]
    cases List.mem_cons.1 h with
    | inl e => subst e; omega
    | inr e => have := ih e; omega
theorem bulk_length {H : Type} (l : List (DataW H)) : l.length ≤ Rows.uptoBulkAll l := by
  induction l with
  | nil => simp [Rows.uptoBulkAll]
  | cons x r ih => have := bulk_one x; simp only [Rows.uptoBulkAll, List.length_cons]; omega

section
variable {H : Type} {enc : TypeId × Value → H} {W : World} {spare : Nat → Bool} {held : Bool}

/-- a line. -/
theorem open_line {n : Nat} {a : Addr} {cs : List Value} {x : DataW H × List MemPlace} (h1 : W.cells? 0 a 6 = some cs) (h2 : DataW.trod enc Tryd.prog W 0 spare held n 38 cs = some x) :
    ∃ g : Ga, (∀ j u, (ga g)[j]? = some u → W.cell? (a.add j) = some u) ∧ g.name.size ≤ Rows.uptoBulk x.1 := by
  obtain ⟨xs, k, rfl, rfl, hl, hxs, hf⟩ := DataW.trod_struct Tryd.underlying38 h2
  have hm : (List.range 6).mapM (fun i => W.cell? (a.add i)) = some cs := by
    simpa [World.cells?] using h1
  have g : ∀ i, i < 6 → W.cell? (a.add i) = cs[i]? := fun i hi => mapM_some_get hm i i (by simp [hi])
  rw [cells38] at hl
  match cs, hl with
  | [v0, v1, v2, v3, v4, v5], _ =>
  have f0 := hf 0 _ rfl
  have f1 := hf 1 _ rfl
  have f2 := hf 2 _ rfl
  have f3 := hf 3 _ rfl
  have f4 := hf 4 _ rfl
  have f5 := hf 5 _ rfl
  simp [cells3, cells9] at f0 f1 f2 f3 f4 f5
  have hx6 : xs.length = 6 := by simpa using hxs
  rw [List.getElem?_eq_getElem (by omega)] at f0 f1 f2 f3 f4 f5
  obtain ⟨n0, e0, _, _⟩ := DataW.trod_int Tryd.underlying3 f0
  obtain ⟨s1, e1, q1, _⟩ := DataW.trod_string Tryd.underlying9 f1
  obtain ⟨n2, e2, _, _⟩ := DataW.trod_int Tryd.underlying3 f2
  obtain ⟨n3, e3, _, _⟩ := DataW.trod_int Tryd.underlying3 f3
  obtain ⟨n4, e4, _, _⟩ := DataW.trod_int Tryd.underlying3 f4
  obtain ⟨n5, e5, _, _⟩ := DataW.trod_int Tryd.underlying3 f5
  simp at e0 e1 e2 e3 e4 e5
  subst e0
  subst e1
  subst e2
  subst e3
  subst e4
  subst e5
  refine ⟨⟨n0, s1, n2, n3, n4, n5⟩, fun j u hu => ?_, ?_⟩
  · have hj : j < 6 := (List.getElem?_eq_some_iff.1 hu).1
    rw [g j hj]
    exact hu
  · simp only [Rows.uptoBulk]
    have h3 := bulk_part (H := H) (d := (xs[1]'(by omega)).1) (l := xs.map (·.1)) (List.mem_map.2 ⟨_, List.getElem_mem _, rfl⟩)
    have h4 : s1.size ≤ Rows.uptoBulk (xs[1]'(by omega)).1 := by
      rw [q1]
      simp [Rows.uptoBulk]
    omega

/-- lines. -/
theorem open_gates {fuel : Nat} {v : Value} {x : DataW H × List MemPlace} (hv : ∃ a n c, v = .slice a n c) (hf : DataW.trod enc Tryd.prog W 0 spare held fuel 24 [v] = some x) (hk : Rows.uptoBulk x.1 ≤ 1048576) :
    ∃ (sa : Option Addr) (ca : Nat) (l : List Ga), v = .slice sa l.length ca ∧ CellsAt W sa (gas l) ∧ (sa = none → ca = 0) ∧ l.length ≤ 1048576 ∧ ∀ g ∈ l, g.name.size ≤ 1048576 := by
  obtain ⟨a0, len, cap, rfl⟩ := hv
  rcases open_slice Tryd.underlying24 hf with ⟨hcs, hx⟩ | ⟨a, len', cap', m, n, D, Pl, hcs, _, hl, hm, hmm, hx, hall⟩
  · simp at hcs
    obtain ⟨rfl, rfl, rfl⟩ := hcs
    exact ⟨none, 0, [], rfl, CellsAt.nil _ _, fun _ => rfl, Nat.zero_le _, fun g hg => by cases hg⟩
  · simp at hcs
    obtain ⟨rfl, rfl, rfl⟩ := hcs
    rw [cells38] at hx hall
    subst hx
    have hlm : len ≤ m := by rw [hmm]; split <;> omega
    have hb1 : Rows.uptoBulkAll ((List.range len).map D) ≤ 1048576 := by
      simp only [Rows.uptoBulk] at hk
      omega
    have hlen2 := bulk_length ((List.range len).map D)
    simp only [List.length_map, List.length_range] at hlen2
    have each : ∀ i, i < len → ∃ g : Ga, (∀ j u, (ga g)[j]? = some u → W.cell? ((a.add (i * 6)).add j) = some u) ∧ g.name.size ≤ 1048576 := fun i hi => by
      obtain ⟨cs', h1, h2⟩ := hall i (by omega)
      obtain ⟨g, c0, hmb⟩ := open_line h1 h2
      have h3 := bulk_part (H := H) (d := D i) (l := (List.range len).map D) (List.mem_map.2 ⟨i, List.mem_range.2 hi, rfl⟩)
      exact ⟨g, c0, by simp only at hmb; omega⟩
    haveI : Inhabited Ga := ⟨⟨0, ⟨#[]⟩, 0, 0, 0, 0⟩⟩
    obtain ⟨f, hf⟩ := choose_lt each
    have hlen : ((List.range len).map f).length = len := by simp
    refine ⟨some a, cap, (List.range len).map f, by rw [hlen], cells_of fun k u hu => ?_, (fun e => by cases e), by rw [hlen]; omega, fun g hg => ?_⟩
    · have hk6 := (List.getElem?_eq_some_iff.1 hu).1
      rw [gas_length, hlen] at hk6
      have h := gas_at ((List.range len).map f) (k / 6) (k % 6) (by rw [hlen]; omega) (by omega)
      rw [show k / 6 * 6 + k % 6 = k by omega, hu] at h
      have h2 := (hf (k / 6) (by omega)).1 (k % 6) u (by rw [h]; simp)
      have e : (a.add (k / 6 * 6)).add (k % 6) = a.add k := by
        obtain ⟨b, off, spot⟩ := a
        unfold Addr.add
        by_cases h8 : k / 6 * 6 = 0
        · rw [if_pos h8]
          by_cases h9 : k % 6 = 0
          · rw [if_pos h9, if_pos (by omega)]
          · rw [if_neg h9, if_neg (by omega)]
            congr 1
            omega
        · rw [if_neg h8]
          by_cases h9 : k % 6 = 0
          · rw [if_pos h9, if_neg (by omega)]
            simp only [Addr.mk.injEq, and_true, true_and]
            omega
          · rw [if_neg h9, if_neg (by omega)]
            simp only [Addr.mk.injEq, and_true, true_and]
            omega
      rw [e] at h2
      exact h2
    · obtain ⟨i, hi, rfl⟩ := List.mem_map.1 hg
      exact (hf i (List.mem_range.1 hi)).2

/-- places. -/
theorem open_outs {fuel : Nat} {v : Value} {x : DataW H × List MemPlace} (hf : DataW.trod enc Tryd.prog W 0 spare held fuel 22 [v] = some x) (hk : Rows.uptoBulk x.1 ≤ 1048576) :
    ∃ (sa : Option Addr) (ca : Nat) (l : List Int), v = .slice sa l.length ca ∧ CellsAt W sa (nu l) ∧ (sa = none → ca = 0) ∧ l.length ≤ 1048576 := by
  rcases open_ints Tryd.underlying22 Tryd.underlying3 cells3 hf with ⟨hcs, hx⟩ | ⟨a, len, cap, zs, hcs, _, hl, hm, hz, hx, hcell, hwz⟩
  · simp at hcs
    subst hcs
    exact ⟨none, 0, [], rfl, CellsAt.nil _ _, fun _ => rfl, Nat.zero_le _⟩
  · simp at hcs
    subst hcs
    subst hx
    have hlz : len ≤ zs.length := by rw [hz]; split <;> omega
    have hlen : (zs.take len).length = len := by simp [hlz]
    refine ⟨some a, cap, zs.take len, by rw [hlen], cells_of fun k x hkx => ?_, (fun e => by cases e), ?_⟩
    · have hk : k < len := by
        have := (List.getElem?_eq_some_iff.1 hkx).1
        simpa [nu, hlz] using this
      have h1 := hcell k (by omega)
      rw [h1, ← hkx]
      simp [nu, hk, List.getD, List.getElem?_eq_getElem (show k < zs.length by omega)]
    · rw [hlen]
      simp only [Rows.uptoBulk] at hk
      have h1 := bulk_length (H := H) (lits .i64 (zs.take len))
      simp only [lits, List.length_map] at h1
      simp only [lits] at hk
      omega

/-- a circuit. -/
theorem open_cir {v : Value} {d : DataW H} {ps : List MemPlace} {base : Nat} (hval : Value.okWide Tryd.prog W .any base 26 v) (h : DataW.Trod enc Tryd.prog W 0 spare held 26 v d ps) (hk : Rows.uptoBulk d ≤ 1048576) :
    ∃ (c : Net) (sg so : Option Addr) (cg co : Nat), v = cirV c sg cg so co ∧ CirAt W c sg so ∧ (sg = none → cg = 0) ∧ (so = none → co = 0) ∧ c.name.size ≤ 1048576 ∧ (∀ g ∈ c.gates, g.name.size ≤ 1048576) ∧ c.gates.length ≤ 1048576 ∧ c.outs.length ≤ 1048576 := by
  obtain ⟨cs, rfl, hcs⟩ := okWide_struct Tryd.underlying26 hval
  obtain ⟨fuel, hf⟩ := h
  obtain ⟨xs, k, rfl, hx, hl, hxs, hall⟩ := DataW.trod_struct Tryd.underlying26 hf
  rw [cells26] at hcs
  obtain ⟨v0, v1, v2, rfl⟩ : ∃ v0 v1 v2, cs = #[v0, v1, v2] := by
    obtain ⟨l⟩ := cs
    match l, hcs with
    | [v0, v1, v2], _ => exact ⟨v0, v1, v2, rfl⟩
  have f0 := hall 0 _ rfl
  have f1 := hall 1 _ rfl
  have f2 := hall 2 _ rfl
  simp [Value.cells, cells9, cells24, cells22] at f0 f1 f2
  have hx3 : xs.length = 3 := by simpa using hxs
  rw [List.getElem?_eq_getElem (by omega)] at f0 f1 f2
  obtain ⟨rfl, -⟩ := Prod.mk.inj hx
  simp only [Rows.uptoBulk] at hk
  have b0 := bulk_part (H := H) (d := (xs[0]'(by omega)).1) (l := xs.map (·.1)) (List.mem_map.2 ⟨_, List.getElem_mem _, rfl⟩)
  have b1 := bulk_part (H := H) (d := (xs[1]'(by omega)).1) (l := xs.map (·.1)) (List.mem_map.2 ⟨_, List.getElem_mem _, rfl⟩)
  have b2 := bulk_part (H := H) (d := (xs[2]'(by omega)).1) (l := xs.map (·.1)) (List.mem_map.2 ⟨_, List.getElem_mem _, rfl⟩)
  obtain ⟨s0, e0, q0, _⟩ := DataW.trod_string Tryd.underlying9 f0
  have h0 : s0.size ≤ Rows.uptoBulk (xs[0]'(by omega)).1 := by
    rw [q0]
    simp [Rows.uptoBulk]
  have hv1 : ∃ a n c, v1 = .slice a n c := by
    rcases open_slice Tryd.underlying24 f1 with ⟨hcs, _⟩ | ⟨a, len', cap', m, n, D, Pl, hcs, _⟩
    · simp at hcs; exact ⟨_, _, _, hcs⟩
    · simp at hcs; exact ⟨_, _, _, hcs⟩
  obtain ⟨sg, cg, l, e1, hg, hng, hgl, hgn⟩ := open_gates hv1 f1 (by omega)
  obtain ⟨so, co, o, e2, ho, hno, hol⟩ := open_outs f2 (by omega)
  simp at e0
  subst e0
  subst e1
  subst e2
  exact ⟨⟨s0, l, o⟩, sg, so, cg, co, rfl, ⟨hg, ho⟩, hng, hno, by show s0.size ≤ 1048576; omega, hgn, hgl, hol⟩
end
end Go.Proofs.YtfmmmhcpdinhgaaDoor
/-
  The words of a line: the document's.
-/
namespace Go.Proofs.YtfmmmhcpdinhgaaDoor
open Go.RowKit Go.Deep PureNet
set_option maxRecDepth 100000

/-- a table of sixteen words, in memory. -/
structure OpsAt (W : World) (b : Nat) (T : Nat → ByteArray) : Prop where
  pos : b < W.heap.size
  word : ∀ k : Nat, k < 16 → W.cell? ⟨b, k, none⟩ = some (.string (T k))
theorem OpsAt.on {w W : World} {b : Nat} {T : Nat → ByteArray} (h : OpsAt w b T) (hb : Below w.heap.size w W) : OpsAt W b T := ⟨Nat.lt_of_lt_of_le h.pos hb.size, fun k hk => (hb.cell (p := ⟨b, k, none⟩) h.pos).trans (h.word k hk)⟩
/-- a line's name. -/
def nmAt (c : Net) (k : Int) : ByteArray := ((c.gates[k.toNat]?).map Ga.name).getD ⟨#[]⟩
/-- a line's words. -/
def wordsT (T : Nat → ByteArray) (c : Net) (g : Ga) : ByteArray :=
  if g.kind = 2 then ⟨#[103, 97, 116, 101, 32]⟩ ++ g.name ++ ⟨#[32]⟩ ++ T g.op.toNat ++ ⟨#[32]⟩ ++ nmAt c g.a ++ ⟨#[32]⟩ ++ nmAt c g.b
  else if g.kind = 3 then ⟨#[108, 97, 116, 99, 104, 32]⟩ ++ g.name ++ (if g.op = 1 then ⟨#[32, 49, 32]⟩ else ⟨#[32, 48, 32]⟩) ++ nmAt c g.a
  else if g.kind = 4 then ⟨#[109, 117, 120, 32]⟩ ++ g.name ++ ⟨#[32]⟩ ++ nmAt c g.a ++ ⟨#[32]⟩ ++ nmAt c g.b ++ ⟨#[32]⟩ ++ nmAt c g.c
  else ⟨#[105, 110, 112, 117, 116, 32]⟩ ++ g.name
theorem nm_at {W : World} {c : Net} {sg : Option Addr} (h : CellsAt W sg (gas c.gates)) (k : Int) (h0 : 0 ≤ k) (h1 : k < (c.gates.length : Int)) : ∃ (n b o : Nat), k = (n : Int) ∧ n < c.gates.length ∧ sg = some ⟨b, o, none⟩ ∧ b < W.heap.size ∧ W.cell? ⟨b, o + n * 6 + 1, none⟩ = some (.string (nmAt c k)) := by
  obtain ⟨n, rfl⟩ := Int.eq_ofNat_of_zero_le h0
  obtain ⟨g, hg⟩ : ∃ g, c.gates[n]? = some g := ⟨_, List.getElem?_eq_getElem (by omega)⟩
  obtain ⟨b, o, e, hb, _, hn, _⟩ := gate_at h n g hg
  refine ⟨n, b, o, rfl, by omega, e, hb, ?_⟩
  rw [hn]
  simp [nmAt, hg]

theorem below_dn {B : Nat} {w x : World} (h : Below B w x) (n : Nat) : Below B w (x.drewN n) := ⟨h.os, h.tape, h.output, h.size, fun k hk => h.block k hk⟩
set_option maxHeartbeats 4000000 in
theorem rwords_any (T : Nat → ByteArray) (c : Net) (sg so : Option Addr) (cg co : Nat) (g : Ga) (w : World) (hc : CirAt w c sg so) (ht : OpsAt w 2 T) (hnm : g.name.size ≤ 140737488351232) (hna : ∀ k, (nmAt c k).size ≤ 140737488351232) (hop : ∀ k, (T k).size ≤ 140737488351232)
    (h2 : g.kind = 2 → 0 ≤ g.op ∧ g.op < 16) (ha : g.kind = 2 ∨ g.kind = 3 ∨ g.kind = 4 → 0 ≤ g.a ∧ g.a < (c.gates.length : Int)) (hb : g.kind = 2 ∨ g.kind = 4 → 0 ≤ g.b ∧ g.b < (c.gates.length : Int)) (hcc : g.kind = 4 → 0 ≤ g.c ∧ g.c < (c.gates.length : Int)) :
    Calls Tryd.prog 82 #[cirV c sg cg so co, .agg (#[Value.int .i64 g.kind, Value.string g.name, Value.int .i64 g.op, Value.int .i64 g.a, Value.int .i64 g.b, Value.int .i64 g.c] : Array Value)] w fun e w' => e = .returned (.string (wordsT T c g)) ∧ Below w.heap.size w w' := by
  obtain ⟨x, hx⟩ : ∃ x, x = (w.alloc (Obj.cells (#[Value.string c.name, Value.slice sg c.gates.length cg, Value.slice so c.outs.length co] : Array Value) 26)).alloc (Obj.cells (#[Value.int .i64 g.kind, Value.string g.name, Value.int .i64 g.op, Value.int .i64 g.a, Value.int .i64 g.b, Value.int .i64 g.c] : Array Value) 38) := ⟨_, rfl⟩
  have s1 : (w.alloc (Obj.cells (#[Value.string c.name, Value.slice sg c.gates.length cg, Value.slice so c.outs.length co] : Array Value) 26)).heap.size = w.heap.size + 1 := by simp
  have R1 : x.heap[w.heap.size]? = some (.cells (#[Value.string c.name, Value.slice sg c.gates.length cg, Value.slice so c.outs.length co] : Array Value) 26 (0, 0)) := by rw [hx, Below.heap_alloc _ _ _ (by omega)]; exact heap_alloc_new w _
  have R2 : x.heap[w.heap.size + 1]? = some (.cells (#[Value.int .i64 g.kind, Value.string g.name, Value.int .i64 g.op, Value.int .i64 g.a, Value.int .i64 g.b, Value.int .i64 g.c] : Array Value) 38 (0, 0)) := by rw [hx, ← s1]; exact heap_alloc_new _ _
  have BX : Hid (Below w.heap.size w x) := by rw [hx]; exact ((Below.refl _ _).alloc (Nat.le_refl _) _).alloc (by omega) _
  have d1 := fun j => cell_row R1 j
  have d2 := fun j => cell_row R2 j
  have hb1 := (Array.getElem?_eq_some_iff.1 R1).1
  have hb2 := (Array.getElem?_eq_some_iff.1 R2).1
  have HC := hid (hc.below BX.out)
  have HT := hid (ht.on BX.out)
  have HX := hid hx
  clear hx s1 R1 R2 hc ht
  obtain ⟨kd, nm, op, ga, gb, gc⟩ := g
  dsimp only at h2 ha hb hcc d2 HX hnm ⊢
  have NA := hid hna
  clear hna
  by_cases k2 : kd = 2
  · subst k2
    obtain ⟨na, b, o, rfl, la, rfl, hbb, ca⟩ := nm_at HC.out.gates ga (ha (.inl rfl)).1 (ha (.inl rfl)).2
    obtain ⟨nb, b', o', rfl, lb, e, _, cb⟩ := nm_at HC.out.gates gb (hb (.inl rfl)).1 (hb (.inl rfl)).2
    cases e
    obtain ⟨no, rfl⟩ := Int.eq_ofNat_of_zero_le (h2 rfl).1
    have lo : no < 16 := by have := (h2 rfl).2; omega
    have cw := HT.out.word no lo
    have hp2 := HT.out.pos
    have zo := hop no
    have za := NA.out (na : Int)
    have zb := NA.out (nb : Int)
    clear h2 ha hb hcc HT HC hop NA
    go_enter Tryd.func82, Tryd.ntmps82
    go_wp2_with (rw [← HX.out])
    go_quiet (fail)
    go_wp2
    go_ret
    exact ⟨rfl, below_dn BX.out _⟩
  by_cases k3 : kd = 3
  · subst k3
    obtain ⟨na, b, o, rfl, la, rfl, hbb, ca⟩ := nm_at HC.out.gates ga (ha (.inr (.inl rfl))).1 (ha (.inr (.inl rfl))).2
    have za := NA.out (na : Int)
    clear h2 ha hb hcc HT HC hop NA k2
    by_cases h1 : op = 1
    · subst h1
      go_enter Tryd.func82, Tryd.ntmps82
      go_wp2_with (rw [← HX.out])
      go_quiet (fail)
      go_wp2
      go_ret
      exact ⟨rfl, below_dn BX.out _⟩
    · have HW : Hid (wordsT T c ⟨3, nm, op, (na : Int), gb, gc⟩ = ⟨#[108, 97, 116, 99, 104, 32]⟩ ++ nm ++ ⟨#[32, 48, 32]⟩ ++ nmAt c (na : Int)) := by
        show _ = _
        unfold wordsT
        simp [h1]
      go_enter Tryd.func82, Tryd.ntmps82
      go_wp2_with (rw [← HX.out])
      go_quiet (fail)
      go_wp2
      go_ret
      exact ⟨by rw [HW.out]; rfl, below_dn BX.out _⟩
  by_cases k4 : kd = 4
  · subst k4
    obtain ⟨na, b, o, rfl, la, rfl, hbb, ca⟩ := nm_at HC.out.gates ga (ha (.inr (.inr rfl))).1 (ha (.inr (.inr rfl))).2
    obtain ⟨nb, b', o', rfl, lb, e, _, cb⟩ := nm_at HC.out.gates gb (hb (.inr rfl)).1 (hb (.inr rfl)).2
    cases e
    obtain ⟨nc, b', o', rfl, lc, e, _, cc⟩ := nm_at HC.out.gates gc (hcc rfl).1 (hcc rfl).2
    cases e
    have za := NA.out (na : Int)
    have zb := NA.out (nb : Int)
    have zc := NA.out (nc : Int)
    clear h2 ha hb hcc HT HC hop NA k2 k3
    go_enter Tryd.func82, Tryd.ntmps82
    go_wp2_with (rw [← HX.out])
    go_quiet (fail)
    go_wp2
    go_ret
    exact ⟨rfl, below_dn BX.out _⟩
  · have HW : Hid (wordsT T c ⟨kd, nm, op, ga, gb, gc⟩ = ⟨#[105, 110, 112, 117, 116, 32]⟩ ++ nm) := by
      show _ = _
      unfold wordsT
      simp [k2, k3, k4]
    clear h2 ha hb hcc HT HC hop NA
    go_enter Tryd.func82, Tryd.ntmps82
    go_wp2_with (rw [← HX.out])
    go_ret
    exact ⟨by rw [HW.out]; rfl, BX.out⟩
end Go.Proofs.YtfmmmhcpdinhgaaDoor
/-
  Bytes that a call owns: appends, and their text.
-/
namespace Go.Proofs.YtfmmmhcpdinhgaaDoor
open Go.RowKit Go.Deep PureNet
set_option maxRecDepth 100000

theorem info5 : (Tryd.prog.info? 5).map (fun i => (i.zero, i.size, i.bytes)) = some (some (.int .u8 0), 1, 1) := by kernel_rfl










end Go.Proofs.YtfmmmhcpdinhgaaDoor
/-
  strings.Builder a block of its own: copyCheck, WriteString, String.
-/
namespace Go.Proofs.YtfmmmhcpdinhgaaDoor
open Go.RowKit Go.Deep PureNet
set_option maxRecDepth 100000

theorem mixedD : Tryd.prog.follows Departure.mixedOrders = true := by kernel_rfl
theorem size106 : (Tryd.prog.info? 106).map (·.size) = some 2 := by kernel_rfl
theorem lies106 : liesAt Tryd.prog Tryd.prog.depth 106 (2 / Tryd.prog.cellsOf 106) 0 106 1 = true := by kernel_rfl
theorem cells5 : Tryd.prog.cellsOf 5 = 1 := by kernel_rfl

/-- a text in the making: the writer's box at b, its bytes from B on. -/
abbrev Wr (B b : Nat) (p : Value) (T : List UInt8) (w : World) : Prop := Lib.BuilderAtF 106 5 B b p (Lib.byteCells T) w

set_option maxHeartbeats 1000000 in
theorem check_fresh (b : Nat) (w : World) (h0 : w.cell? ⟨b, 0, none⟩ = some (.pointer none)) (hsh : w.shape? b = some (106, 2)) (hfz : w.frozen? ⟨b, 0, none⟩ = false) :
    Calls Tryd.prog 114 #[.pointer (some ⟨b, 0, none⟩)] w fun e w' => e = .returned (.tuple #[]) ∧ w' = w.setCell ⟨b, 0, none⟩ (.pointer (some ⟨b, 0, none⟩)) := by
  obtain ⟨j, hj, hjs⟩ := Option.map_eq_some_iff.1 size106
  go_enter Tryd.func114, Tryd.ntmps114
  go_wp2
  rw [Lib.run_to_unsafe w ⟨b, 0, none⟩ Tryd.underlying104 Tryd.underlying151 hj (by rw [hjs]; decide) hsh (Nat.zero_lt_succ 1)]
  simp only [Result.andThen]
  rw [Oper.upon_value]
  go_wp2
  rw [run_callFunc_extern Tryd.func117 (by kernel_rfl) (by kernel_rfl) (by kernel_rfl) (e := Extern.AbiNoEscape.same) (by kernel_rfl)]
  rw [Lib.run_noEscape]
  simp only [Result.andThen]
  rw [Oper.upon_value]
  go_wp2
  rw [Lib.run_from_unsafe w ⟨b, 0, none⟩ Tryd.underlying151 Tryd.underlying104 hj hsh lies106]
  simp only [Result.andThen]
  rw [Oper.upon_value]
  go_wp2
  go_end0
  exact ⟨rfl, rfl⟩

set_option maxHeartbeats 1000000 in
theorem check_used (b : Nat) (w : World) (h0 : w.cell? ⟨b, 0, none⟩ = some (.pointer (some ⟨b, 0, none⟩))) :
    Calls Tryd.prog 114 #[.pointer (some ⟨b, 0, none⟩)] w fun e w' => e = .returned (.tuple #[]) ∧ w' = w := by
  obtain ⟨j, hj, _⟩ := Option.map_eq_some_iff.1 size106
  go_enter Tryd.func114, Tryd.ntmps114
  go_wp2
  rw [Lib.run_neq_ptr_same w _ Tryd.underlying104 hj]
  go_wp2
  go_end0
  exact ⟨rfl, rfl⟩
/-- either of the two states of a builder. -/
abbrev IsWr (B b : Nat) (T : List UInt8) (w : World) : Prop := Lib.IsBuilderF 106 5 B b (Lib.byteCells T) w
theorem check_any (B b : Nat) (T : List UInt8) (w : World) (h : IsWr B b T w) :
    Calls Tryd.prog 114 #[.pointer (some ⟨b, 0, none⟩)] w fun e w' => e = .returned (.tuple #[]) ∧ Wr B b (.pointer (some ⟨b, 0, none⟩)) T w' ∧ Below B w w' ∧ Lib.OthersKept 5 (some b) w w' := by
  rcases h with h | h
  · refine (check_fresh b w h.cell0 h.shape h.frozen0).mono ?_
    rintro e w' ⟨rfl, rfl⟩
    exact ⟨rfl, h.used _, (Below.refl B w).setCell (p := ⟨b, 0, none⟩) h.1 _, (Lib.OthersKept.refl _ _ w).setCell ⟨b, 0, none⟩ rfl _⟩
  · refine (check_used b w h.cell0).mono ?_
    rintro e w' ⟨rfl, rfl⟩
    exact ⟨rfl, h, Below.refl B _, Lib.OthersKept.refl _ _ _⟩

set_option maxHeartbeats 1000000 in
theorem write_any (B b : Nat) (T : List UInt8) (X : List UInt8) (w : World) (h : IsWr B b T w) (hlen : T.length + X.length ≤ 140737488355328) (hBw : B ≤ w.heap.size) :
    Calls Tryd.prog 102 #[.pointer (some ⟨b, 0, none⟩), str X] w fun e w' => (∃ y, e = .returned y) ∧ IsWr B b (T ++ X) w' ∧ Below B w w' ∧ Lib.OthersKept 5 (some b) w w' := by
  obtain ⟨i0, hi, hz0, hz1, hz2⟩ := info_parts info5
  have HC := hid (check_any B b T w h)
  clear h
  go_enter Tryd.func102, Tryd.ntmps102
  go_wp2_with (go_at_call 114; refine HC.out.mono ?_)
  rintro e w1 ⟨rfl, h1, hb1, hk1⟩
  obtain ⟨hB, v, hbk, hown, hne⟩ := h1
  have hsz1 := hb1.size
  have c0 : w1.cell? ⟨b, 0, none⟩ = some (.pointer (some ⟨b, 0, none⟩)) := by rw [Lib.cell_of_heap hbk]; rfl
  have c1 : w1.cell? ⟨b, 1, none⟩ = some v := by rw [Lib.cell_of_heap hbk]; rfl
  rw [Lib.byteCells_length] at hown
  have HOW := hid hown
  have HNE := hid hne
  have HBK := hid hbk
  have HB1 := hid hb1
  have HK1 := hid hk1
  clear hown hne hbk hb1 hk1
  go_wp2_with (at_builtin; refine Lib.wpList_append_own_stringF _ rfl _ _ 92 9 rfl B 5 i0 Tryd.underlying92 Tryd.underlying9 hi hz0 hz1 hz2 _ _ _ rfl HOW.out ⟨X.toArray⟩ rfl ?c3 ?c4 ?c5 ?_)
  case c3 => show T.length + X.toArray.size ≤ maxLen; unfold maxLen; simp; omega
  case c4 => show T.length + X.toArray.size ≤ 140737488355328; simpa using hlen
  case c5 => omega
  intro v' w2 hown' hgrow _
  have hlt : b < w1.heap.size := (Array.getElem?_eq_some_iff.1 HBK.out).1
  have hb2 : w2.heap[b]? = some (.cells #[.pointer (some ⟨b, 0, none⟩), v] 106 (0, 0)) := by
    rw [hgrow.block b hlt (fun e => HNE.out e.symm)]
    exact HBK.out
  have d0 : w2.cell? ⟨b, 0, none⟩ = some (.pointer (some ⟨b, 0, none⟩)) := by rw [Lib.cell_of_heap hb2]; rfl
  have d1 : w2.cell? ⟨b, 1, none⟩ = some v := by rw [Lib.cell_of_heap hb2]; rfl
  have f1 : w2.frozen? ⟨b, 1, none⟩ = false := Lib.frozen_of_heap hb2 1
  obtain ⟨ao, n', cap, rfl⟩ : ∃ ao n' cap, v' = .slice ao n' cap := by
    rcases hown'.2 with ⟨hv, _⟩ | ⟨g, cap, cur, fz, hv, _⟩
    · exact ⟨_, _, _, hv⟩
    · exact ⟨_, _, _, hv⟩
  have FIN : Hid (IsWr B b (T ++ X) (w2.setCell ⟨b, 1, none⟩ (.slice ao n' cap)) ∧ Below B w (w2.setCell ⟨b, 1, none⟩ (.slice ao n' cap)) ∧ Lib.OthersKept 5 (some b) w (w2.setCell ⟨b, 1, none⟩ (.slice ao n' cap))) := by
    refine ⟨.inr ?_, (HB1.out.grown hgrow (by omega) (fun k hk => (HOW.out.lt k hk).1)).setCell (p := ⟨b, 1, none⟩) hB _, (HK1.out.grown hgrow (Lib.ownsRowF_kind HOW.out)).setCell ⟨b, 1, none⟩ rfl _⟩
    have e : Lib.byteCells (T ++ X) = Lib.byteCells T ++ Lib.strCells ⟨X.toArray⟩ := by rw [Lib.byteCells_append]; rfl
    refine Lib.BuilderAtF.put (T := 106) (e := 5) hB hb2 (bs' := Lib.byteCells (T ++ X)) ?_ (by decide)
    have el : (Lib.byteCells T ++ Lib.strCells ⟨X.toArray⟩).length = T.length + (⟨X.toArray⟩ : ByteArray).size := by rw [List.length_append, Lib.byteCells_length, Lib.strCells_length]
    rw [e, el]
    exact hown'
  clear hown' hgrow hb2
  go_wp2
  go_ret2
  exact ⟨⟨_, rfl⟩, FIN.out⟩

set_option maxHeartbeats 1000000 in
theorem byte_any (B b : Nat) (T : List UInt8) (x : UInt8) (w : World) (h : IsWr B b T w) (hlen : T.length + 1 ≤ 140737488355328) (hBw : B ≤ w.heap.size) :
    Calls Tryd.prog 101 #[.pointer (some ⟨b, 0, none⟩), .int .u8 x.toNat] w fun e w' => (∃ y, e = .returned y) ∧ IsWr B b (T ++ [x]) w' ∧ Below B w w' ∧ Lib.OthersKept 5 (some b) w w' := by
  obtain ⟨i0, hi, hz0, hz1, hz2⟩ := info_parts info5
  have HC := hid (check_any B b T w h)
  clear h
  go_enter Tryd.func101, Tryd.ntmps101
  go_wp2_with (go_at_call 114; refine HC.out.mono ?_)
  rintro e w1 ⟨rfl, h1, hb1, hk1⟩
  obtain ⟨hB, v, hbk, hown, hne⟩ := h1
  have hsz1 := hb1.size
  have c0 : w1.cell? ⟨b, 0, none⟩ = some (.pointer (some ⟨b, 0, none⟩)) := by rw [Lib.cell_of_heap hbk]; rfl
  have c1 : w1.cell? ⟨b, 1, none⟩ = some v := by rw [Lib.cell_of_heap hbk]; rfl
  rw [Lib.byteCells_length] at hown
  obtain ⟨w2, hw2⟩ : ∃ w2, w2 = w1.alloc (.cells #[.int .u8 x.toNat] 5) := ⟨_, rfl⟩
  have hlt : b < w1.heap.size := (Array.getElem?_eq_some_iff.1 hbk).1
  have hg12 : w1.grownBy w2 none := by rw [hw2]; exact ⟨rfl, rfl, rfl, by simp, fun k hk _ => heap_alloc_old w1 _ hk⟩
  have hown2 : w2.ownsRowF B 5 1 v T.length (Lib.byteCells T) := hown.kept hg12 (by cases hv : v.ownBlock with
    | none => exact .inl rfl
    | some k => exact .inr (by simp))
  have hrow : w2.heap[w1.heap.size]? = some (.cells #[.int .u8 x.toNat] 5 (0, 0)) := by rw [hw2]; exact heap_alloc_new w1 _
  have hbk2 : w2.heap[b]? = some (.cells #[.pointer (some ⟨b, 0, none⟩), v] 106 (0, 0)) := (hg12.block b hlt (by simp)).trans hbk
  have hs2 : w2.heap.size = w1.heap.size + 1 := by rw [hw2]; simp
  have HW2 := hid hw2
  have HOW := hid hown2
  have HNE := hid hne
  have HBK := hid hbk2
  have HRW := hid hrow
  have HB1 : Hid (Below B w w2) := hb1.grown hg12 (by omega) (fun k hk => by cases hk)
  have HK1 : Hid (Lib.OthersKept 5 (some b) w w2) := by rw [hw2]; exact hk1.alloc _
  clear hown hown2 hne hbk hbk2 hb1 hk1 hrow hg12 hw2
  go_wp2_with (at_builtin; rw [← HW2.out]; refine wpList_append_ownF _ rfl _ _ 92 rfl B 5 i0 (.int .u8 0) 1 1 Tryd.underlying92 hi hz0 hz1 hz2 rfl (by decide) _ _ _ rfl HOW.out ⟨w1.heap.size, 0, none⟩ 1 1 [.int .u8 x.toNat] rfl rfl ?c1 ?c2 ?c3 ?c4 ?c5 ?_)
  case c1 =>
    intro j u hj
    rw [add_zero_addr, cell_row HRW.out]
    simpa using hj
  case c2 =>
    intro u hu
    simp only [List.mem_singleton] at hu
    subst hu
    rfl
  case c3 => unfold maxLen; omega
  case c4 => omega
  case c5 => omega
  intro v' w3 hown' hgrow _
  have hb2 : w3.heap[b]? = some (.cells #[.pointer (some ⟨b, 0, none⟩), v] 106 (0, 0)) := by
    rw [hgrow.block b (by omega) (fun e => HNE.out e.symm)]
    exact HBK.out
  have d0 : w3.cell? ⟨b, 0, none⟩ = some (.pointer (some ⟨b, 0, none⟩)) := by rw [Lib.cell_of_heap hb2]; rfl
  have d1 : w3.cell? ⟨b, 1, none⟩ = some v := by rw [Lib.cell_of_heap hb2]; rfl
  have f1 : w3.frozen? ⟨b, 1, none⟩ = false := Lib.frozen_of_heap hb2 1
  obtain ⟨ao, n', cap, rfl⟩ : ∃ ao n' cap, v' = .slice ao n' cap := by
    rcases hown'.2 with ⟨hv, _⟩ | ⟨g, cap, cur, fz, hv, _⟩
    · exact ⟨_, _, _, hv⟩
    · exact ⟨_, _, _, hv⟩
  have FIN : Hid (IsWr B b (T ++ [x]) (w3.setCell ⟨b, 1, none⟩ (.slice ao n' cap)) ∧ Below B w (w3.setCell ⟨b, 1, none⟩ (.slice ao n' cap)) ∧ Lib.OthersKept 5 (some b) w (w3.setCell ⟨b, 1, none⟩ (.slice ao n' cap))) := by
    refine ⟨.inr ?_, (HB1.out.grown hgrow (by omega) (fun k hk => (HOW.out.lt k hk).1)).setCell (p := ⟨b, 1, none⟩) hB _, (HK1.out.grown hgrow (Lib.ownsRowF_kind HOW.out)).setCell ⟨b, 1, none⟩ rfl _⟩
    have e : Lib.byteCells (T ++ [x]) = Lib.byteCells T ++ [.int .u8 x.toNat] := by rw [Lib.byteCells_append]; rfl
    refine Lib.BuilderAtF.put (T := 106) (e := 5) hB hb2 (bs' := Lib.byteCells (T ++ [x])) ?_ (by decide)
    have el : (Lib.byteCells T ++ [Value.int .u8 x.toNat]).length = T.length + 1 := by rw [List.length_append, Lib.byteCells_length]; rfl
    rw [e, el]
    exact hown'
  clear hown' hgrow hb2
  go_wp2
  go_ret
  exact ⟨⟨_, rfl⟩, FIN.out⟩

set_option maxHeartbeats 1000000 in
theorem string_any (B b : Nat) (T : List UInt8) (w : World) (h : IsWr B b T w) (h0 : T ≠ []) :
    Calls Tryd.prog 77 #[.pointer (some ⟨b, 0, none⟩)] w fun e w' => e = .returned (str T) ∧ Below B w w' := by
  obtain ⟨p, hB, v, hbk, hown, hne⟩ : ∃ p, Wr B b p T w := by
    rcases h with h | h
    · exact ⟨_, h⟩
    · exact ⟨_, h⟩
  have hl0 : T.length ≠ 0 := by simpa using h0
  rw [Lib.byteCells_length] at hown
  obtain ⟨g, cap, cur, fz, rfl, hbg, hg, hfz, hnc, hcm, hcs, htake⟩ : ∃ g cap cur fz, v = .slice (some ⟨g, 0, none⟩) T.length cap ∧ B ≤ g ∧ w.heap[g]? = some (.cells cur 5 fz) ∧ fz.2 ≤ T.length * 1 ∧ T.length ≤ cap ∧ cap ≤ maxLen ∧ cur.size = cap * 1 ∧ cur.toList.take (T.length * 1) = Lib.byteCells T := by
    rcases hown.2 with ⟨_, hz⟩ | ⟨g, cap, cur, fz, hv, r⟩
    · exact absurd hz hl0
    · exact ⟨g, cap, cur, fz, hv, r⟩
  have c1 : w.drew.cell? ⟨b, 1, none⟩ = some (.slice (some ⟨g, 0, none⟩) T.length cap) := by
    have : w.drew.heap[b]? = some (.cells #[p, .slice (some ⟨g, 0, none⟩) T.length cap] 106 (0, 0)) := hbk
    rw [Lib.cell_of_heap this]; rfl
  have hSD : (Builtin.unsafeSliceData_ #[92] 140 #[.slice (some ⟨g, 0, none⟩) T.length cap]).run Tryd.prog w.drew = .ok (.pointer (some ⟨g, 0, none⟩)) w.drew :=
    Lib.run_unsafeSliceData_row _ _ _ _ _ _ (by omega)
  have hUS : (Builtin.unsafeString_ #[140, 3] 9 #[.pointer (some ⟨g, 0, none⟩), .int .i64 T.length]).run Tryd.prog w.drew = .ok (.string ⟨T.toArray⟩) (w.drew.freeze ⟨g, 0, none⟩ T.length) := by
    refine Lib.run_unsafeString_row w.drew 140 3 9 5 Tryd.underlying140 cells5 g cur.size (by have hg' : w.drew.heap[g]? = some (.cells cur 5 fz) := hg; simp [World.shape?, hg']) T h0 (by omega) (by unfold maxLen at hcm; omega) ?_
    intro j x hx
    have := hown.cells (g := g) rfl j (.int .u8 x.toNat) (by simp [Lib.byteCells, hx])
    exact this
  have mixed := mixedD
  have HF := hid (Lib.below_freeze (Below.drew (Below.refl B w)) (p := ⟨g, 0, none⟩) hbg T.length)
  clear hown hne hbk hg htake hfz hcm hcs hB h
  go_enter Tryd.func77, Tryd.ntmps77
  go_wp2
  go_region_o
  all_goals (go_wp2; go_ret; exact ⟨rfl, HF.out⟩)
end Go.Proofs.YtfmmmhcpdinhgaaDoor
/-
  The landed put: a line of the text, its words with a blank between.
-/
namespace Go.Proofs.YtfmmmhcpdinhgaaDoor
open Go.RowKit Go.Deep PureNet
set_option maxRecDepth 100000

/-- words with a blank between. -/
def sepT : List (List UInt8) → List UInt8
  | [] => []
  | a :: t => a ++ t.flatMap (fun x => 32 :: x)
theorem sep_append (a b : List (List UInt8)) (ha : a ≠ []) : sepT (a ++ b) = sepT a ++ b.flatMap (fun x => 32 :: x) := by
  cases a with
  | nil => exact absurd rfl ha
  | cons x t => simp [sepT]
theorem sep_first (ws : List (List UInt8)) (x : List UInt8) (h : ws[0]? = some x) : sepT (ws.take 1) = x := by
  cases ws with
  | nil => simp at h
  | cons a t => simp at h; subst h; simp [sepT]
theorem sep_more (ws : List (List UInt8)) (i : Nat) (hi : 0 < i) (x : List UInt8) (h : ws[i]? = some x) : sepT (ws.take (i + 1)) = sepT (ws.take i) ++ [32] ++ x := by
  have hl := (List.getElem?_eq_some_iff.1 h).1
  rw [List.take_add_one, h, sep_append _ _ (by intro e; rw [List.take_eq_nil_iff] at e; rcases e with e | e; omega; rw [e] at hl; simp at hl)]
  simp
theorem sep_le (ws : List (List UInt8)) (i : Nat) (hi : 0 < i) (h0 : ws ≠ []) : (sepT (ws.take i)).length ≤ (sepT ws).length := by
  have h := sep_append (ws.take i) (ws.drop i) (by intro e; rw [List.take_eq_nil_iff] at e; rcases e with e | e; omega; exact h0 e)
  rw [List.take_append_drop] at h
  rw [h, List.length_append]
  omega

/-- words in memory. -/
structure WordsAt (W : World) (g : Nat) (ws : List (List UInt8)) : Prop where
  row : ∃ cur fz, W.heap[g]? = some (.cells cur 9 fz) ∧ ∀ (j : Nat) (x : List UInt8), ws[j]? = some x → cur[j]? = some (str x)
theorem WordsAt.kept {w W : World} {g b : Nat} {ws : List (List UInt8)} (h : WordsAt w g ws) (hk : Lib.OthersKept 5 (some b) w W) (hgb : g ≠ b) : WordsAt W g ws := by
  obtain ⟨cur, fz, hg, hc⟩ := h.row
  exact ⟨cur, fz, hk g _ hg (fun e => hgb (Option.some.inj e)) (fun c fz e => by cases e), hc⟩
theorem WordsAt.at {W : World} {g : Nat} {ws : List (List UInt8)} (h : WordsAt W g ws) (j : Nat) (x : List UInt8) (hx : ws[j]? = some x) : g < W.heap.size ∧ W.cell? ⟨g, j, none⟩ = some (str x) := by
  obtain ⟨cur, fz, hg, hc⟩ := h.row
  exact ⟨(Array.getElem?_eq_some_iff.1 hg).1, (cell_row hg j).trans (hc j x hx)⟩

set_option maxHeartbeats 4000000 in
theorem put_any (B b g c : Nat) (T : List UInt8) (ws : List (List UInt8)) (w : World) (h : IsWr B b T w) (hw : WordsAt w g ws) (hgb : g ≠ b) (h0 : ws ≠ []) (hn : ws.length ≤ 1099511627776) (hlen : T.length + (sepT ws).length + 1 ≤ 140737488355328) (hBw : B ≤ w.heap.size) :
    Calls Tryd.prog 75 #[.pointer (some ⟨b, 0, none⟩), .slice (some ⟨g, 0, none⟩) ws.length c] w fun e w' => (∃ y, e = .returned y) ∧ IsWr B b (T ++ sepT ws ++ [10]) w' ∧ Below B w w' ∧ Lib.OthersKept 5 (some b) w w' := by
  have HB := hid (fun (X : List UInt8) (x : UInt8) (W : World) (a1 : IsWr B b X W) (a2 : X.length + 1 ≤ 140737488355328) (a3 : B ≤ W.heap.size) => byte_any B b X x W a1 a2 a3)
  have HW := hid (fun (X Y : List UInt8) (W : World) (a1 : IsWr B b X W) (a2 : X.length + Y.length ≤ 140737488355328) (a3 : B ≤ W.heap.size) => write_any B b X Y W a1 a2 a3)
  have H0 : Hid (IsWr B b (T ++ sepT (ws.take 0)) w ∧ Below B w w ∧ Lib.OthersKept 5 (some b) w w ∧ WordsAt w g ws) := ⟨by simpa [sepT] using h, Below.refl _ _, Lib.OthersKept.refl _ _ _, hw⟩
  have HN0 := hid h0
  have HL := hid hlen
  clear h hw h0 hlen
  go_enter Tryd.func75, Tryd.ntmps75
  go_wp2
  go_loopw [8] (fun iv W => ∃ i : Nat, i ≤ ws.length ∧ iv = .int .i64 (i : Int) ∧ Hid (IsWr B b (T ++ sepT (ws.take i)) W ∧ Below B w W ∧ Lib.OthersKept 5 (some b) w W ∧ WordsAt W g ws)) (fun iv _ => ws.length - (intOf iv).toNat)
  case atStart => exact ⟨0, Nat.zero_le _, rfl, H0.out⟩
  case round =>
    obtain ⟨i, hi, rfl, HR⟩ := hrel
    clear H0
    have hsz := HR.out.2.1.size
    by_cases hlt : i < ws.length
    · obtain ⟨x, hx⟩ : ∃ x, ws[i]? = some x := ⟨_, List.getElem?_eq_getElem hlt⟩
      obtain ⟨hgl, hc0⟩ := HR.out.2.2.2.at i x hx
      have hle := sep_le ws (i + 1) (by omega) HN0.out
      by_cases hi0 : i = 0
      · subst hi0
        have HS := hid (sep_first ws x hx)
        have HE : Hid (T ++ sepT (ws.take 1) = (T ++ sepT (ws.take 0)) ++ x) := by
          show _ = _
          rw [HS.out]
          simp [sepT]
        have HC := hid (HW.out (T ++ sepT (ws.take 0)) x wr HR.out.1 (by have := congrArg List.length HE.out; have := HL.out; simp only [List.length_append] at *; simp only [Nat.zero_add] at hle; omega) (by omega))
        clear hx hle
        go_wp2_with (go_at_call 102; refine HC.out.mono ?_)
        rintro e w2 ⟨⟨y, rfl⟩, k1, k2, k3⟩
        have HF : Hid (IsWr B b (T ++ sepT (ws.take (0 + 1))) w2 ∧ Below B w w2 ∧ Lib.OthersKept 5 (some b) w w2 ∧ WordsAt w2 g ws) := ⟨by rw [Nat.zero_add, HE.out]; exact k1, HR.out.2.1.trans k2, HR.out.2.2.1.trans k3, HR.out.2.2.2.kept k3 hgb⟩
        clear k1 k2 k3 HR HC HE HS
        go_wp2
        exact ⟨⟨0 + 1, hlt, by go_num, HF.out⟩, by simp [intOf]; omega⟩
      · have HE : Hid (T ++ sepT (ws.take (i + 1)) = (T ++ sepT (ws.take i) ++ [32]) ++ x) := by
          show _ = _
          rw [sep_more ws i (by omega) x hx]
          simp
        have hE2 := congrArg List.length HE.out
        have HC := hid (HB.out (T ++ sepT (ws.take i)) 32 wr HR.out.1 (by have := HL.out; simp only [List.length_append, List.length_cons, List.length_nil] at *; omega) (by omega))
        have HC2 : Hid (∀ W, IsWr B b (T ++ sepT (ws.take i) ++ [32]) W → B ≤ W.heap.size → Calls Tryd.prog 102 #[.pointer (some ⟨b, 0, none⟩), str x] W fun e w' => (∃ y, e = .returned y) ∧ IsWr B b (T ++ sepT (ws.take i) ++ [32] ++ x) w' ∧ Below B W w' ∧ Lib.OthersKept 5 (some b) W w') := fun W a1 a2 => HW.out _ x W a1 (by have := HL.out; simp only [List.length_append, List.length_cons, List.length_nil] at *; omega) a2
        clear hx hle hE2
        go_wp2_with (go_at_call 101; refine HC.out.mono ?_)
        rintro e w2 ⟨⟨y, rfl⟩, k1, k2, k3⟩
        have hs2 := k2.size
        have HC3 := hid (HC2.out w2 k1 (by omega))
        have HK2 := hid k2
        have HK3 := hid k3
        clear k1 k2 k3 HC HC2
        go_wp2_with (go_at_call 102; refine HC3.out.mono ?_)
        rintro e w3 ⟨⟨y, rfl⟩, k1, k2, k3⟩
        have HF : Hid (IsWr B b (T ++ sepT (ws.take (i + 1))) w3 ∧ Below B w w3 ∧ Lib.OthersKept 5 (some b) w w3 ∧ WordsAt w3 g ws) := ⟨by rw [HE.out]; exact k1, (HR.out.2.1.trans HK2.out).trans k2, (HR.out.2.2.1.trans HK3.out).trans k3, (HR.out.2.2.2.kept HK3.out hgb).kept k3 hgb⟩
        clear k1 k2 k3 HR HE HC3 HK2 HK3
        go_wp2
        exact ⟨⟨i + 1, hlt, by go_num, HF.out⟩, by simp [intOf]; omega⟩
    · have hie : i = ws.length := by omega
      have HF : Hid (IsWr B b (T ++ sepT ws) wr) := by
        have h := HR.out.1
        rw [hie, List.take_length] at h
        exact h
      have HC := hid (HB.out (T ++ sepT ws) 10 wr HF.out (by have := HL.out; simp only [List.length_append] at *; omega) (by omega))
      subst hie
      go_wp2_with (go_at_call 101; refine HC.out.mono ?_)
      rintro e w2 ⟨⟨y, rfl⟩, k1, k2, k3⟩
      have HZ : Hid (IsWr B b (T ++ sepT ws ++ [10]) w2 ∧ Below B w w2 ∧ Lib.OthersKept 5 (some b) w w2) := ⟨k1, HR.out.2.1.trans k2, HR.out.2.2.1.trans k3⟩
      clear k1 k2 k3 HR HC HF
      go_wp2
      first | go_end0 | refine bodyPost_end (results_none rfl _ _ _) rfl ?_
      exact ⟨⟨_, rfl⟩, HZ.out⟩
end Go.Proofs.YtfmmmhcpdinhgaaDoor
