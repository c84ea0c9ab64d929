import Derived.Lib.BufSteps
import Derived.Lib.ItoaLen
import Derived.Lib.Strings
import Derived.WalkKit
import Derived.WalkSpells
import Derived.WalkLawsBesides
import Derived.Deep.QuietTactic
import Derived.Deep.RegionHeld3
import Derived.Deep.RegionWith
import Derived.Deep.RegionLaw
import Derived.Deep.DeepCutAuto
import Derived.Deep.OwnRows
import Derived.Laws.LoneSync
import Derived.Lib.OwnKind
import Derived.OwnWalk
import Derived.Below
import Derived.Laws.IdiomStrings
import Derived.Laws.CopyRow
import Derived.Laws.Tables
import Derived.Laws.AppendOwn
import Derived.Deep.DeepAppendRoom
import Derived.ArgAppend
import Derived.Shelf.Strings.Trim
import Derived.Shelf.Strings.SlTrimAscii
import Derived.Shelf.LaysM
import Derived.Shelf.Strconv.Clone
import Derived.Shelf.Strings.Search1
import Derived.Shelf.Strings.Search2
import Derived.Shelf.Strings.Count
import Derived.Shelf.Strings.LastIndex
import Derived.Shelf.Strings.IndexAny
import Derived.Shelf.Strings.AsciiSet
import Derived.Shelf.Strings.IndexAnyAll
import Derived.Shelf.RegionOpenPlain
import Derived.Lib.OthersKept
import Derived.Maps.OwnSet
import Derived.Maps.Views
import Derived.Maps.OwnOps
import Derived.StringKeys
import Derived.Laws.MakeOwn
import Derived.Laws.RangeAny
import Derived.Laws.RangeString
import Derived.Deep.LoopGhost
import Derived.Scope
import Derived.BigQuiet
import Derived.Shelf.Small.Strs
import Derived.Shelf.Strings.Runes
import Derived.Deep.CutBlock
import Derived.Laws.OwnMore
import Derived.ScopeJumps
import Derived.Deep.MidRow
import Derived.OpenShut
import Derived.SizedLaws
import Derived.ProofKit
import Derived.Deep.Slices
import Derived.ChangeArms
import Derived.DataElems
import Derived.Deep.DeepHandedRow
import Derived.Deep.DeepWitnessRowRef
import Derived.SevenTiedAt
import Derived.Test.YtfmmmhcpdinhgabDoorRows
import Derived.Test.YtfmmmhcpdinhgabDoorTie
import Derived.Test.YtfmmmhcpdinhgabDoorCards
/-
  Circuits: what the document says of them, by lists.
-/
namespace PureNet
set_option maxRecDepth 100000

/-- a line. -/
structure Ga where
  kind : Int
  name : ByteArray
  op : Int
  a : Int
  b : Int
  c : Int
structure Net where
  name : ByteArray
  gates : List Ga
  outs : List Int

def letB (c : UInt8) : Bool := decide ((97 ≤ c.toNat ∧ c.toNat ≤ 122) ∨ (65 ≤ c.toNat ∧ c.toNat ≤ 90) ∨ c.toNat = 95)
def nameCB (c : UInt8) : Bool := letB c || decide ((48 ≤ c.toNat ∧ c.toNat ≤ 57) ∨ c.toNat = 46)
def nameL : List UInt8 → Bool
  | [] => false
  | c :: r => letB c && r.all nameCB && decide (r.length ≤ 31)
def nameB (s : ByteArray) : Bool := nameL s.data.toList

def leansOn (g : Ga) : List Int := if g.kind = 2 then [g.a, g.b] else if g.kind = 4 then [g.a, g.b, g.c] else []

/-- a line leans on another. -/
def Leans (l : List Ga) (i j : Nat) : Prop := ∃ g, l[i]? = some g ∧ (j : Int) ∈ leansOn g
def Way (l : List Ga) (i j : Nat) : Prop := ∀ P : Nat → Nat → Prop, (∀ a b, Leans l a b → P a b) → (∀ a b c, Leans l a b → P b c → P a c) → P i j
theorem Way.one {l : List Ga} {i j : Nat} (h : Leans l i j) : Way l i j := fun _ h1 _ => h1 _ _ h
theorem Way.more {l : List Ga} {i j k : Nat} (h : Leans l i j) (w : Way l j k) : Way l i k := fun P h1 h2 => h2 _ _ _ h (w P h1 h2)
theorem Way.ind {l : List Ga} {motive : (i j : Nat) → Way l i j → Prop} (one : ∀ {i j : Nat} (h : Leans l i j), motive i j (Way.one h)) (more : ∀ {i j k : Nat} (h : Leans l i j) (w : Way l j k), motive j k w → motive i k (Way.more h w)) {i j : Nat} (t : Way l i j) : motive i j t := by
  obtain ⟨w, hw⟩ := t (fun a b => ∃ w : Way l a b, motive a b w) (fun a b h => ⟨Way.one h, one h⟩) (fun a b c h ⟨w, hw⟩ => ⟨Way.more h w, more h w hw⟩)
  exact hw
theorem Way.cas {l : List Ga} {motive : (i j : Nat) → Way l i j → Prop} (one : ∀ {i j : Nat} (h : Leans l i j), motive i j (Way.one h)) (more : ∀ {i j k : Nat} (h : Leans l i j) (w : Way l j k), motive i k (Way.more h w)) {i j : Nat} (t : Way l i j) : motive i j t := Way.ind one (fun h w _ => more h w) t






end PureNet
/-
  General lemmas of the texts of circuit.
-/
namespace Go.Proofs.YtfmmmhcpdinhgabDoor
open Go.RowKit Go.Deep PureNet
set_option maxRecDepth 100000

theorem hid {q : Prop} (h : q) : Hid q := h
theorem add_plain (g o k : Nat) : (⟨g, o, none⟩ : Addr).add k = ⟨g, o + k, none⟩ := by
  unfold Addr.add
  split <;> simp_all
theorem add_zero_addr (g j : Nat) : (⟨g, 0, none⟩ : Addr).add j = ⟨g, j, none⟩ := by rw [add_plain, Nat.zero_add]
theorem cell_row {w : World} {b : Nat} {c : Array Value} {t : TypeId} {fz : Nat × Nat} (h : w.heap[b]? = some (.cells c t fz)) (i : Nat) : w.cell? ⟨b, i, none⟩ = c[i]? := by simp [World.cell?, h]
theorem unfrozen_row {w : World} {b : Nat} {c : Array Value} {t : TypeId} (h : w.heap[b]? = some (.cells c t (0, 0))) (i : Nat) : w.frozen? ⟨b, i, none⟩ = false := by simp [World.frozen?, h]
theorem below_cell {B b o : Nat} {w w' : World} {x : Value} (hb : Below B w w') (hlt : b < B) (h : w.cell? ⟨b, o, none⟩ = some x) : w'.cell? ⟨b, o, none⟩ = some x := (hb.cell (p := ⟨b, o, none⟩) hlt).trans h
theorem below_drewN {B : Nat} {w W : World} (h : Below B w W) (n : Nat) : Below B w (W.drewN n) := ⟨h.os, h.tape, h.output, h.size, h.block⟩
theorem ownsRow_below {w W : World} {base e size n : Nat} {v : Value} {xs : List Value} (h : w.ownsRow base e size v n xs) (hb : Below w.heap.size w W) : W.ownsRow base e size v n xs := by
  refine ⟨h.1, ?_⟩
  rcases h.2 with hn | ⟨g, cap, cur, hv, hB, hg, rest⟩
  · exact .inl hn
  · exact .inr ⟨g, cap, cur, hv, hB, (hb.block g (Array.getElem?_eq_some_iff.1 hg).1).trans hg, rest⟩
theorem own_shape {W : World} {B e size n : Nat} {v : Value} {xs : List Value} (h : W.ownsRow B e size v n xs) : ∃ sa c, v = .slice sa n c := by
  rcases h.2 with ⟨hv, h0⟩ | ⟨g, cap, cur, hv, _⟩
  · exact ⟨none, 0, by rw [hv, h0]⟩
  · exact ⟨_, _, hv⟩
theorem row_set {W : World} {b : Nat} {cs : Array Value} {t i : Nat} {u : Value} (hr : W.heap[b]? = some (.cells cs t (0, 0))) : (W.setCell ⟨b, i, none⟩ u).heap[b]? = some (.cells (cs.setIfInBounds i u) t (0, 0)) := by
  have hb := (Array.getElem?_eq_some_iff.1 hr).1
  simp [World.setCell, Array.getElem?_modify, hr]
theorem own_ne {W : World} {b B e size n t : Nat} {v : Value} {xs : List Value} {cs : Array Value} {fz : Nat × Nat} (h : W.ownsRow B e size v n xs) (hr : W.heap[b]? = some (.cells cs t fz)) (hte : t ≠ e) : v.ownBlock ≠ some b := by
  intro hv
  obtain ⟨c, f, hk⟩ := Lib.ownsRow_kind h b hv
  rw [hr] at hk
  simp only [Option.some.injEq, Obj.cells.injEq] at hk
  exact hte hk.2.1
/-- an owned row of another type stays when a row grows. -/
theorem own_kept {W W' : World} {B B' e e' size size' n n' : Nat} {v v' : Value} {xs xs' : List Value} (h : W.ownsRow B e size v n xs) (h' : W.ownsRow B' e' size' v' n' xs') (hg : W.grownBy W' v'.ownBlock) (hne : e ≠ e') : W'.ownsRow B e size v n xs :=
  h.kept hg (by
    cases hv : v.ownBlock with
    | none => exact .inl rfl
    | some g =>
      right
      intro e
      obtain ⟨c1, f1, k1⟩ := Lib.ownsRow_kind h g hv
      exact own_ne h' k1 hne e.symm)

/-- append of one, as a step of a region that draws its order. -/
theorem step_one {ops : Array Oper} {o : Oper} {a : Act} {w : World} {K : Act → World → Prop} {Q : Exit → Act → World → Prop} {X : Prop} (hgd : o.guard = none) (sl x : Operand) (t e : TypeId) (z : Value) (size bytes : Nat)
    (ho : o.op = .call { callee := .builtin .append, args := #[sl, x], argTypes := #[t, t] }) (hu : Tryd.prog.underlying t = some (.slice e)) (hinf : (Tryd.prog.info? e).map (fun i => (i.zero, i.size, i.bytes)) = some (some z, size, bytes))
    (hzs : z.cells.size = size) (hsz : 0 < size) (B n : Nat) (v : Value) (xs news : List Value) (ad : Addr) (hs : a.eval sl = v) (hown : w.ownsRow B e size v n xs) (hx : a.eval x = .slice (some ad) 1 1)
    (hl : news.length = size) (hnews : ∀ j u, news[j]? = some u → w.cell? (ad.add j) = some u) (h1 : ∀ u ∈ news, u.oneCell' = true) (hn : n ≤ 140737488351232) (hby : (n + 1) * bytes ≤ 140737488351233) (hB : B ≤ w.heap.size)
    (h : ∀ v' w', w'.ownsRow B e size v' (n + 1) (xs ++ news) → w.grownBy w' v.ownBlock → K (a.put o.dst v') w') : if Region.wanted o (yielded ops a.tmps) = true then Oper.wp Tryd.prog o a w K Q else X := by
  have hw : Region.wanted o (yielded ops a.tmps) = true := by simp [Region.wanted, hgd]
  rw [if_pos hw]
  obtain ⟨i, hi, hz0, hz1, hz2⟩ := info_parts hinf
  obtain ⟨v', w', hr, h2, h3, _⟩ := run_append_own (P := Tryd.prog) w B t o.type e i z size bytes hu hi hz0 hz1 hz2 hzs hsz v n xs hown ad 1 1 news (by rw [hl, Nat.one_mul]) hnews h1 (by unfold maxLen; omega) (by omega) hB
  unfold Oper.wp execOp
  simp only [ho, resolve, invoke, builtin, Sem.run_bind, Sem.run_pure, Result.andThen_ok, List.map_toArray, List.map_cons, List.map_nil, hs, hx, hr]
  exact h v' w' h2 h3
/-- append of one, in a region of the text's order. -/
theorem app_one {ops : Array Oper} {rest : List Oper} {o : Oper} {a : Act} {Q : Exit → Act → World → Prop} {w : World} (hgd : o.guard = none) (sl x : Operand) (t e : TypeId) (z : Value) (size bytes : Nat)
    (ho : o.op = .call { callee := .builtin .append, args := #[sl, x], argTypes := #[t, t] }) (hu : Tryd.prog.underlying t = some (.slice e)) (hinf : (Tryd.prog.info? e).map (fun i => (i.zero, i.size, i.bytes)) = some (some z, size, bytes))
    (hzs : z.cells.size = size) (hsz : 0 < size) (B n : Nat) (v : Value) (xs news : List Value) (ad : Addr) (hs : a.eval sl = v) (hown : w.ownsRow B e size v n xs) (hx : a.eval x = .slice (some ad) 1 1)
    (hl : news.length = size) (hnews : ∀ j u, news[j]? = some u → w.cell? (ad.add j) = some u) (h1 : ∀ u ∈ news, u.oneCell' = true) (hn : n ≤ 140737488351232) (hby : (n + 1) * bytes ≤ 140737488351233) (hB : B ≤ w.heap.size)
    (h : ∀ v' w', w'.ownsRow B e size v' (n + 1) (xs ++ news) → w.grownBy w' v.ownBlock → wpList Tryd.prog ops Q rest (a.put o.dst v') w') : wpList Tryd.prog ops Q (o :: rest) a w := by
  obtain ⟨i, hi, hz0, hz1, hz2⟩ := info_parts hinf
  refine wpList_append_own _ hgd sl x t ho B e i z size bytes hu hi hz0 hz1 hz2 hzs hsz v n xs hs hown ad 1 1 news hx (by rw [hl, Nat.one_mul]) hnews h1 (by unfold maxLen; omega) (by omega) hB ?_
  intro v' w' h2 h3 _
  exact h v' w' h2 h3

theorem info3 : (Tryd.prog.info? 3).map (fun i => (i.zero, i.size, i.bytes)) = some (some (.int .i64 0), 1, 8) := by kernel_rfl
theorem info4 : (Tryd.prog.info? 4).map (fun i => (i.zero, i.size, i.bytes)) = some (some (.bool false), 1, 1) := by kernel_rfl
theorem info38 : (Tryd.prog.info? 57).map (fun i => (i.zero, i.size, i.bytes)) = some (some (.agg #[.int .i64 0, .string ⟨#[]⟩, .int .i64 0, .int .i64 0, .int .i64 0, .int .i64 0]), 6, 56) := by kernel_rfl

/-- cells that can be read there. -/
structure CellsAt (W : World) (s : Option Addr) (xs : List Value) : Prop where
  at_ : ∀ (k : Nat) (x : Value), xs[k]? = some x → ∃ g o, s = some ⟨g, o, none⟩ ∧ g < W.heap.size ∧ W.cell? ⟨g, o + k, none⟩ = some x
theorem CellsAt.below {w W : World} {s : Option Addr} {xs : List Value} (h : CellsAt w s xs) (hb : Below w.heap.size w W) : CellsAt W s xs := ⟨fun k x hx => by
  obtain ⟨g, o, e, hg, c⟩ := h.at_ k x hx
  exact ⟨g, o, e, Nat.lt_of_lt_of_le hg hb.size, below_cell hb hg c⟩⟩
theorem CellsAt.nil (W : World) (s : Option Addr) : CellsAt W s [] := ⟨fun k x hx => by simp at hx⟩
theorem own_cells {W : World} {B e size n : Nat} {v : Value} {xs : List Value} (h : W.ownsRow B e size v n xs) : ∃ sa c, v = .slice sa n c ∧ CellsAt W sa xs ∧ (sa = none → c = 0) ∧ n ≤ c ∧ ∀ g o sp, sa = some ⟨g, o, sp⟩ → B ≤ g := by
  have hlen := h.1
  rcases h.2 with ⟨hv, h0⟩ | ⟨g, cap, cur, hv, hb, hg, hn, hm, hsz, ht⟩
  · subst h0
    have : xs = [] := List.eq_nil_of_length_eq_zero (by simpa using hlen)
    subst this
    exact ⟨none, 0, hv, CellsAt.nil _ _, fun _ => rfl, Nat.le_refl _, fun g o sp e => by cases e⟩
  · refine ⟨_, _, hv, ⟨fun k x hx => ⟨g, 0, rfl, (Array.getElem?_eq_some_iff.1 hg).1, ?_⟩⟩, (fun e => by cases e), hn, fun g' o' sp e => by cases e; exact hb⟩
    rw [cell_row hg, Nat.zero_add]
    rw [← ht] at hx
    have hk : k < n * size := by
      have := (List.getElem?_eq_some_iff.1 hx).1
      simp only [List.length_take] at this
      omega
    rw [List.getElem?_take_of_lt hk] at hx
    simpa using hx

def ga (g : Ga) : List Value := [.int .i64 g.kind, .string g.name, .int .i64 g.op, .int .i64 g.a, .int .i64 g.b, .int .i64 g.c]
def gas (l : List Ga) : List Value := l.flatMap ga
def bo (l : List Bool) : List Value := l.map Value.bool
def nu (l : List Int) : List Value := l.map (Value.int .i64)
theorem gas_snoc (l : List Ga) (g : Ga) : gas (l ++ [g]) = gas l ++ ga g := by simp [gas]
theorem gas_at (l : List Ga) (k j : Nat) (hk : k < l.length) (hj : j < 6) : (gas l)[k * 6 + j]? = (ga l[k])[j]? := by
  induction l generalizing k with
  | nil => simp at hk
  | cons p t ih =>
    have e : gas (p :: t) = ga p ++ gas t := by simp [gas]
    have hl : (ga p).length = 6 := rfl
    rw [e]
    cases k with
    | zero => rw [List.getElem?_append_left (by omega)]; simp
    | succ k =>
      rw [List.getElem?_append_right (by omega), hl, show (k + 1) * 6 + j - 6 = k * 6 + j by omega, ih k (by simpa using hk)]
      simp
/-- a line of a circuit, read. -/
theorem gate_at {W : World} {s : Option Addr} {l : List Ga} (h : CellsAt W s (gas l)) (k : Nat) (g : Ga) (hg : l[k]? = some g) : ∃ b o, s = some ⟨b, o, none⟩ ∧ b < W.heap.size ∧ W.cell? ⟨b, o + k * 6, none⟩ = some (.int .i64 g.kind) ∧ W.cell? ⟨b, o + k * 6 + 1, none⟩ = some (.string g.name) ∧ W.cell? ⟨b, o + k * 6 + 2, none⟩ = some (.int .i64 g.op) ∧ W.cell? ⟨b, o + k * 6 + 3, none⟩ = some (.int .i64 g.a) ∧ W.cell? ⟨b, o + k * 6 + 4, none⟩ = some (.int .i64 g.b) ∧ W.cell? ⟨b, o + k * 6 + 5, none⟩ = some (.int .i64 g.c) := by
  obtain ⟨hk, rfl⟩ := List.getElem?_eq_some_iff.1 hg
  have one : ∀ j (hj : j < 6), (gas l)[k * 6 + j]? = some ((ga l[k])[j]'(by simpa [ga] using hj)) := fun j hj => by rw [gas_at l k j hk hj, List.getElem?_eq_getElem]
  obtain ⟨b, o, e, hb, c0⟩ := h.at_ _ _ (one 0 (by omega))
  have rest : ∀ j (hj : j < 6), W.cell? ⟨b, o + k * 6 + j, none⟩ = some ((ga l[k])[j]'(by simpa [ga] using hj)) := fun j hj => by
    obtain ⟨b', o', e', hb', c'⟩ := h.at_ _ _ (one j hj)
    rw [e] at e'
    simp only [Option.some.injEq, Addr.mk.injEq, and_true] at e'
    obtain ⟨rfl, rfl⟩ := e'
    rw [Nat.add_assoc]; exact c'
  exact ⟨b, o, e, hb, rest 0 (by omega), rest 1 (by omega), rest 2 (by omega), rest 3 (by omega), rest 4 (by omega), rest 5 (by omega)⟩
theorem bit_at {W : World} {s : Option Addr} {l : List Bool} (h : CellsAt W s (bo l)) (k : Nat) (x : Bool) (hx : l[k]? = some x) : ∃ b o, s = some ⟨b, o, none⟩ ∧ b < W.heap.size ∧ W.cell? ⟨b, o + k, none⟩ = some (.bool x) :=
  h.at_ k _ (by simp [bo, hx])
theorem num_at {W : World} {s : Option Addr} {l : List Int} (h : CellsAt W s (nu l)) (k : Nat) (x : Int) (hx : l[k]? = some x) : ∃ b o, s = some ⟨b, o, none⟩ ∧ b < W.heap.size ∧ W.cell? ⟨b, o + k, none⟩ = some (.int .i64 x) :=
  h.at_ k _ (by simp [nu, hx])

/-- a circuit as a value. -/
abbrev cirV (c : Net) (sg : Option Addr) (cg : Nat) (so : Option Addr) (co : Nat) : Value := .agg #[.string c.name, .slice sg c.gates.length cg, .slice so c.outs.length co]
/-- its lists. -/
structure CirAt (W : World) (c : Net) (sg so : Option Addr) : Prop where
  gates : CellsAt W sg (gas c.gates)
  outs : CellsAt W so (nu c.outs)
theorem CirAt.below {w W : World} {c : Net} {sg so : Option Addr} (h : CirAt w c sg so) (hb : Below w.heap.size w W) : CirAt W c sg so := ⟨h.gates.below hb, h.outs.below hb⟩


/-- a row in the making since w. -/
structure Mk (w W : World) (e size : Nat) (v : Value) (n : Nat) (xs : List Value) : Prop where
  own : W.ownsRow w.heap.size e size v n xs
  below : Below w.heap.size w W
theorem Mk.nil (w : World) (e size : Nat) : Mk w w e size (.slice none 0 0) 0 [] := ⟨World.ownsRow_nil _ _ _ _, Below.refl _ _⟩
theorem Mk.on {w W W' : World} {e size n : Nat} {v : Value} {xs : List Value} (h : Mk w W e size v n xs) (hb : Below W.heap.size W W') : Mk w W' e size v n xs := ⟨ownsRow_below h.own hb, h.below.trans (hb.mono h.below.size)⟩
theorem Mk.grow {w W W' : World} {e size n n' : Nat} {v v' : Value} {xs xs' : List Value} (h : Mk w W e size v n xs) (ho : W'.ownsRow w.heap.size e size v' n' xs') (hg : W.grownBy W' v.ownBlock) : Mk w W' e size v' n' xs' := ⟨ho, h.below.grown hg h.below.size (fun j hj => (h.own.lt j hj).1)⟩
/-- append of one to a row in the making. -/
theorem mk_app {ops : Array Oper} {rest : List Oper} {o : Oper} {a : Act} {Q : Exit → Act → World → Prop} {w W : World} {v : Value} {e size n : Nat} {xs : List Value} (hgd : o.guard = none) (sl y : Operand) (t : TypeId) (z : Value) (bytes : Nat)
    (ho : o.op = .call { callee := .builtin .append, args := #[sl, y], argTypes := #[t, t] }) (hu : Tryd.prog.underlying t = some (.slice e)) (hinf : (Tryd.prog.info? e).map (fun i => (i.zero, i.size, i.bytes)) = some (some z, size, bytes)) (hzs : z.cells.size = size) (hsz : 0 < size)
    (h : Mk w W e size v n xs) (news : List Value) (u : TypeId) (ad : Nat) (had : ad = W.heap.size) (hs : a.eval sl = v) (hx : a.eval y = .slice (some ⟨ad, 0, none⟩) 1 1) (hl : news.length = size) (h1 : ∀ u ∈ news, u.oneCell' = true) (hn : n ≤ 140737488351232) (hby : (n + 1) * bytes ≤ 140737488351233)
    (hK : ∀ sx cx w', (W.alloc (.cells news.toArray u)).grownBy w' v.ownBlock → Mk w w' e size (.slice sx (n + 1) cx) (n + 1) (xs ++ news) → wpList Tryd.prog ops Q rest (a.put o.dst (.slice sx (n + 1) cx)) w') :
    wpList Tryd.prog ops Q (o :: rest) a (W.alloc (.cells news.toArray u)) := by
  subst had
  have h2 := h.on ((Below.refl _ _).alloc (Nat.le_refl _) (Obj.cells news.toArray u))
  refine app_one hgd sl y t e z size bytes ho hu hinf hzs hsz w.heap.size n v xs news ⟨W.heap.size, 0, none⟩ hs h2.own hx hl (fun j u hu => by rw [add_zero_addr, cell_row (heap_alloc_new W _)]; simpa using hu) h1 hn hby h2.below.size ?_
  intro v4 w4 o4 g4
  obtain ⟨sx, cx, rfl⟩ := own_shape o4
  exact hK sx cx w4 g4 (h2.grow o4 g4)
end Go.Proofs.YtfmmmhcpdinhgabDoor
/-
  Circuits: lines in another order; lines that bear on nothing.
-/
namespace PureNet
set_option maxRecDepth 100000


theorem leans_lt {l : List Ga} {i j : Nat} (h : Leans l i j) : i < l.length := by
  obtain ⟨g, hg, _⟩ := h
  exact (List.getElem?_eq_some_iff.1 hg).1
theorem way_lt {l : List Ga} {i j : Nat} (h : Way l i j) : i < l.length := by
  cases h using PureNet.Way.cas with
  | one h => exact leans_lt h
  | more h _ => exact leans_lt h


end PureNet
/-
  The law's small calls: within, number, count, truths, fit.
-/
namespace Go.Proofs.YtfmmmhcpdinhgabDoor
open Go.RowKit Go.Deep PureNet
set_option maxRecDepth 100000

/-- a string of these bytes. -/
abbrev str (l : List UInt8) : Value := .string ⟨l.toArray⟩

end Go.Proofs.YtfmmmhcpdinhgabDoor
/-
  The document's own letter, Name, field, FormedLine, leans.
-/
namespace Go.Proofs.YtfmmmhcpdinhgabDoor
open Go.RowKit Go.Deep PureNet
set_option maxRecDepth 100000

theorem nameB_long (s : ByteArray) (h : 32 < s.size) : nameB s = false := by
  unfold nameB
  have : s.data.toList.length = s.size := by simp
  cases hl : s.data.toList with
  | nil => rfl
  | cons c r =>
    rw [hl] at this
    simp only [List.length_cons] at this
    simp only [nameL]
    rw [decide_eq_false (show ¬ r.length ≤ 31 by omega), Bool.and_false]
theorem nameB_of (s : ByteArray) (h0 : 0 < s.size) (h1 : s.size ≤ 32) : nameB s = (letB (s[0]'h0) && decide (∀ q, (hq : q < s.size) → 0 < q → nameCB (s[q]'hq) = true)) := by
  unfold nameB
  have hlen : s.data.toList.length = s.size := by simp
  have hget : ∀ q (hq : q < s.size), s.data.toList[q]'(by rw [hlen]; exact hq) = s[q]'hq := fun q hq => rfl
  cases hl : s.data.toList with
  | nil => rw [hl] at hlen; simp at hlen; omega
  | cons c r =>
    have hc : s[0]'h0 = c := by
      have := hget 0 h0
      simp only [hl] at this
      exact this.symm
    have hlr : r.length + 1 = s.size := by rw [hl] at hlen; simpa using hlen
    simp only [nameL]
    rw [hc, decide_eq_true (show r.length ≤ 31 by omega), Bool.and_true]
    congr 1
    rw [Bool.eq_iff_iff, List.all_eq_true, decide_eq_true_eq]
    constructor
    · intro h q hq h0
      obtain ⟨k, rfl⟩ : ∃ k, q = k + 1 := ⟨q - 1, by omega⟩
      have := hget (k + 1) hq
      simp only [hl, List.getElem_cons_succ] at this
      rw [← this]
      exact h _ (List.getElem_mem _)
    · intro h x hx
      obtain ⟨k, hk, rfl⟩ := List.getElem_of_mem hx
      have := hget (k + 1) (by omega)
      simp only [hl, List.getElem_cons_succ] at this
      rw [this]
      exact h (k + 1) (by omega) (by omega)

end Go.Proofs.YtfmmmhcpdinhgabDoor
/-
  The document's own table of names: find, place.
-/
namespace Go.Proofs.YtfmmmhcpdinhgabDoor
open Go.RowKit Go.Deep PureNet
set_option maxRecDepth 100000

def ns (l : List ByteArray) : List Value := l.map Value.string
theorem name_at {W : World} {s : Option Addr} {l : List ByteArray} (h : CellsAt W s (ns l)) (k : Nat) (x : ByteArray) (hx : l[k]? = some x) : ∃ b o, s = some ⟨b, o, none⟩ ∧ b < W.heap.size ∧ W.cell? ⟨b, o + k, none⟩ = some (.string x) :=
  h.at_ k _ (by simp [ns, hx])

/-- one name is ahead of another. -/
def lessB (a b : ByteArray) : Bool := Op.bytesLess a.toList b.toList
theorem bytesLess_lt : ∀ (x y : List UInt8), Op.bytesLess x y = decide (x < y)
  | x, [] => by
    have : ¬ x < [] := List.not_lt_nil x
    simp [Op.bytesLess]
  | [], b :: y => by simp [Op.bytesLess]
  | a :: x, b :: y => by
    simp only [Op.bytesLess, bytesLess_lt x y]
    rw [Bool.eq_iff_iff]
    simp only [Bool.or_eq_true, Bool.and_eq_true, decide_eq_true_eq, beq_iff_eq, List.cons_lt_cons_iff]
theorem lessB_iff (a b : ByteArray) : lessB a b = true ↔ a.data.toList < b.data.toList := by
  unfold lessB
  rw [bytesLess_lt, decide_eq_true_eq, ByteArray.toList_eq, ByteArray.toList_eq]
theorem lessB_irrefl (a : ByteArray) : lessB a a = false := by
  cases h : lessB a a with
  | false => rfl
  | true => exact absurd ((lessB_iff a a).1 h) (List.lt_irrefl _)
theorem lessB_trans {a b c : ByteArray} (h : lessB a b = true) (k : lessB b c = true) : lessB a c = true := (lessB_iff a c).2 (List.lt_trans ((lessB_iff a b).1 h) ((lessB_iff b c).1 k))
theorem lessB_total {a b : ByteArray} (h : lessB a b = false) (hne : a ≠ b) : lessB b a = true := by
  rw [lessB_iff]
  have h1 : ¬ a.data.toList < b.data.toList := fun x => by rw [(lessB_iff a b).2 x] at h; cases h
  by_cases h2 : b.data.toList < a.data.toList
  · exact h2
  · exact absurd (Go.WideShapes.bytes_inj (List.le_antisymm (List.not_lt.1 h2) (List.not_lt.1 h1))) hne
/-- names that rise. -/
def Rising (N : List ByteArray) : Prop := ∀ (i j : Nat) (x y : ByteArray), i < j → N[i]? = some x → N[j]? = some y → lessB x y = true
/-- where a name stands or would stand. -/
structure Spot (N : List ByteArray) (s : ByteArray) (i : Nat) : Prop where
  le : i ≤ N.length
  low : ∀ (k : Nat) (x : ByteArray), k < i → N[k]? = some x → lessB x s = true
  high : ∀ (k : Nat) (x : ByteArray), i ≤ k → N[k]? = some x → lessB x s = false
theorem Spot.mem {N : List ByteArray} {s : ByteArray} {i : Nat} (h : Spot N s i) (hr : Rising N) : s ∈ N ↔ N[i]? = some s := by
  constructor
  · intro hm
    obtain ⟨k, hk, he⟩ := List.getElem_of_mem hm
    have hks : N[k]? = some s := by rw [List.getElem?_eq_getElem hk, he]
    have hki : ¬ k < i := fun hlt => by
      have := h.low k s hlt hks
      rw [lessB_irrefl] at this
      cases this
    by_cases e : i = k
    · rw [e]; exact hks
    · have hi : i < N.length := by omega
      have hxi : N[i]? = some N[i] := List.getElem?_eq_getElem hi
      have h1 := hr i k _ _ (by omega) hxi hks
      have h2 := h.high i _ (Nat.le_refl _) hxi
      rw [h1] at h2
      cases h2
  · intro hi
    exact List.mem_of_getElem? hi

set_option maxHeartbeats 2000000 in
set_option maxRecDepth 100000 in
theorem find_any (kb : Nat) (sn : Option Addr) (cn : Nat) (pv : Value) (N : List ByteArray) (s : ByteArray) (w : World) (hk : w.heap[kb]? = some (.cells #[.slice sn N.length cn, pv] 45 (0, 0))) (hn : CellsAt w sn (ns N)) (hr : Rising N) (hl : N.length ≤ 1048576) :
    Calls Tryd.prog 42 #[.pointer (some ⟨kb, 0, none⟩), .string s] w fun e w' => ∃ i : Nat, Spot N s i ∧ e = .returned (.int .i64 (i : Int)) ∧ Below w.heap.size w w' := by
  have c0 := fun j => cell_row hk j
  have hb := (Array.getElem?_eq_some_iff.1 hk).1
  have HN := hid hn
  have HR := hid hr
  clear hk hn hr
  go_enter Tryd.func42, Tryd.ntmps42
  go_wp2
  go_loopw [5, 6] (fun lv hv W => ∃ lo hi : Nat, lo ≤ hi ∧ hi ≤ N.length ∧ lv = .int .i64 (lo : Int) ∧ hv = .int .i64 (hi : Int) ∧ Hid (Below w.heap.size w W ∧ (∀ (k : Nat) (x : ByteArray), k < lo → N[k]? = some x → lessB x s = true) ∧ ∀ (k : Nat) (x : ByteArray), hi ≤ k → N[k]? = some x → lessB x s = false)) (fun lv hv _ => (intOf hv).toNat - (intOf lv).toNat)
  case atStart => exact ⟨0, N.length, Nat.zero_le _, Nat.le_refl _, rfl, rfl, Below.refl _ _, (fun k x hk => by omega), fun k x hk hx => by have := (List.getElem?_eq_some_iff.1 hx).1; omega⟩
  case round =>
    obtain ⟨lo, hi, h1, h2, rfl, rfl, HI⟩ := hrel
    obtain ⟨hw, hlow, hhigh⟩ := HI.out
    have c1 := fun j => (hw.cell (p := ⟨kb, j, none⟩) hb).trans (c0 j)
    have hb1 := Nat.lt_of_lt_of_le hb hw.size
    clear HI
    by_cases hlt : lo < hi
    · obtain ⟨m, hm⟩ : ∃ m, m = (lo + hi) / 2 := ⟨_, rfl⟩
      have hm1 : (((lo : Int) + (hi : Int)) / 2) = (m : Int) := by omega
      obtain ⟨x, hx⟩ : ∃ x, N[m]? = some x := ⟨_, List.getElem?_eq_getElem (by omega)⟩
      obtain ⟨b, o, rfl, hbn, d0⟩ := name_at (HN.out.below hw) m x hx
      have hml : m < N.length := by omega
      have hm2 : lo ≤ m := by omega
      have hm3 : m < hi := by omega
      have HW := hid hw
      cases hle : lessB x s with
      | true =>
        have HX : Hid (∀ (k : Nat) (y : ByteArray), k < m + 1 → N[k]? = some y → lessB y s = true) := fun k y hk hy => by
          by_cases e : k = m
          · subst e; rw [hx] at hy; cases hy; exact hle
          · exact lessB_trans (HR.out k m y x (by omega) hy hx) hle
        have HH := hid hhigh
        have hle2 : Op.bytesLess x.toList s.toList = true := hle
        clear hx hm hlow hhigh hw hle
        go_wp2
        exact ⟨⟨m + 1, hi, by omega, h2, by go_num, rfl, HW.out, HX.out, HH.out⟩, by simp [intOf]; omega⟩
      | false =>
        have HX : Hid (∀ (k : Nat) (y : ByteArray), m ≤ k → N[k]? = some y → lessB y s = false) := fun k y hk hy => by
          by_cases e : k = m
          · subst e; rw [hx] at hy; cases hy; exact hle
          · cases hys : lessB y s with
            | false => rfl
            | true =>
              have := lessB_trans (HR.out m k x y (by omega) hx hy) hys
              rw [hle] at this
              cases this
        have HLo := hid hlow
        have hle2 : Op.bytesLess x.toList s.toList = false := hle
        clear hx hm hlow hhigh hw hle
        go_wp2
        exact ⟨⟨lo, m, hm2, by omega, rfl, by rw [hm1], HW.out, HLo.out, HX.out⟩, by simp [intOf]; omega⟩
    · have SP : Hid (Spot N s lo) := ⟨by omega, hlow, fun k x hk => hhigh k x (by omega)⟩
      have HW := hid hw
      clear hlow hhigh hw
      go_wp2
      go_ret
      exact ⟨lo, SP.out, rfl, HW.out⟩

/-- the place of a name, or -1. -/
def placeN (N : List ByteArray) (P : List Int) (s : ByteArray) : Int := match N.findIdx? (fun x => decide (x = s)) with
  | some i => P.getD i 0
  | none => -1
theorem placeN_some {N : List ByteArray} {P : List Int} {s : ByteArray} {i : Nat} (hr : Rising N) (h : N[i]? = some s) : placeN N P s = P.getD i 0 := by
  unfold placeN
  have hi := (List.getElem?_eq_some_iff.1 h).1
  have hv := (List.getElem?_eq_some_iff.1 h).2
  have : N.findIdx? (fun x => decide (x = s)) = some i := by
    rw [List.findIdx?_eq_some_iff_getElem]
    refine ⟨hi, by simpa using hv, fun j hj => ?_⟩
    have hjn : N[j]? = some (N[j]'(by omega)) := List.getElem?_eq_getElem _
    have := hr j i _ _ hj hjn h
    simp only [decide_eq_true_eq]
    intro e
    rw [e, lessB_irrefl] at this
    cases this
  rw [this]
theorem placeN_none {N : List ByteArray} {P : List Int} {s : ByteArray} (h : s ∉ N) : placeN N P s = -1 := by
  unfold placeN
  have : N.findIdx? (fun x => decide (x = s)) = none := by
    rw [List.findIdx?_eq_none_iff]
    intro x hx
    simp only [decide_eq_false_iff_not]
    intro e
    exact h (e ▸ hx)
  rw [this]
theorem beq_names (x s : ByteArray) : (x.toList == s.toList) = decide (x = s) := by
  rw [ByteArray.toList_eq, ByteArray.toList_eq]
  by_cases h : x = s
  · subst h; simp
  · have h2 : ¬ x.data.toList = s.data.toList := fun e => h (Go.WideShapes.bytes_inj e)
    rw [decide_eq_false h]
    exact beq_eq_false_iff_ne.2 h2

set_option maxHeartbeats 2000000 in
set_option maxRecDepth 100000 in
theorem placeD_any (kb : Nat) (sn sp : Option Addr) (cn cp : Nat) (N : List ByteArray) (P : List Int) (s : ByteArray) (w : World) (hk : w.heap[kb]? = some (.cells #[.slice sn N.length cn, .slice sp N.length cp] 45 (0, 0))) (hn : CellsAt w sn (ns N)) (hp : CellsAt w sp (nu P)) (hPl : P.length = N.length) (hr : Rising N) (hl : N.length ≤ 1048576) :
    Calls Tryd.prog 22 #[.pointer (some ⟨kb, 0, none⟩), .string s] w fun e w' => e = .returned (.int .i64 (placeN N P s)) ∧ Below w.heap.size w w' := by
  have FD := hid (find_any kb sn cn (.slice sp N.length cp) N s w hk hn hr hl)
  have KB : Hid (∀ W, Below w.heap.size w W → (∀ j, W.cell? ⟨kb, j, none⟩ = (#[.slice sn N.length cn, .slice sp N.length cp] : Array Value)[j]?) ∧ kb < W.heap.size) := fun W hW => by
    have h2 := (hW.block _ (Array.getElem?_eq_some_iff.1 hk).1).trans hk
    exact ⟨fun j => cell_row h2 j, (Array.getElem?_eq_some_iff.1 h2).1⟩
  have HN := hid hn
  have HP := hid hp
  have HR := hid hr
  have HPL := hid hPl
  clear hk hn hp hr hPl
  go_enter Tryd.func22, Tryd.ntmps22
  go_wp2_with (fail)
  with_reducible refine FD.out.mono ?_
  rintro e w1 ⟨i, hsp, rfl, b1⟩
  have hile := hsp.le
  obtain ⟨c1, hb1⟩ := KB.out _ b1
  have B1 := hid b1
  by_cases hi : i < N.length
  · obtain ⟨x, hx⟩ : ∃ x, N[i]? = some x := ⟨_, List.getElem?_eq_getElem hi⟩
    obtain ⟨y, hy⟩ : ∃ y, P[i]? = some y := ⟨_, List.getElem?_eq_getElem (by have := HPL.out; omega)⟩
    obtain ⟨bn, on, rfl, hbn, d0⟩ := name_at (HN.out.below b1) i x hx
    obtain ⟨bp, op, rfl, hbp, d1⟩ := num_at (HP.out.below b1) i y hy
    by_cases hxs : x = s
    · have hpl : Hid (placeN N P s = y) := by
        show _ = _
        rw [placeN_some HR.out (by rw [hx, hxs]), List.getD_eq_getElem?_getD, hy]
        rfl
      have he : (x.toList == s.toList) = true := by rw [beq_names]; exact decide_eq_true hxs
      clear hx hy hsp b1 hxs
      go_wp2
      go_ret
      rw [hpl.out]
      exact ⟨rfl, B1.out⟩
    · have hpl : Hid (placeN N P s = -1) := placeN_none (fun hm => by rw [(hsp.mem HR.out).1 hm] at hx; exact hxs (Option.some.inj hx).symm)
      have he : (x.toList == s.toList) = false := by rw [beq_names]; exact decide_eq_false hxs
      clear hx hy hsp b1 hxs
      go_wp2
      go_ret
      rw [hpl.out]
      exact ⟨rfl, B1.out⟩
  · have hpl : Hid (placeN N P s = -1) := placeN_none (fun hm => by
      have := (hsp.mem HR.out).1 hm
      have := (List.getElem?_eq_some_iff.1 this).1
      omega)
    clear hsp b1
    go_wp2
    go_ret
    rw [hpl.out]
    exact ⟨rfl, B1.out⟩
end Go.Proofs.YtfmmmhcpdinhgabDoor
/-
  The document's own table of names: add.
-/
namespace Go.Proofs.YtfmmmhcpdinhgabDoor
open Go.RowKit Go.Deep PureNet
set_option maxRecDepth 100000

theorem info9 : (Tryd.prog.info? 9).map (fun i => (i.zero, i.size, i.bytes)) = some (some (.string ⟨#[]⟩), 1, 16) := by kernel_rfl
theorem ownsRow_store2 {W : World} {b B e size n t i : Nat} {v u : Value} {xs : List Value} {cs : Array Value} {fz : Nat × Nat} (h : W.ownsRow B e size v n xs) (hr : W.heap[b]? = some (.cells cs t fz)) (hte : t ≠ e) : (W.setCell ⟨b, i, none⟩ u).ownsRow B e size v n xs := by
  have hne := own_ne h hr hte
  refine ⟨h.1, ?_⟩
  rcases h.2 with hn | ⟨g, cap, cur, hv, hB, hg, rest⟩
  · exact .inl hn
  · refine .inr ⟨g, cap, cur, hv, hB, (Below.heap_setCell W _ _ _ ?_).trans hg, rest⟩
    intro e
    exact hne (by rw [hv]; simp [Value.ownBlock]; exact e)
/-- where a run begins: the base, the world, the two rows as they are there. -/
structure Kst where
  w : World
  w1 : World
  nv : Value
  pv : Value
/-- the table of names: its box, its two lists, rising; and what stays since the run began. -/
structure Kn (S : Kst) (W : World) (kb : Nat) (nv pv : Value) (N : List ByteArray) (P : List Int) : Prop where
  row : W.heap[kb]? = some (.cells #[nv, pv] 45 (0, 0))
  hB : S.w.heap.size ≤ kb
  on_ : W.ownsRow S.w.heap.size 9 1 nv N.length (ns N)
  op : W.ownsRow S.w.heap.size 3 1 pv P.length (nu P)
  below : Below S.w.heap.size S.w W
  sz : S.w1.heap.size ≤ W.heap.size
  fr : ∀ k, k < S.w1.heap.size → k ≠ kb → S.nv.ownBlock ≠ some k → S.pv.ownBlock ≠ some k → W.heap[k]? = S.w1.heap[k]?
  fn : ∀ g, nv.ownBlock = some g → S.nv.ownBlock = some g ∨ S.w1.heap.size ≤ g
  fp : ∀ g, pv.ownBlock = some g → S.pv.ownBlock = some g ∨ S.w1.heap.size ≤ g
section
variable {S : Kst} {W W' : World} {kb : Nat} {nv pv nv' pv' : Value} {N : List ByteArray} {P : List Int}
theorem Kn.size (h : Kn S W kb nv pv N P) : kb < W.heap.size := (Array.getElem?_eq_some_iff.1 h.row).1
theorem Kn.on (h : Kn S W kb nv pv N P) (hb : Below W.heap.size W W') : Kn S W' kb nv pv N P :=
  ⟨(hb.block _ h.size).trans h.row, h.hB, ownsRow_below h.on_ hb, ownsRow_below h.op hb, h.below.trans (hb.mono h.below.size), Nat.le_trans h.sz hb.size, fun k hk h1 h2 h3 => (hb.block k (Nat.lt_of_lt_of_le hk h.sz)).trans (h.fr k hk h1 h2 h3), h.fn, h.fp⟩
theorem Kn.nne (h : Kn S W kb nv pv N P) {k : Nat} (hk : k < S.w1.heap.size) (h2 : S.nv.ownBlock ≠ some k) : some k ≠ nv.ownBlock := fun e => by
  rcases h.fn k e.symm with h3 | h3
  · exact h2 h3
  · omega
theorem Kn.pne (h : Kn S W kb nv pv N P) {k : Nat} (hk : k < S.w1.heap.size) (h2 : S.pv.ownBlock ≠ some k) : some k ≠ pv.ownBlock := fun e => by
  rcases h.fp k e.symm with h3 | h3
  · exact h2 h3
  · omega
theorem Kn.name (h : Kn S W kb nv pv N P) {x : ByteArray} (ho : W'.ownsRow S.w.heap.size 9 1 nv' (N.length + 1) (ns N ++ [.string x])) (hg : W.grownBy W' nv.ownBlock) (hf : ∀ g, nv'.ownBlock = some g → nv.ownBlock = some g ∨ W.heap.size ≤ g) :
    W'.heap[kb]? = some (.cells #[nv, pv] 45 (0, 0)) ∧ Kn S (W'.setCell ⟨kb, 0, none⟩ nv') kb nv' pv (N ++ [x]) P := by
  have hrow : W'.heap[kb]? = some (.cells #[nv, pv] 45 (0, 0)) := (hg.block kb h.size (Ne.symm (own_ne h.on_ h.row (by decide)))).trans h.row
  refine ⟨hrow, ⟨by have := row_set (i := 0) (u := nv') hrow; simpa using this, h.hB, ?_, ownsRow_store2 (own_kept h.op h.on_ hg (by decide)) hrow (by decide), (h.below.grown hg h.below.size (fun j hj => (h.on_.lt j hj).1)).setCell h.hB _, by simpa using Nat.le_trans h.sz hg.size, fun k hk h1 h2 h3 => (Below.heap_setCell W' _ _ _ (fun e => h1 (by first | exact e | exact e.symm))).trans ((hg.block k (Nat.lt_of_lt_of_le hk h.sz) (h.nne hk h2)).trans (h.fr k hk h1 h2 h3)), fun g hg2 => ?_, h.fp⟩⟩
  · have := ownsRow_store2 (i := 0) (u := nv') ho hrow (by decide)
    rw [List.length_append, ns, List.map_append]
    exact this
  · rcases hf g hg2 with h1 | h1
    · exact h.fn g h1
    · exact .inr (Nat.le_trans h.sz h1)
theorem Kn.place (h : Kn S W kb nv pv N P) {x : Int} (ho : W'.ownsRow S.w.heap.size 3 1 pv' (P.length + 1) (nu P ++ [.int .i64 x])) (hg : W.grownBy W' pv.ownBlock) (hf : ∀ g, pv'.ownBlock = some g → pv.ownBlock = some g ∨ W.heap.size ≤ g) :
    W'.heap[kb]? = some (.cells #[nv, pv] 45 (0, 0)) ∧ Kn S (W'.setCell ⟨kb, 1, none⟩ pv') kb nv pv' N (P ++ [x]) := by
  have hrow : W'.heap[kb]? = some (.cells #[nv, pv] 45 (0, 0)) := (hg.block kb h.size (Ne.symm (own_ne h.op h.row (by decide)))).trans h.row
  refine ⟨hrow, ⟨by have := row_set (i := 1) (u := pv') hrow; simpa using this, h.hB, ownsRow_store2 (own_kept h.on_ h.op hg (by decide)) hrow (by decide), ?_, (h.below.grown hg h.below.size (fun j hj => (h.op.lt j hj).1)).setCell h.hB _, by simpa using Nat.le_trans h.sz hg.size, fun k hk h1 h2 h3 => (Below.heap_setCell W' _ _ _ (fun e => h1 (by first | exact e | exact e.symm))).trans ((hg.block k (Nat.lt_of_lt_of_le hk h.sz) (h.pne hk h3)).trans (h.fr k hk h1 h2 h3)), h.fn, fun g hg2 => ?_⟩⟩
  · have := ownsRow_store2 (i := 1) (u := pv') ho hrow (by decide)
    rw [List.length_append, nu, List.map_append]
    exact this
  · rcases hf g hg2 with h1 | h1
    · exact h.fp g h1
    · exact .inr (Nat.le_trans h.sz h1)
end

/-- an owned row of cells of one, opened. -/
theorem own_open {W : World} {B e n : Nat} {v : Value} {xs : List Value} (h : W.ownsRow B e 1 v n xs) (hn : 0 < n) : ∃ g cap cur, v = .slice (some ⟨g, 0, none⟩) n cap ∧ W.heap[g]? = some (.cells cur e (0, 0)) ∧ B ≤ g ∧ n ≤ cap ∧ cap ≤ maxLen ∧ cur.size = cap ∧ cur.toList.take n = xs := by
  rcases h.2 with ⟨_, h0⟩ | ⟨g, cap, cur, hv, hB, hg, hk, hm, hs, ht⟩
  · omega
  · exact ⟨g, cap, cur, hv, hg, hB, hk, hm, by simpa using hs, by simpa using ht⟩

theorem setRow_grown (W : World) (g : Nat) (cs : Array Value) : W.grownBy (W.setRow g cs) (some g) := ⟨rfl, rfl, rfl, by simp [World.setRow], fun k hk hne => setRow_other _ _ _ _ (fun e => hne (by rw [e]))⟩
/-- the copy of all from i on by one place. -/
theorem copy_up {W : World} {g cap n i : Nat} {cur : Array Value} {t e : TypeId} {xs : List Value} {z : Value} (hu : Tryd.prog.underlying t = some (.slice e)) (hs : (Tryd.prog.info? e).map (·.size) = some 1) (hg : W.heap[g]? = some (.cells cur e (0, 0))) (hsz : cur.size = cap) (hc : n + 1 ≤ cap) (hi : i ≤ n) (hx : xs.length = n) (ht : cur.toList.take (n + 1) = xs ++ [z]) (h1 : ∀ v ∈ xs, v.oneCell' = true) (q1 : ¬ cap = i) :
    ∃ cur', (Builtin.copy_ #[t, t] 3 #[.slice (if cap = i + 1 then some ⟨g, 0, none⟩ else some ⟨g, i + 1, none⟩) (n - i) (cap - (i + 1)), .slice (if cap = i then some ⟨g, 0, none⟩ else some ⟨g, i, none⟩) (n + 1 - i) (cap - i)]).run Tryd.prog W = .ok (.int .i64 ((n - i : Nat) : Int)) (W.setRow g cur') ∧ cur'.size = cap ∧ cur'.toList.take (n + 1) = (xs ++ [z]).take (i + 1) ++ xs.drop i := by
  have hcl : (xs.drop i).length = n - i := by simp [hx]
  have hlen : cur.toList.length = cap := by simpa using hsz
  have hget : ∀ k, k < n → cur.toList[k]? = xs[k]? := fun k hk => by
    have : (cur.toList.take (n + 1))[k]? = (xs ++ [z])[k]? := by rw [ht]
    rw [List.getElem?_take_of_lt (by omega), List.getElem?_append_left (by omega)] at this
    exact this
  by_cases q2 : cap = i + 1
  · have hin : i = n := by omega
    subst hin
    refine ⟨cur, ?_, hsz, ?_⟩
    · have := run_copy_row (P := Tryd.prog) W t t 3 e g 0 0 0 ⟨g, i, none⟩ 1 1 cur e [] hu hs hg (by simp) (fun j v hj => by simp at hj) (by simp) (fun v hv => by cases hv)
      rw [if_pos q2, if_neg q1, show i - i = 0 by omega, show cap - (i + 1) = 0 by omega, show i + 1 - i = 1 by omega, show cap - i = 1 by omega]
      simpa [goInt] using this
    · rw [ht, List.take_of_length_le (by simp [hx]), List.drop_of_length_le (by omega), List.append_nil]
  · refine ⟨(cur.toList.take (i + 1) ++ xs.drop i ++ cur.toList.drop (i + 1 + (xs.drop i).length)).toArray, ?_, ?_, ?_⟩
    · have := run_copy_row (P := Tryd.prog) W t t 3 e g (i + 1) (n - i) (cap - (i + 1)) ⟨g, i, none⟩ (n + 1 - i) (cap - i) cur e (xs.drop i) hu hs hg (by rw [hcl]; exact (Nat.min_eq_right (by omega)).symm) (fun j v hj => by
        have hjl := (List.getElem?_eq_some_iff.1 hj).1
        rw [hcl] at hjl
        rw [List.getElem?_drop] at hj
        rw [add_plain, cell_row hg]
        have := hget (i + j) (by omega)
        rw [hj] at this
        simpa using this) (by rw [hcl]; omega) (fun v hv => h1 v (List.mem_of_mem_drop hv))
      rw [if_neg q2, if_neg q1, this, hcl]
      rfl
    · simp [hcl, hlen]; omega
    · have e1 : (cur.toList.take (i + 1) ++ xs.drop i).length = n + 1 := by simp [hlen, hx]; omega
      rw [List.take_append_of_le_length (by omega), List.take_of_length_le (by omega)]
      congr 1
      rw [← ht, List.take_take, Nat.min_eq_left (by omega)]

theorem size9 : (Tryd.prog.info? 9).map (·.size) = some 1 := by kernel_rfl
theorem size3 : (Tryd.prog.info? 3).map (·.size) = some 1 := by kernel_rfl
section
variable {S : Kst} {W W' : World} {kb g m cap : Nat} {nv pv : Value} {N N' : List ByteArray} {P P' : List Int} {cur : Array Value}
/-- the names written over. -/
theorem Kn.names (h : Kn S W kb (.slice (some ⟨g, 0, none⟩) m cap) pv N P) (hg : W.grownBy W' (some g)) (hr : W'.heap[g]? = some (.cells cur 9 (0, 0))) (hsz : cur.size = cap) (hcap : m ≤ cap) (hm : cap ≤ maxLen) (hN : N'.length = m) (ht : cur.toList.take m = ns N') : Kn S W' kb (.slice (some ⟨g, 0, none⟩) m cap) pv N' P := by
  have hgr : W.grownBy W' (Value.slice (some ⟨g, 0, none⟩) m cap).ownBlock := by simpa [Value.ownBlock] using hg
  have hB : S.w.heap.size ≤ g := (h.on_.lt g (by simp [Value.ownBlock])).1
  exact ⟨(hgr.block kb h.size (Ne.symm (own_ne h.on_ h.row (by decide)))).trans h.row, h.hB, ⟨by simp [ns], .inr ⟨g, cap, cur, by rw [hN], hB, hr, by omega, hm, by simpa using hsz, by rw [hN, Nat.mul_one]; exact ht⟩⟩, own_kept h.op h.on_ hgr (by decide), h.below.grown hg h.below.size (fun j hj => by cases hj; exact hB), Nat.le_trans h.sz hg.size, fun k hk h1 h2 h3 => (hgr.block k (Nat.lt_of_lt_of_le hk h.sz) (h.nne hk h2)).trans (h.fr k hk h1 h2 h3), h.fn, h.fp⟩
/-- the places written over. -/
theorem Kn.places (h : Kn S W kb nv (.slice (some ⟨g, 0, none⟩) m cap) N P) (hg : W.grownBy W' (some g)) (hr : W'.heap[g]? = some (.cells cur 3 (0, 0))) (hsz : cur.size = cap) (hcap : m ≤ cap) (hm : cap ≤ maxLen) (hP : P'.length = m) (ht : cur.toList.take m = nu P') : Kn S W' kb nv (.slice (some ⟨g, 0, none⟩) m cap) N P' := by
  have hgr : W.grownBy W' (Value.slice (some ⟨g, 0, none⟩) m cap).ownBlock := by simpa [Value.ownBlock] using hg
  have hB : S.w.heap.size ≤ g := (h.op.lt g (by simp [Value.ownBlock])).1
  exact ⟨(hgr.block kb h.size (Ne.symm (own_ne h.op h.row (by decide)))).trans h.row, h.hB, own_kept h.on_ h.op hgr (by decide), ⟨by simp [nu], .inr ⟨g, cap, cur, by rw [hP], hB, hr, by omega, hm, by simpa using hsz, by rw [hP, Nat.mul_one]; exact ht⟩⟩, h.below.grown hg h.below.size (fun j hj => by cases hj; exact hB), Nat.le_trans h.sz hg.size, fun k hk h1 h2 h3 => (hgr.block k (Nat.lt_of_lt_of_le hk h.sz) (h.pne hk h3)).trans (h.fr k hk h1 h2 h3), h.fn, h.fp⟩
end
/-- a name put in at its spot. -/
theorem Rising.insert {N : List ByteArray} {s : ByteArray} {i : Nat} (hr : Rising N) (hs : Spot N s i) (hn : s ∉ N) : Rising (N.take i ++ s :: N.drop i) := by
  have hle := hs.le
  have hlt : (N.take i).length = i := by simp; omega
  have get : ∀ (k : Nat) (x : ByteArray), (N.take i ++ s :: N.drop i)[k]? = some x → (k < i ∧ N[k]? = some x) ∨ (k = i ∧ x = s) ∨ (i < k ∧ N[k - 1]? = some x) := fun k x hk => by
    by_cases h1 : k < i
    · rw [List.getElem?_append_left (by omega), List.getElem?_take_of_lt h1] at hk
      exact .inl ⟨h1, hk⟩
    · rw [List.getElem?_append_right (by omega), hlt] at hk
      by_cases h2 : k = i
      · subst h2
        rw [Nat.sub_self, List.getElem?_cons_zero] at hk
        exact .inr (.inl ⟨rfl, (Option.some.inj hk).symm⟩)
      · rw [show k - i = (k - i - 1) + 1 by omega, List.getElem?_cons_succ, List.getElem?_drop, show i + (k - i - 1) = k - 1 by omega] at hk
        exact .inr (.inr ⟨by omega, hk⟩)
  have after : ∀ (k : Nat) (y : ByteArray), i ≤ k → N[k]? = some y → lessB s y = true := fun k y hk hy =>
    lessB_total (hs.high k y hk hy) (fun e => hn (e ▸ List.mem_of_getElem? hy))
  intro a b x y hab hx hy
  rcases get a x hx with ⟨a1, a2⟩ | ⟨a1, rfl⟩ | ⟨a1, a2⟩
  · rcases get b y hy with ⟨b1, b2⟩ | ⟨b1, rfl⟩ | ⟨b1, b2⟩
    · exact hr a b x y hab a2 b2
    · exact hs.low a x a1 a2
    · exact lessB_trans (hs.low a x a1 a2) (after (b - 1) y (by omega) b2)
  · rcases get b y hy with ⟨b1, b2⟩ | ⟨b1, rfl⟩ | ⟨b1, b2⟩
    · omega
    · omega
    · exact after (b - 1) y (by omega) b2
  · rcases get b y hy with ⟨b1, b2⟩ | ⟨b1, rfl⟩ | ⟨b1, b2⟩
    · omega
    · omega
    · exact hr (a - 1) (b - 1) x y (by omega) a2 b2
end Go.Proofs.YtfmmmhcpdinhgabDoor
/-
  Lists that were handed out, and what is grown out of them: which blocks turn, which stay. For any program.
-/
namespace ShfKit
open Go Go.RowKit
set_option maxRecDepth 100000

section
variable {P : Program} {w w' W W' : World} {B B' e size n m : Nat} {v u : Value} {xs news A M : List Value}

theorem own_base (h : w.ownsRow B' e size v n xs) (hB : B ≤ B') : w.ownsRow B e size v n xs := by
  refine ⟨h.1, ?_⟩
  rcases h.2 with hn | ⟨g, cap, cur, hv, hb, rest⟩
  · exact .inl hn
  · exact .inr ⟨g, cap, cur, hv, Nat.le_trans hB hb, rest⟩
theorem own_block (h : w.ownsRow B e size v n xs) {g : Nat} (hg : v.ownBlock = some g) : B ≤ g ∧ g < w.heap.size := by
  rcases h.2 with ⟨hv, _⟩ | ⟨g', cap, cur, hv, hb, hr, _⟩
  · rw [hv] at hg; cases hg
  · rw [hv] at hg
    simp only [Value.ownBlock, Option.some.injEq] at hg
    subst hg
    exact ⟨hb, (Array.getElem?_eq_some_iff.1 hr).1⟩
theorem own_kept (h : w.ownsRow B e size v n xs) (hk : ∀ g, v.ownBlock = some g → w'.heap[g]? = w.heap[g]?) : w'.ownsRow B e size v n xs := by
  refine ⟨h.1, ?_⟩
  rcases h.2 with hn | ⟨g, cap, cur, hv, hb, hr, rest⟩
  · exact .inl hn
  · exact .inr ⟨g, cap, cur, hv, hb, (hk g (by rw [hv]; rfl)).trans hr, rest⟩

/-- append: where it stood, or in a block that is new. -/
theorem run_append_far (w : World) (B : Nat) (t ty e : TypeId) (i : TypeInfo) (z : Value) (size bytes : Nat) (ht : P.underlying t = some (.slice e)) (hi : P.info? e = some i) (hz : i.zero = some z)
    (hsize : i.size = size) (hby : i.bytes = bytes) (hzs : z.cells.size = size) (hsz : 0 < size)
    (v : Value) (n : Nat) (xs : List Value) (hown : w.ownsRow B e size v n xs)
    (a : Addr) (m c : Nat) (news : List Value) (hl : news.length = m * size) (hnews : ∀ j u, news[j]? = some u → w.cell? (a.add j) = some u) (h1 : ∀ u ∈ news, u.oneCell' = true)
    (h63 : n + m ≤ maxLen) (hbytes : (n + m) * bytes ≤ 140737488355328) (hbase : B ≤ w.heap.size) :
    ∃ v' w', (Builtin.append_ #[t, t] ty #[v, .slice (some a) m c]).run P w = .ok v' w' ∧ w'.ownsRow B e size v' (n + m) (xs ++ news) ∧
      ((v'.ownBlock = v.ownBlock ∧ w.grownBy w' v.ownBlock) ∨ ((∀ g, v'.ownBlock = some g → w.heap.size ≤ g) ∧ w.grownBy w' none)) := by
  rcases hown.2 with ⟨rfl, rfl⟩ | ⟨g, cap, cur, rfl, hb, hr, hnc, hcm, hcs, htk⟩
  · obtain rfl : xs = [] := List.eq_nil_of_length_eq_zero (by simpa using hown.1)
    obtain ⟨v', w', hrun, r1, r2, _⟩ := run_append_own (P := P) w w.heap.size t ty e i z size bytes ht hi hz hsize hby hzs hsz (.slice none 0 0) 0 [] (World.ownsRow_nil w _ e size) a m c news hl hnews h1 h63 hbytes (Nat.le_refl _)
    exact ⟨v', w', hrun, own_base r1 hbase, .inr ⟨fun g hg => (own_block r1 hg).1, r2⟩⟩
  · by_cases hroom : n + m ≤ cap
    · obtain ⟨w', hrun, r1, r2⟩ := run_append_own_spare (P := P) w B t ty e i size ht hi hsize g n cap xs hown a m c news hl hnews h1 hroom
      exact ⟨_, w', hrun, r1, .inl ⟨rfl, r2⟩⟩
    · have hold : ∀ j u, xs[j]? = some u → w.cell? ((⟨g, 0, none⟩ : Addr).add j) = some u := fun j u hj => by
        rw [Addr.add_lit, Nat.zero_add]
        have h1 : cur.toList[j]? = some u := by
          rw [← htk] at hj
          rw [List.getElem?_take] at hj
          split at hj
          · exact hj
          · cases hj
        simp [World.cell?, hr]
        simpa using h1
      obtain ⟨v', w', hrun, r1, r2⟩ := run_append_arg_grows (P := P) w t ty e i z size bytes ht hi hz hsize hby hzs hsz ⟨g, 0, none⟩ n cap xs hown.1 hold a m c news hl hnews (by omega) h63 hbytes
      exact ⟨v', w', hrun, own_base r1 hbase, .inr ⟨fun g hg => (own_block r1 hg).1, r2⟩⟩

/-- the same, for the walk. -/
theorem wpList_append_far {ops : Array Oper} {rest : List Oper} {o : Oper} {a : Act} {Q : Exit → Act → World → Prop} (w : World)
    (hg : o.guard = none) (s x : Operand) (t : TypeId) (hop : o.op = Op.call { callee := Callee.builtin Builtin.append, args := #[s, x], argTypes := #[t, t] })
    (B : Nat) (e : TypeId) (i : TypeInfo) (z : Value) (size bytes : Nat) (ht : P.underlying t = some (.slice e)) (hi : P.info? e = some i) (hz : i.zero = some z)
    (hsize : i.size = size) (hby : i.bytes = bytes) (hzs : z.cells.size = size) (hsz : 0 < size)
    (v : Value) (n : Nat) (xs : List Value) (hs : a.eval s = v) (hown : w.ownsRow B e size v n xs)
    (ad : Addr) (m c : Nat) (news : List Value) (hx : a.eval x = .slice (some ad) m c) (hl : news.length = m * size) (hnews : ∀ j u, news[j]? = some u → w.cell? (ad.add j) = some u) (h1 : ∀ u ∈ news, u.oneCell' = true)
    (h63 : n + m ≤ maxLen) (hbytes : (n + m) * bytes ≤ 140737488355328) (hbase : B ≤ w.heap.size)
    (hK : ∀ v' w', w'.ownsRow B e size v' (n + m) (xs ++ news) → ((v'.ownBlock = v.ownBlock ∧ w.grownBy w' v.ownBlock) ∨ ((∀ g, v'.ownBlock = some g → w.heap.size ≤ g) ∧ w.grownBy w' none)) → wpList P ops Q rest (a.put o.dst v') w') :
    wpList P ops Q (o :: rest) a w := by
  refine wpList_plain hg fun K hK' => ?_
  obtain ⟨v', w', hrun, r1, r2⟩ := run_append_far (P := P) w B t o.type e i z size bytes ht hi hz hsize hby hzs hsz v n xs hown ad m c news hl hnews h1 h63 hbytes hbase
  unfold Oper.wp
  simp [execOp, hop, resolve, invoke, builtin, hs, hx, hrun, Result.andThen]
  exact hK' _ _ (hK v' w' r1 r2)


end
end ShfKit
