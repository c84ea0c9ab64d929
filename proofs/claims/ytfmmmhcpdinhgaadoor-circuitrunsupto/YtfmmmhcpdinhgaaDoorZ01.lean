import Derived.Lib.BufSteps
import Derived.Lib.ItoaLen
import Derived.Lib.Strings
import Derived.WalkKit
import Derived.WalkSpells
import Derived.WalkLawsBesides
import Derived.Deep.QuietTactic
import Derived.Deep.RegionHeld3
import Derived.Deep.RegionWith
import Derived.Deep.RegionLaw
import Derived.Deep.DeepCutAuto
import Derived.Deep.OwnRows
import Derived.Laws.LoneSync
import Derived.Lib.OwnKind
import Derived.OwnWalk
import Derived.Below
import Derived.Laws.IdiomStrings
import Derived.Laws.CopyRow
import Derived.Laws.OwnMore
import Derived.Laws.Tables
import Derived.Laws.MakeOwn
import Derived.Deep.CutBlock
import Derived.OpenShut
import Derived.SizedLaws
import Derived.ProofKit
import Derived.Deep.Slices
import Derived.ChangeArms
import Derived.DataElems
import Derived.Deep.DeepHandedRow
import Derived.Deep.DeepWitnessRowRef
import Derived.SevenTiedAt
import Derived.Laws.AppendOwn
import Derived.Deep.DeepAppendRoom
import Derived.ArgAppend
import Derived.BigQuiet
import Derived.Maps.OwnSet
import Derived.Maps.Views
import Derived.Maps.OwnOps
import Derived.StringKeys
import Derived.Deep.LoopGhost
import Derived.Shelf.Sort.Plain
import Derived.Sort.OwnSortedInts
import Derived.ScopeJumps
import Derived.Test.YtfmmmhcpdinhgaaDoorRows
import Derived.Test.YtfmmmhcpdinhgaaDoorTie
import Derived.Test.YtfmmmhcpdinhgaaDoorCards
/-
  Circuits: what the document says of them, by lists.
-/
namespace PureNet
set_option maxRecDepth 100000

/-- a line. -/
structure Ga where
  kind : Int
  name : ByteArray
  op : Int
  a : Int
  b : Int
  c : Int
structure Net where
  name : ByteArray
  gates : List Ga
  outs : List Int

def letB (c : UInt8) : Bool := decide ((97 ≤ c.toNat ∧ c.toNat ≤ 122) ∨ (65 ≤ c.toNat ∧ c.toNat ≤ 90) ∨ c.toNat = 95)
def nameCB (c : UInt8) : Bool := letB c || decide ((48 ≤ c.toNat ∧ c.toNat ≤ 57) ∨ c.toNat = 46)
def nameL : List UInt8 → Bool
  | [] => false
  | c :: r => letB c && r.all nameCB && decide (r.length ≤ 31)
def nameB (s : ByteArray) : Bool := nameL s.data.toList

def leansOn (g : Ga) : List Int := if g.kind = 2 then [g.a, g.b] else if g.kind = 4 then [g.a, g.b, g.c] else []
def fieldB (v : Int) (used : Bool) (n : Nat) : Bool := if used then decide (0 ≤ v ∧ v < n) else decide (v = 0)
def mostOp (k : Int) : Int := if k = 2 then 15 else if k = 3 then 1 else 0
def lineB (g : Ga) (n : Nat) : Bool :=
  decide (1 ≤ g.kind ∧ g.kind ≤ 4 ∧ 0 ≤ g.op ∧ g.op ≤ mostOp g.kind) && fieldB g.a (decide (g.kind ≠ 1)) n && fieldB g.b (decide (g.kind = 2 ∨ g.kind = 4)) n && fieldB g.c (decide (g.kind = 4)) n

/-- a line leans on another. -/
def Leans (l : List Ga) (i j : Nat) : Prop := ∃ g, l[i]? = some g ∧ (j : Int) ∈ leansOn g
def Way (l : List Ga) (i j : Nat) : Prop := ∀ P : Nat → Nat → Prop, (∀ a b, Leans l a b → P a b) → (∀ a b c, Leans l a b → P b c → P a c) → P i j
theorem Way.one {l : List Ga} {i j : Nat} (h : Leans l i j) : Way l i j := fun _ h1 _ => h1 _ _ h
theorem Way.more {l : List Ga} {i j k : Nat} (h : Leans l i j) (w : Way l j k) : Way l i k := fun P h1 h2 => h2 _ _ _ h (w P h1 h2)
theorem Way.ind {l : List Ga} {motive : (i j : Nat) → Way l i j → Prop} (one : ∀ {i j : Nat} (h : Leans l i j), motive i j (Way.one h)) (more : ∀ {i j k : Nat} (h : Leans l i j) (w : Way l j k), motive j k w → motive i k (Way.more h w)) {i j : Nat} (t : Way l i j) : motive i j t := by
  obtain ⟨w, hw⟩ := t (fun a b => ∃ w : Way l a b, motive a b w) (fun a b h => ⟨Way.one h, one h⟩) (fun a b c h ⟨w, hw⟩ => ⟨Way.more h w, more h w hw⟩)
  exact hw
theorem Way.cas {l : List Ga} {motive : (i j : Nat) → Way l i j → Prop} (one : ∀ {i j : Nat} (h : Leans l i j), motive i j (Way.one h)) (more : ∀ {i j k : Nat} (h : Leans l i j) (w : Way l j k), motive i k (Way.more h w)) {i j : Nat} (t : Way l i j) : motive i j t := Way.ind one (fun h w _ => more h w) t
def Ranked (l : List Ga) (r : Nat → Nat) : Prop := ∀ i j, Leans l i j → r j < r i

structure Formed (c : Net) : Prop where
  name : nameB c.name = true
  few : c.gates.length ≤ 65536
  fewOuts : c.outs.length ≤ 65536
  lines : ∀ (i : Nat) (g : Ga), c.gates[i]? = some g → nameB g.name = true ∧ lineB g c.gates.length = true
  apart : ∀ (i j : Nat) (g h : Ga), c.gates[i]? = some g → c.gates[j]? = some h → g.name = h.name → i = j
  outs : ∀ o ∈ c.outs, 0 ≤ o ∧ o < (c.gates.length : Int)
  free : ∀ i, ¬ Way c.gates i i

/-- how many lines of that kind. -/
def cnt (k : Int) (l : List Ga) : Nat := (l.filter fun g => decide (g.kind = k)).length
def valAt (v : List Bool) (a : Int) : Bool := v.getD a.toNat false
def tab (op : Int) (x y : Bool) : Bool := op.toNat.testBit (2 * x.toNat + y.toNat)
def worth (l : List Ga) (ins las v : List Bool) (i : Nat) (g : Ga) : Bool :=
  if g.kind = 1 then ins.getD (cnt 1 (l.take i)) false
  else if g.kind = 3 then las.getD (cnt 3 (l.take i)) false
  else if g.kind = 4 then (if valAt v g.a then valAt v g.b else valAt v g.c)
  else tab g.op (valAt v g.a) (valAt v g.b)
/-- these are the values of all lines. -/
structure Vals (l : List Ga) (ins las v : List Bool) : Prop where
  len : v.length = l.length
  at_ : ∀ (i : Nat) (g : Ga), l[i]? = some g → v[i]? = some (worth l ins las v i g)
def outsOf (c : Net) (v : List Bool) : List Bool := c.outs.map (valAt v)
def nextOf (c : Net) (v : List Bool) : List Bool := (c.gates.filter fun g => decide (g.kind = 3)).map fun g => valAt v g.a
def firstsOf (l : List Ga) : List Bool := (l.filter fun g => decide (g.kind = 3)).map fun g => decide (g.op = 1)
/-- a run: from these latches, with these inputs, that goes out. -/
def RunP (c : Net) : List Bool → List (List Bool) → List (List Bool) → Prop
  | _, [], os => os = []
  | las, ins :: is, os => ∃ v os', os = outsOf c v :: os' ∧ Vals c.gates ins las v ∧ RunP c (nextOf c v) is os'
theorem RunP.nil {c : Net} {las : List Bool} : RunP c las [] [] := rfl
theorem RunP.cons {c : Net} {las ins v : List Bool} {is os : List (List Bool)} (h : Vals c.gates ins las v) (r : RunP c (nextOf c v) is os) : RunP c las (ins :: is) (outsOf c v :: os) := ⟨v, os, rfl, h, r⟩
theorem RunP.ind {c : Net} {motive : (las : List Bool) → (is os : List (List Bool)) → RunP c las is os → Prop} (nil : ∀ {las : List Bool}, motive las [] [] RunP.nil) (cons : ∀ {las ins v : List Bool} {is os : List (List Bool)} (h : Vals c.gates ins las v) (r : RunP c (nextOf c v) is os), motive (nextOf c v) is os r → motive las (ins :: is) (outsOf c v :: os) (RunP.cons h r)) : ∀ {las : List Bool} {is os : List (List Bool)} (t : RunP c las is os), motive las is os t
  | _, [], _, t => by
    obtain rfl := t
    exact nil
  | _, _ :: _, _, t => by
    obtain ⟨v, os', rfl, h, r⟩ := t
    exact cons h r (RunP.ind nil cons r)

theorem worth_congr {l : List Ga} {ins las v v' : List Bool} {i : Nat} {g : Ga} (hk : 1 ≤ g.kind ∧ g.kind ≤ 4) (h : ∀ a ∈ leansOn g, valAt v a = valAt v' a) : worth l ins las v i g = worth l ins las v' i g := by
  unfold worth
  by_cases h1 : g.kind = 1
  · simp [h1]
  by_cases h3 : g.kind = 3
  · simp [h3]
  by_cases h4 : g.kind = 4
  · have hl : leansOn g = [g.a, g.b, g.c] := by simp [leansOn, h4]
    rw [hl] at h
    simp only [h4]
    rw [h g.a (by simp), h g.b (by simp), h g.c (by simp)]
  · have h2 : g.kind = 2 := by omega
    have hl : leansOn g = [g.a, g.b] := by simp [leansOn, h2]
    rw [hl] at h
    simp only [h2]
    rw [h g.a (by simp), h g.b (by simp)]
    rfl
theorem lineB_kind {g : Ga} {n : Nat} (h : lineB g n = true) : 1 ≤ g.kind ∧ g.kind ≤ 4 := by
  simp only [lineB, Bool.and_eq_true, decide_eq_true_eq] at h
  exact ⟨h.1.1.1.1, h.1.1.1.2.1⟩
theorem lineB_leans {g : Ga} {n : Nat} (h : lineB g n = true) {a : Int} (ha : a ∈ leansOn g) : 0 ≤ a ∧ a < (n : Int) := by
  simp only [lineB, Bool.and_eq_true, decide_eq_true_eq, fieldB] at h
  obtain ⟨⟨⟨h0, h1⟩, h2⟩, h3⟩ := h
  unfold leansOn at ha
  by_cases e2 : g.kind = 2
  · simp [e2] at ha h1 h2
    rcases ha with rfl | rfl
    · exact h1
    · exact h2
  by_cases e4 : g.kind = 4
  · simp [e4] at ha h1 h2 h3
    rcases ha with rfl | rfl | rfl
    · exact h1
    · exact h2
    · exact h3
  · simp [e2, e4] at ha
theorem vals_unique {l : List Ga} {r : Nat → Nat} (hr : Ranked l r) (hl : ∀ (i : Nat) (g : Ga), l[i]? = some g → lineB g l.length = true) {ins las v v' : List Bool} (h : Vals l ins las v) (h' : Vals l ins las v') : v = v' := by
  have key : ∀ n i, r i < n → i < l.length → v[i]? = v'[i]? := by
    intro n
    induction n with
    | zero => intro i hi; omega
    | succ n ih =>
      intro i hi hlt
      have hg : l[i]? = some l[i] := List.getElem?_eq_getElem hlt
      rw [h.at_ i _ hg, h'.at_ i _ hg]
      refine congrArg some (worth_congr (lineB_kind (hl i _ hg)) fun a ha => ?_)
      obtain ⟨h0, h1⟩ := lineB_leans (hl i _ hg) ha
      have hj := hr i a.toNat ⟨_, hg, by rwa [Int.toNat_of_nonneg h0]⟩
      have := ih a.toNat (by omega) (by omega)
      simp only [valAt, List.getD_eq_getElem?_getD, this]
  apply List.ext_getElem?
  intro i
  by_cases hi : i < l.length
  · exact key (r i + 1) i (by omega) hi
  · rw [List.getElem?_eq_none (by have := h.len; omega), List.getElem?_eq_none (by have := h'.len; omega)]



end PureNet
/-
  General lemmas of the texts of circuit.
-/
namespace Go.Proofs.YtfmmmhcpdinhgaaDoor
open Go.RowKit Go.Deep PureNet
set_option maxRecDepth 100000

theorem hid {q : Prop} (h : q) : Hid q := h
theorem add_plain (g o k : Nat) : (⟨g, o, none⟩ : Addr).add k = ⟨g, o + k, none⟩ := by
  unfold Addr.add
  split <;> simp_all
theorem add_zero_addr (g j : Nat) : (⟨g, 0, none⟩ : Addr).add j = ⟨g, j, none⟩ := by rw [add_plain, Nat.zero_add]
theorem cell_row {w : World} {b : Nat} {c : Array Value} {t : TypeId} {fz : Nat × Nat} (h : w.heap[b]? = some (.cells c t fz)) (i : Nat) : w.cell? ⟨b, i, none⟩ = c[i]? := by simp [World.cell?, h]
theorem unfrozen_row {w : World} {b : Nat} {c : Array Value} {t : TypeId} (h : w.heap[b]? = some (.cells c t (0, 0))) (i : Nat) : w.frozen? ⟨b, i, none⟩ = false := by simp [World.frozen?, h]
theorem below_cell {B b o : Nat} {w w' : World} {x : Value} (hb : Below B w w') (hlt : b < B) (h : w.cell? ⟨b, o, none⟩ = some x) : w'.cell? ⟨b, o, none⟩ = some x := (hb.cell (p := ⟨b, o, none⟩) hlt).trans h
theorem below_drewN {B : Nat} {w W : World} (h : Below B w W) (n : Nat) : Below B w (W.drewN n) := ⟨h.os, h.tape, h.output, h.size, h.block⟩
theorem ownsRow_below {w W : World} {base e size n : Nat} {v : Value} {xs : List Value} (h : w.ownsRow base e size v n xs) (hb : Below w.heap.size w W) : W.ownsRow base e size v n xs := by
  refine ⟨h.1, ?_⟩
  rcases h.2 with hn | ⟨g, cap, cur, hv, hB, hg, rest⟩
  · exact .inl hn
  · exact .inr ⟨g, cap, cur, hv, hB, (hb.block g (Array.getElem?_eq_some_iff.1 hg).1).trans hg, rest⟩
theorem own_shape {W : World} {B e size n : Nat} {v : Value} {xs : List Value} (h : W.ownsRow B e size v n xs) : ∃ sa c, v = .slice sa n c := by
  rcases h.2 with ⟨hv, h0⟩ | ⟨g, cap, cur, hv, _⟩
  · exact ⟨none, 0, by rw [hv, h0]⟩
  · exact ⟨_, _, hv⟩
theorem row_set {W : World} {b : Nat} {cs : Array Value} {t i : Nat} {u : Value} (hr : W.heap[b]? = some (.cells cs t (0, 0))) : (W.setCell ⟨b, i, none⟩ u).heap[b]? = some (.cells (cs.setIfInBounds i u) t (0, 0)) := by
  have hb := (Array.getElem?_eq_some_iff.1 hr).1
  simp [World.setCell, Array.getElem?_modify, hr]
theorem own_ne {W : World} {b B e size n t : Nat} {v : Value} {xs : List Value} {cs : Array Value} {fz : Nat × Nat} (h : W.ownsRow B e size v n xs) (hr : W.heap[b]? = some (.cells cs t fz)) (hte : t ≠ e) : v.ownBlock ≠ some b := by
  intro hv
  obtain ⟨c, f, hk⟩ := Lib.ownsRow_kind h b hv
  rw [hr] at hk
  simp only [Option.some.injEq, Obj.cells.injEq] at hk
  exact hte hk.2.1
/-- an owned row of another type stays when a row grows. -/
theorem own_kept {W W' : World} {B B' e e' size size' n n' : Nat} {v v' : Value} {xs xs' : List Value} (h : W.ownsRow B e size v n xs) (h' : W.ownsRow B' e' size' v' n' xs') (hg : W.grownBy W' v'.ownBlock) (hne : e ≠ e') : W'.ownsRow B e size v n xs :=
  h.kept hg (by
    cases hv : v.ownBlock with
    | none => exact .inl rfl
    | some g =>
      right
      intro e
      obtain ⟨c1, f1, k1⟩ := Lib.ownsRow_kind h g hv
      exact own_ne h' k1 hne e.symm)

/-- append of one, in a region of the text's order. -/
theorem app_one {ops : Array Oper} {rest : List Oper} {o : Oper} {a : Act} {Q : Exit → Act → World → Prop} {w : World} (hgd : o.guard = none) (sl x : Operand) (t e : TypeId) (z : Value) (size bytes : Nat)
    (ho : o.op = .call { callee := .builtin .append, args := #[sl, x], argTypes := #[t, t] }) (hu : Tryd.prog.underlying t = some (.slice e)) (hinf : (Tryd.prog.info? e).map (fun i => (i.zero, i.size, i.bytes)) = some (some z, size, bytes))
    (hzs : z.cells.size = size) (hsz : 0 < size) (B n : Nat) (v : Value) (xs news : List Value) (ad : Addr) (hs : a.eval sl = v) (hown : w.ownsRow B e size v n xs) (hx : a.eval x = .slice (some ad) 1 1)
    (hl : news.length = size) (hnews : ∀ j u, news[j]? = some u → w.cell? (ad.add j) = some u) (h1 : ∀ u ∈ news, u.oneCell' = true) (hn : n ≤ 140737488351232) (hby : (n + 1) * bytes ≤ 140737488351233) (hB : B ≤ w.heap.size)
    (h : ∀ v' w', w'.ownsRow B e size v' (n + 1) (xs ++ news) → w.grownBy w' v.ownBlock → wpList Tryd.prog ops Q rest (a.put o.dst v') w') : wpList Tryd.prog ops Q (o :: rest) a w := by
  obtain ⟨i, hi, hz0, hz1, hz2⟩ := info_parts hinf
  refine wpList_append_own _ hgd sl x t ho B e i z size bytes hu hi hz0 hz1 hz2 hzs hsz v n xs hs hown ad 1 1 news hx (by rw [hl, Nat.one_mul]) hnews h1 (by unfold maxLen; omega) (by omega) hB ?_
  intro v' w' h2 h3 _
  exact h v' w' h2 h3

theorem info3 : (Tryd.prog.info? 3).map (fun i => (i.zero, i.size, i.bytes)) = some (some (.int .i64 0), 1, 8) := by kernel_rfl
theorem info4 : (Tryd.prog.info? 4).map (fun i => (i.zero, i.size, i.bytes)) = some (some (.bool false), 1, 1) := by kernel_rfl
theorem info29 : (Tryd.prog.info? 29).map (fun i => (i.zero, i.size, i.bytes)) = some (some (.slice none 0 0), 1, 24) := by kernel_rfl
theorem info38 : (Tryd.prog.info? 38).map (fun i => (i.zero, i.size, i.bytes)) = some (some (.agg #[.int .i64 0, .string ⟨#[]⟩, .int .i64 0, .int .i64 0, .int .i64 0, .int .i64 0]), 6, 56) := by kernel_rfl

/-- cells that can be read there. -/
structure CellsAt (W : World) (s : Option Addr) (xs : List Value) : Prop where
  at_ : ∀ (k : Nat) (x : Value), xs[k]? = some x → ∃ g o, s = some ⟨g, o, none⟩ ∧ g < W.heap.size ∧ W.cell? ⟨g, o + k, none⟩ = some x
theorem CellsAt.below {w W : World} {s : Option Addr} {xs : List Value} (h : CellsAt w s xs) (hb : Below w.heap.size w W) : CellsAt W s xs := ⟨fun k x hx => by
  obtain ⟨g, o, e, hg, c⟩ := h.at_ k x hx
  exact ⟨g, o, e, Nat.lt_of_lt_of_le hg hb.size, below_cell hb hg c⟩⟩
theorem CellsAt.nil (W : World) (s : Option Addr) : CellsAt W s [] := ⟨fun k x hx => by simp at hx⟩
theorem own_cells {W : World} {B e size n : Nat} {v : Value} {xs : List Value} (h : W.ownsRow B e size v n xs) : ∃ sa c, v = .slice sa n c ∧ CellsAt W sa xs ∧ (sa = none → c = 0) ∧ n ≤ c ∧ ∀ g o sp, sa = some ⟨g, o, sp⟩ → B ≤ g := by
  have hlen := h.1
  rcases h.2 with ⟨hv, h0⟩ | ⟨g, cap, cur, hv, hb, hg, hn, hm, hsz, ht⟩
  · subst h0
    have : xs = [] := List.eq_nil_of_length_eq_zero (by simpa using hlen)
    subst this
    exact ⟨none, 0, hv, CellsAt.nil _ _, fun _ => rfl, Nat.le_refl _, fun g o sp e => by cases e⟩
  · refine ⟨_, _, hv, ⟨fun k x hx => ⟨g, 0, rfl, (Array.getElem?_eq_some_iff.1 hg).1, ?_⟩⟩, (fun e => by cases e), hn, fun g' o' sp e => by cases e; exact hb⟩
    rw [cell_row hg, Nat.zero_add]
    rw [← ht] at hx
    have hk : k < n * size := by
      have := (List.getElem?_eq_some_iff.1 hx).1
      simp only [List.length_take] at this
      omega
    rw [List.getElem?_take_of_lt hk] at hx
    simpa using hx

def ga (g : Ga) : List Value := [.int .i64 g.kind, .string g.name, .int .i64 g.op, .int .i64 g.a, .int .i64 g.b, .int .i64 g.c]
def gas (l : List Ga) : List Value := l.flatMap ga
def bo (l : List Bool) : List Value := l.map Value.bool
def nu (l : List Int) : List Value := l.map (Value.int .i64)
theorem gas_length (l : List Ga) : (gas l).length = l.length * 6 := by
  induction l with
  | nil => rfl
  | cons p t ih => simp only [gas, List.flatMap_cons, List.length_append, List.length_cons] at ih ⊢; simp only [ga, List.length_cons, List.length_nil]; omega
theorem gas_at (l : List Ga) (k j : Nat) (hk : k < l.length) (hj : j < 6) : (gas l)[k * 6 + j]? = (ga l[k])[j]? := by
  induction l generalizing k with
  | nil => simp at hk
  | cons p t ih =>
    have e : gas (p :: t) = ga p ++ gas t := by simp [gas]
    have hl : (ga p).length = 6 := rfl
    rw [e]
    cases k with
    | zero => rw [List.getElem?_append_left (by omega)]; simp
    | succ k =>
      rw [List.getElem?_append_right (by omega), hl, show (k + 1) * 6 + j - 6 = k * 6 + j by omega, ih k (by simpa using hk)]
      simp
/-- a line of a circuit, read. -/
theorem gate_at {W : World} {s : Option Addr} {l : List Ga} (h : CellsAt W s (gas l)) (k : Nat) (g : Ga) (hg : l[k]? = some g) : ∃ b o, s = some ⟨b, o, none⟩ ∧ b < W.heap.size ∧ W.cell? ⟨b, o + k * 6, none⟩ = some (.int .i64 g.kind) ∧ W.cell? ⟨b, o + k * 6 + 1, none⟩ = some (.string g.name) ∧ W.cell? ⟨b, o + k * 6 + 2, none⟩ = some (.int .i64 g.op) ∧ W.cell? ⟨b, o + k * 6 + 3, none⟩ = some (.int .i64 g.a) ∧ W.cell? ⟨b, o + k * 6 + 4, none⟩ = some (.int .i64 g.b) ∧ W.cell? ⟨b, o + k * 6 + 5, none⟩ = some (.int .i64 g.c) := by
  obtain ⟨hk, rfl⟩ := List.getElem?_eq_some_iff.1 hg
  have one : ∀ j (hj : j < 6), (gas l)[k * 6 + j]? = some ((ga l[k])[j]'(by simpa [ga] using hj)) := fun j hj => by rw [gas_at l k j hk hj, List.getElem?_eq_getElem]
  obtain ⟨b, o, e, hb, c0⟩ := h.at_ _ _ (one 0 (by omega))
  have rest : ∀ j (hj : j < 6), W.cell? ⟨b, o + k * 6 + j, none⟩ = some ((ga l[k])[j]'(by simpa [ga] using hj)) := fun j hj => by
    obtain ⟨b', o', e', hb', c'⟩ := h.at_ _ _ (one j hj)
    rw [e] at e'
    simp only [Option.some.injEq, Addr.mk.injEq, and_true] at e'
    obtain ⟨rfl, rfl⟩ := e'
    rw [Nat.add_assoc]; exact c'
  exact ⟨b, o, e, hb, rest 0 (by omega), rest 1 (by omega), rest 2 (by omega), rest 3 (by omega), rest 4 (by omega), rest 5 (by omega)⟩
theorem bit_at {W : World} {s : Option Addr} {l : List Bool} (h : CellsAt W s (bo l)) (k : Nat) (x : Bool) (hx : l[k]? = some x) : ∃ b o, s = some ⟨b, o, none⟩ ∧ b < W.heap.size ∧ W.cell? ⟨b, o + k, none⟩ = some (.bool x) :=
  h.at_ k _ (by simp [bo, hx])
theorem num_at {W : World} {s : Option Addr} {l : List Int} (h : CellsAt W s (nu l)) (k : Nat) (x : Int) (hx : l[k]? = some x) : ∃ b o, s = some ⟨b, o, none⟩ ∧ b < W.heap.size ∧ W.cell? ⟨b, o + k, none⟩ = some (.int .i64 x) :=
  h.at_ k _ (by simp [nu, hx])

/-- a circuit as a value. -/
abbrev cirV (c : Net) (sg : Option Addr) (cg : Nat) (so : Option Addr) (co : Nat) : Value := .agg #[.string c.name, .slice sg c.gates.length cg, .slice so c.outs.length co]
/-- its lists. -/
structure CirAt (W : World) (c : Net) (sg so : Option Addr) : Prop where
  gates : CellsAt W sg (gas c.gates)
  outs : CellsAt W so (nu c.outs)
theorem CirAt.below {w W : World} {c : Net} {sg so : Option Addr} (h : CirAt w c sg so) (hb : Below w.heap.size w W) : CirAt W c sg so := ⟨h.gates.below hb, h.outs.below hb⟩

/-- a list of lists of truths. -/
structure ListsAt (W : World) (s : Option Addr) (L : List (List Bool)) : Prop where
  at_ : ∀ (k : Nat) (l : List Bool), L[k]? = some l → ∃ g o sb cb, s = some ⟨g, o, none⟩ ∧ g < W.heap.size ∧ W.cell? ⟨g, o + k, none⟩ = some (.slice sb l.length cb) ∧ CellsAt W sb (bo l) ∧ (sb = none → cb = 0)
theorem ListsAt.below {w W : World} {s : Option Addr} {L : List (List Bool)} (h : ListsAt w s L) (hb : Below w.heap.size w W) : ListsAt W s L := ⟨fun k l hl => by
  obtain ⟨g, o, sb, cb, e, hg, c, h2, h3⟩ := h.at_ k l hl
  exact ⟨g, o, sb, cb, e, Nat.lt_of_lt_of_le hg hb.size, below_cell hb hg c, h2.below hb, h3⟩⟩

/-- a row in the making since w. -/
structure Mk (w W : World) (e size : Nat) (v : Value) (n : Nat) (xs : List Value) : Prop where
  own : W.ownsRow w.heap.size e size v n xs
  below : Below w.heap.size w W
theorem Mk.nil (w : World) (e size : Nat) : Mk w w e size (.slice none 0 0) 0 [] := ⟨World.ownsRow_nil _ _ _ _, Below.refl _ _⟩
theorem Mk.on {w W W' : World} {e size n : Nat} {v : Value} {xs : List Value} (h : Mk w W e size v n xs) (hb : Below W.heap.size W W') : Mk w W' e size v n xs := ⟨ownsRow_below h.own hb, h.below.trans (hb.mono h.below.size)⟩
theorem Mk.grow {w W W' : World} {e size n n' : Nat} {v v' : Value} {xs xs' : List Value} (h : Mk w W e size v n xs) (ho : W'.ownsRow w.heap.size e size v' n' xs') (hg : W.grownBy W' v.ownBlock) : Mk w W' e size v' n' xs' := ⟨ho, h.below.grown hg h.below.size (fun j hj => (h.own.lt j hj).1)⟩
/-- append of one to a row in the making. -/
theorem mk_app {ops : Array Oper} {rest : List Oper} {o : Oper} {a : Act} {Q : Exit → Act → World → Prop} {w W : World} {v : Value} {e size n : Nat} {xs : List Value} (hgd : o.guard = none) (sl y : Operand) (t : TypeId) (z : Value) (bytes : Nat)
    (ho : o.op = .call { callee := .builtin .append, args := #[sl, y], argTypes := #[t, t] }) (hu : Tryd.prog.underlying t = some (.slice e)) (hinf : (Tryd.prog.info? e).map (fun i => (i.zero, i.size, i.bytes)) = some (some z, size, bytes)) (hzs : z.cells.size = size) (hsz : 0 < size)
    (h : Mk w W e size v n xs) (news : List Value) (u : TypeId) (ad : Nat) (had : ad = W.heap.size) (hs : a.eval sl = v) (hx : a.eval y = .slice (some ⟨ad, 0, none⟩) 1 1) (hl : news.length = size) (h1 : ∀ u ∈ news, u.oneCell' = true) (hn : n ≤ 140737488351232) (hby : (n + 1) * bytes ≤ 140737488351233)
    (hK : ∀ sx cx w', (W.alloc (.cells news.toArray u)).grownBy w' v.ownBlock → Mk w w' e size (.slice sx (n + 1) cx) (n + 1) (xs ++ news) → wpList Tryd.prog ops Q rest (a.put o.dst (.slice sx (n + 1) cx)) w') :
    wpList Tryd.prog ops Q (o :: rest) a (W.alloc (.cells news.toArray u)) := by
  subst had
  have h2 := h.on ((Below.refl _ _).alloc (Nat.le_refl _) (Obj.cells news.toArray u))
  refine app_one hgd sl y t e z size bytes ho hu hinf hzs hsz w.heap.size n v xs news ⟨W.heap.size, 0, none⟩ hs h2.own hx hl (fun j u hu => by rw [add_zero_addr, cell_row (heap_alloc_new W _)]; simpa using hu) h1 hn hby h2.below.size ?_
  intro v4 w4 o4 g4
  obtain ⟨sx, cx, rfl⟩ := own_shape o4
  exact hK sx cx w4 g4 (h2.grow o4 g4)
end Go.Proofs.YtfmmmhcpdinhgaaDoor
/-
  Circuits: lines in another order; lines that bear on nothing.
-/
namespace PureNet
set_option maxRecDepth 100000


theorem leans_lt {l : List Ga} {i j : Nat} (h : Leans l i j) : i < l.length := by
  obtain ⟨g, hg, _⟩ := h
  exact (List.getElem?_eq_some_iff.1 hg).1
theorem way_lt {l : List Ga} {i j : Nat} (h : Way l i j) : i < l.length := by
  cases h using PureNet.Way.cas with
  | one h => exact leans_lt h
  | more h _ => exact leans_lt h

theorem cnt_take_succ (k : Int) (l : List Ga) (i : Nat) {g : Ga} (hg : l[i]? = some g) : cnt k (l.take (i + 1)) = cnt k (l.take i) + (if g.kind = k then 1 else 0) := by
  have hi := (List.getElem?_eq_some_iff.1 hg).1
  have e : l[i] = g := (List.getElem?_eq_some_iff.1 hg).2
  rw [List.take_succ_eq_append_getElem hi, e]
  unfold cnt
  rw [List.filter_append, List.length_append]
  by_cases h : g.kind = k <;> simp [h]

end PureNet
/-
  The law's small calls: within, number, count, truths, fit.
-/
namespace Go.Proofs.YtfmmmhcpdinhgaaDoor
open Go.RowKit Go.Deep PureNet
set_option maxRecDepth 100000





set_option maxHeartbeats 1000000 in
set_option maxRecDepth 100000 in
theorem truths_true (l : List Bool) (sa sb : Option Addr) (ca cb : Nat) (w : World) (ha : CellsAt w sa (bo l)) (hb : CellsAt w sb (bo l)) (hl : l.length ≤ 140737488351232) :
    Calls Tryd.prog 16 #[.slice sa l.length ca, .slice sb l.length cb] w fun e w' => e = .returned (.bool true) ∧ Below w.heap.size w w' := by
  have HA := hid ha
  have HB := hid hb
  clear ha hb
  go_enter Tryd.func16, Tryd.ntmps16
  go_wp2
  go_loopw [5] (fun iv W => ∃ k : Nat, k ≤ l.length ∧ iv = .int .i64 (k : Int) ∧ Hid (Below w.heap.size w W)) (fun iv _ => l.length - (intOf iv).toNat)
  case atStart => exact ⟨0, Nat.zero_le _, rfl, Below.refl _ _⟩
  case round =>
    obtain ⟨k, hk, rfl, HW⟩ := hrel
    by_cases hlt : k < l.length
    · obtain ⟨x, hx⟩ : ∃ x, l[k]? = some x := ⟨_, List.getElem?_eq_getElem hlt⟩
      obtain ⟨ga, oa, rfl, hga, p0⟩ := bit_at (HA.out.below HW.out) k x hx
      obtain ⟨gb, ob, rfl, hgb, q0⟩ := bit_at (HB.out.below HW.out) k x hx
      clear hx
      go_wp2
      go_quiet (fail)
      go_wp2
      exact ⟨⟨k + 1, hlt, by go_num, below_drewN HW.out _⟩, by simp [intOf]; omega⟩
    · go_wp2
      go_ret
      exact ⟨rfl, HW.out⟩
end Go.Proofs.YtfmmmhcpdinhgaaDoor
/-
  The law's fit.
-/
namespace Go.Proofs.YtfmmmhcpdinhgaaDoor
open Go.RowKit Go.Deep PureNet
set_option maxRecDepth 100000

theorem row_cells {W : World} {g : Nat} {xs : List Value} {t : TypeId} {fz : Nat × Nat} (h : W.heap[g]? = some (.cells xs.toArray t fz)) : CellsAt W (some ⟨g, 0, none⟩) xs := ⟨fun k x hx => ⟨g, 0, rfl, (Array.getElem?_eq_some_iff.1 h).1, by rw [cell_row h, Nat.zero_add]; simpa using hx⟩⟩

end Go.Proofs.YtfmmmhcpdinhgaaDoor
/-
  The law's values.
-/
namespace Go.Proofs.YtfmmmhcpdinhgaaDoor
open Go.RowKit Go.Deep PureNet
set_option maxRecDepth 100000

theorem cnt_take_le (k : Int) (l : List Ga) (i : Nat) : cnt k (l.take i) ≤ cnt k l := by
  unfold cnt
  exact (List.Sublist.filter _ (List.take_sublist i l)).length_le
theorem cnt_take_le_i (k : Int) (l : List Ga) (i : Nat) : cnt k (l.take i) ≤ i := by
  have h1 := List.length_filter_le (fun g : Ga => decide (g.kind = k)) (l.take i)
  simp only [List.length_take] at h1
  unfold cnt
  omega

theorem tab_1 : ∀ q : Nat, q ≤ 15 → (bits BinOp.and IntKind.i64 (q : Int) 1 == 1) = tab (q : Int) false false := by decide +kernel
theorem tab_2 : ∀ q : Nat, q ≤ 15 → (bits BinOp.and IntKind.i64 ((q : Int) / 2) 1 == 1) = tab (q : Int) false true := by decide +kernel
theorem tab_4 : ∀ q : Nat, q ≤ 15 → (bits BinOp.and IntKind.i64 ((q : Int) / 4) 1 == 1) = tab (q : Int) true false := by decide +kernel
theorem tab_8 : ∀ q : Nat, q ≤ 15 → (bits BinOp.and IntKind.i64 ((q : Int) / 8) 1 == 1) = tab (q : Int) true true := by decide +kernel

end Go.Proofs.YtfmmmhcpdinhgaaDoor
/-
  The program's table of kinds in memory.
-/
namespace Go.Proofs.YtfmmmhcpdinhgaaDoor
open Go.RowKit Go.Deep PureNet
set_option maxRecDepth 100000

def usesN (k : Nat) : Nat := if k = 2 then 2 else if k = 3 then 1 else if k = 4 then 3 else 0
def mostN (k : Nat) : Int := if k = 2 then 15 else if k = 3 then 1 else 0
/-- the table of kinds, in memory. -/
structure KindsAt (W : World) : Prop where
  pos : 0 < W.heap.size
  op : ∀ k : Nat, 1 ≤ k → k ≤ 4 → W.cell? ⟨0, k * 3 + 1, none⟩ = some (.int .i64 (mostN k))
  uses : ∀ k : Nat, 1 ≤ k → k ≤ 4 → W.cell? ⟨0, k * 3 + 2, none⟩ = some (.int .i64 (usesN k : Int))
theorem KindsAt.below {B : Nat} {w W : World} (h : KindsAt w) (hb : Below B w W) (hB : 0 < B) : KindsAt W :=
  ⟨Nat.lt_of_lt_of_le h.pos hb.size, fun k h1 h2 => (hb.cell (p := ⟨0, k * 3 + 1, none⟩) hB).trans (h.op k h1 h2), fun k h1 h2 => (hb.cell (p := ⟨0, k * 3 + 2, none⟩) hB).trans (h.uses k h1 h2)⟩
theorem KindsAt.on {w W : World} (h : KindsAt w) (hb : Below w.heap.size w W) : KindsAt W := h.below hb h.pos

end Go.Proofs.YtfmmmhcpdinhgaaDoor
/-
  CircuitMeans: the contracts asked of the program, lists of lists in the making.
-/
namespace Go.Proofs.YtfmmmhcpdinhgaaDoor
open Go.RowKit Go.Deep PureNet
set_option maxRecDepth 100000


theorem firsts_len (l : List Ga) : (firstsOf l).length = cnt 3 l := by simp [firstsOf, cnt]
theorem next_len (c : Net) (v : List Bool) : (nextOf c v).length = cnt 3 c.gates := by simp [nextOf, cnt]

end Go.Proofs.YtfmmmhcpdinhgaaDoor
/-
  CircuitMeans, CircuitBlind: what comes in.
-/
namespace Go.Proofs.YtfmmmhcpdinhgaaDoor
open Go.ChangeShapes Go.WideShapes Go.ChangeAt Go.RowKit Go.Deep PureNet
set_option maxRecDepth 100000

theorem own : ownKnob Tryd.prog.godebug = none := by kernel_rfl
theorem laidOut : laidOutB Tryd.prog = true := by kernel_rfl
theorem cells3 : Tryd.prog.cellsOf 3 = 1 := by kernel_rfl
theorem cells4 : Tryd.prog.cellsOf 4 = 1 := by kernel_rfl
theorem cells29 : Tryd.prog.cellsOf 29 = 1 := by kernel_rfl
theorem cells_of {W : World} {a : Addr} {xs : List Value} (h : ∀ (k : Nat) (x : Value), xs[k]? = some x → W.cell? (a.add k) = some x) : CellsAt W (some a) xs := ⟨fun k x hx => by
  have hc := h k x hx
  have h0 : 0 < xs.length := by
    have := (List.getElem?_eq_some_iff.1 hx).1
    omega
  have hs := World.cell?_spot (h 0 _ (List.getElem?_eq_getElem h0))
  obtain ⟨b, off, spot⟩ := a
  obtain rfl : spot = none := by simpa [Addr.add] using hs
  rw [add_plain] at hc
  exact ⟨b, off, rfl, World.block_lt_of_cell? W _ hc, hc⟩⟩

section
variable {H : Type} {enc : TypeId × Value → H} {W : World} {spare : Nat → Bool} {held : Bool}



end
end Go.Proofs.YtfmmmhcpdinhgaaDoor
/-
  The table of kinds off what a row lists.
-/
namespace Go.Proofs.YtfmmmhcpdinhgaaDoor
open Go.ChangeShapes Go.WideShapes Go.ChangeAt Go.RowKit Go.Deep PureNet
set_option maxRecDepth 100000

theorem cells137 : Tryd.prog.cellsOf 137 = 3 := by kernel_rfl
theorem cells138 : Tryd.prog.cellsOf 138 = 15 := by kernel_rfl
theorem cells9 : Tryd.prog.cellsOf 9 = 1 := by kernel_rfl
/-- a number of a line of the table. -/
theorem kind_cells {W : World} {fuel : Nat} {cs : List Value} {s : List UInt8} {a b : Int} {y : DataW Unit × List MemPlace} (h : DataW.trod (fun _ => ()) Tryd.prog W 0 (fun _ => true) false fuel 137 cs = some y) (hy : y.1 = .agg [.lit (.string s), .lit (.int .i64 a), .lit (.int .i64 b)]) :
    cs[1]? = some (.int .i64 a) ∧ cs[2]? = some (.int .i64 b) := by
  obtain ⟨xs, m, e1, e2, hl, hxs, hall⟩ := DataW.trod_struct Tryd.underlying137 h
  have hl3 : cs.length = 3 := by rw [hl]; exact cells137
  match cs, hl3 with
  | [v0, v1, v2], _ =>
  have f1 := hall 1 _ rfl
  have f2 := hall 2 _ rfl
  simp [cells3] at f1 f2
  have hx3 : xs.length = 3 := by simpa using hxs
  rw [List.getElem?_eq_getElem (by omega)] at f1 f2
  obtain ⟨n1, g1, d1, _⟩ := DataW.trod_int Tryd.underlying3 f1
  obtain ⟨n2, g2, d2, _⟩ := DataW.trod_int Tryd.underlying3 f2
  rw [e2] at hy
  simp only [DataW.agg.injEq] at hy
  match xs, hx3 with
  | [x0, x1, x2], _ =>
  simp at hy d1 d2 g1 g2
  obtain ⟨_, hy1, hy2⟩ := hy
  rw [d1] at hy1
  rw [d2] at hy2
  simp at hy1 hy2
  subst hy1 hy2
  simp [g1, g2]
theorem kinds_of_laid {W : World} (h0 : laidMetH Tryd.prog [("strata/circuit.kinds", Rows.laid_strata_circuit_kinds)] W) : KindsAt W := by
  have h : laidMet Tryd.prog [("strata/circuit.kinds", Rows.laid_strata_circuit_kinds)] W := h0
  obtain ⟨ps, hl, _⟩ := h
  obtain ⟨g, t, cs, f, p, q, hg0, ht0, hv0, hd0, _, _⟩ := hl
  have hg : Tryd.prog.globalNamed "strata/circuit.kinds" = some 0 := by kernel_rfl
  obtain rfl := Option.some.inj (hg.symm.trans hg0)
  have ht : (Tryd.prog.globals[0]?).map (·.type) = some 138 := by kernel_rfl
  obtain rfl := Option.some.inj (ht.symm.trans ht0)
  obtain ⟨xs, m, e1, e2, hcl, hxs, hall⟩ := DataW.trod_array Tryd.underlying138 hd0
  have hc : ∀ j, W.cell? ⟨0, j, none⟩ = cs.toList[j]? := fun j => by simpa using World.var?_cell hg0 hv0 j
  have hd := congrArg Prod.fst e2
  simp only [Rows.laid_strata_circuit_kinds, DataW.agg.injEq] at hd
  have hlen : cs.toList.length = 15 := by rw [hcl]; exact cells138
  match xs, hxs with
  | [x0, x1, x2, x3, x4], _ =>
  simp at hd
  obtain ⟨_, y1, y2, y3, y4⟩ := hd
  have t1 := hall 1 (by omega)
  have t2 := hall 2 (by omega)
  have t3 := hall 3 (by omega)
  have t4 := hall 4 (by omega)
  rw [cells137] at t1 t2 t3 t4
  obtain ⟨a1, b1⟩ := kind_cells t1 y1.symm
  obtain ⟨a2, b2⟩ := kind_cells t2 y2.symm
  obtain ⟨a3, b3⟩ := kind_cells t3 y3.symm
  obtain ⟨a4, b4⟩ := kind_cells t4 y4.symm
  simp only [List.getElem?_take, List.getElem?_drop] at a1 a2 a3 a4 b1 b2 b3 b4
  simp at a1 a2 a3 a4 b1 b2 b3 b4
  refine ⟨?_, fun k h1 h4 => ?_, fun k h1 h4 => ?_⟩
  · have h5 : W.cell? ⟨0, 0, none⟩ = some (cs.toList[0]'(by omega)) := by rw [hc]; exact List.getElem?_eq_getElem _
    exact World.block_lt_of_cell? W _ h5
  · rw [hc]
    have : k = 1 ∨ k = 2 ∨ k = 3 ∨ k = 4 := by omega
    rcases this with rfl | rfl | rfl | rfl <;> simpa [mostN]
  · rw [hc]
    have : k = 1 ∨ k = 2 ∨ k = 3 ∨ k = 4 := by omega
    rcases this with rfl | rfl | rfl | rfl <;> simpa [usesN]
end Go.Proofs.YtfmmmhcpdinhgaaDoor
/-
  A circuit that came in, within the bound.
-/
namespace Go.Proofs.YtfmmmhcpdinhgaaDoor
open Go.ChangeShapes Go.WideShapes Go.ChangeAt Go.RowKit Go.Deep PureNet
set_option maxRecDepth 100000

theorem cells38 : Tryd.prog.cellsOf 38 = 6 := by kernel_rfl
theorem cells24 : Tryd.prog.cellsOf 24 = 1 := by kernel_rfl
theorem cells22 : Tryd.prog.cellsOf 22 = 1 := by kernel_rfl
theorem cells26 : Tryd.prog.cellsOf 26 = 3 := by kernel_rfl
theorem bulk_one {H : Type} (d : DataW H) : 1 ≤ Rows.uptoBulk d := by
  cases d with
  | lit l => cases l <;> simp [Rows.uptoBulk]
  | nil => simp [Rows.uptoBulk]
  | ptr d => simp [Rows.uptoBulk]
  | slice elems spare => simp [Rows.uptoBulk]
  | agg parts => simp [Rows.uptoBulk]
  | iface t d => simp [Rows.uptoBulk]
  | map entries => simp [Rows.uptoBulk]
  | held h => simp [Rows.uptoBulk]
theorem bulk_part {H : Type} {d : DataW H} {l : List (DataW H)} (h : d ∈ l) : Rows.uptoBulk d ≤ Rows.uptoBulkAll l := by
  induction l with
  | nil => cases h
  | cons x r ih =>
    simp only [Rows.uptoBulkAll]
    cases List.mem_cons.1 h with
    | inl e => subst e; omega
    | inr e => have := ih e; omega
theorem bulk_length {H : Type} (l : List (DataW H)) : l.length ≤ Rows.uptoBulkAll l := by
  induction l with
  | nil => simp [Rows.uptoBulkAll]
  | cons x r ih => have := bulk_one x; simp only [Rows.uptoBulkAll, List.length_cons]; omega

section
variable {H : Type} {enc : TypeId × Value → H} {W : World} {spare : Nat → Bool} {held : Bool}

/-- a line. -/
theorem open_line {n : Nat} {a : Addr} {cs : List Value} {x : DataW H × List MemPlace} (h1 : W.cells? 0 a 6 = some cs) (h2 : DataW.trod enc Tryd.prog W 0 spare held n 38 cs = some x) :
    ∃ g : Ga, (∀ j u, (ga g)[j]? = some u → W.cell? (a.add j) = some u) ∧ g.name.size ≤ Rows.uptoBulk x.1 := by
  obtain ⟨xs, k, rfl, rfl, hl, hxs, hf⟩ := DataW.trod_struct Tryd.underlying38 h2
  have hm : (List.range 6).mapM (fun i => W.cell? (a.add i)) = some cs := by
    simpa [World.cells?] using h1
  have g : ∀ i, i < 6 → W.cell? (a.add i) = cs[i]? := fun i hi => mapM_some_get hm i i (by simp [hi])
  rw [cells38] at hl
  match cs, hl with
  | [v0, v1, v2, v3, v4, v5], _ =>
  have f0 := hf 0 _ rfl
  have f1 := hf 1 _ rfl
  have f2 := hf 2 _ rfl
  have f3 := hf 3 _ rfl
  have f4 := hf 4 _ rfl
  have f5 := hf 5 _ rfl
  simp [cells3, cells9] at f0 f1 f2 f3 f4 f5
  have hx6 : xs.length = 6 := by simpa using hxs
  rw [List.getElem?_eq_getElem (by omega)] at f0 f1 f2 f3 f4 f5
  obtain ⟨n0, e0, _, _⟩ := DataW.trod_int Tryd.underlying3 f0
  obtain ⟨s1, e1, q1, _⟩ := DataW.trod_string Tryd.underlying9 f1
  obtain ⟨n2, e2, _, _⟩ := DataW.trod_int Tryd.underlying3 f2
  obtain ⟨n3, e3, _, _⟩ := DataW.trod_int Tryd.underlying3 f3
  obtain ⟨n4, e4, _, _⟩ := DataW.trod_int Tryd.underlying3 f4
  obtain ⟨n5, e5, _, _⟩ := DataW.trod_int Tryd.underlying3 f5
  simp at e0 e1 e2 e3 e4 e5
  subst e0
  subst e1
  subst e2
  subst e3
  subst e4
  subst e5
  refine ⟨⟨n0, s1, n2, n3, n4, n5⟩, fun j u hu => ?_, ?_⟩
  · have hj : j < 6 := (List.getElem?_eq_some_iff.1 hu).1
    rw [g j hj]
    exact hu
  · simp only [Rows.uptoBulk]
    have h3 := bulk_part (H := H) (d := (xs[1]'(by omega)).1) (l := xs.map (·.1)) (List.mem_map.2 ⟨_, List.getElem_mem _, rfl⟩)
    have h4 : s1.size ≤ Rows.uptoBulk (xs[1]'(by omega)).1 := by
      rw [q1]
      simp [Rows.uptoBulk]
    omega

/-- lines. -/
theorem open_gates {fuel : Nat} {v : Value} {x : DataW H × List MemPlace} (hv : ∃ a n c, v = .slice a n c) (hf : DataW.trod enc Tryd.prog W 0 spare held fuel 24 [v] = some x) (hk : Rows.uptoBulk x.1 ≤ 1048576) :
    ∃ (sa : Option Addr) (ca : Nat) (l : List Ga), v = .slice sa l.length ca ∧ CellsAt W sa (gas l) ∧ (sa = none → ca = 0) ∧ l.length ≤ 1048576 ∧ ∀ g ∈ l, g.name.size ≤ 1048576 := by
  obtain ⟨a0, len, cap, rfl⟩ := hv
  rcases open_slice Tryd.underlying24 hf with ⟨hcs, hx⟩ | ⟨a, len', cap', m, n, D, Pl, hcs, _, hl, hm, hmm, hx, hall⟩
  · simp at hcs
    obtain ⟨rfl, rfl, rfl⟩ := hcs
    exact ⟨none, 0, [], rfl, CellsAt.nil _ _, fun _ => rfl, Nat.zero_le _, fun g hg => by cases hg⟩
  · simp at hcs
    obtain ⟨rfl, rfl, rfl⟩ := hcs
    rw [cells38] at hx hall
    subst hx
    have hlm : len ≤ m := by rw [hmm]; split <;> omega
    have hb1 : Rows.uptoBulkAll ((List.range len).map D) ≤ 1048576 := by
      simp only [Rows.uptoBulk] at hk
      omega
    have hlen2 := bulk_length ((List.range len).map D)
    simp only [List.length_map, List.length_range] at hlen2
    have each : ∀ i, i < len → ∃ g : Ga, (∀ j u, (ga g)[j]? = some u → W.cell? ((a.add (i * 6)).add j) = some u) ∧ g.name.size ≤ 1048576 := fun i hi => by
      obtain ⟨cs', h1, h2⟩ := hall i (by omega)
      obtain ⟨g, c0, hmb⟩ := open_line h1 h2
      have h3 := bulk_part (H := H) (d := D i) (l := (List.range len).map D) (List.mem_map.2 ⟨i, List.mem_range.2 hi, rfl⟩)
      exact ⟨g, c0, by simp only at hmb; omega⟩
    haveI : Inhabited Ga := ⟨⟨0, ⟨#[]⟩, 0, 0, 0, 0⟩⟩
    obtain ⟨f, hf⟩ := choose_lt each
    have hlen : ((List.range len).map f).length = len := by simp
    refine ⟨some a, cap, (List.range len).map f, by rw [hlen], cells_of fun k u hu => ?_, (fun e => by cases e), by rw [hlen]; omega, fun g hg => ?_⟩
    · have hk6 := (List.getElem?_eq_some_iff.1 hu).1
      rw [gas_length, hlen] at hk6
      have h := gas_at ((List.range len).map f) (k / 6) (k % 6) (by rw [hlen]; omega) (by omega)
      rw [show k / 6 * 6 + k % 6 = k by omega, hu] at h
      have h2 := (hf (k / 6) (by omega)).1 (k % 6) u (by rw [h]; simp)
      have e : (a.add (k / 6 * 6)).add (k % 6) = a.add k := by
        obtain ⟨b, off, spot⟩ := a
        unfold Addr.add
        by_cases h8 : k / 6 * 6 = 0
        · rw [if_pos h8]
          by_cases h9 : k % 6 = 0
          · rw [if_pos h9, if_pos (by omega)]
          · rw [if_neg h9, if_neg (by omega)]
            congr 1
            omega
        · rw [if_neg h8]
          by_cases h9 : k % 6 = 0
          · rw [if_pos h9, if_neg (by omega)]
            simp only [Addr.mk.injEq, and_true, true_and]
            omega
          · rw [if_neg h9, if_neg (by omega)]
            simp only [Addr.mk.injEq, and_true, true_and]
            omega
      rw [e] at h2
      exact h2
    · obtain ⟨i, hi, rfl⟩ := List.mem_map.1 hg
      exact (hf i (List.mem_range.1 hi)).2

/-- places. -/
theorem open_outs {fuel : Nat} {v : Value} {x : DataW H × List MemPlace} (hf : DataW.trod enc Tryd.prog W 0 spare held fuel 22 [v] = some x) (hk : Rows.uptoBulk x.1 ≤ 1048576) :
    ∃ (sa : Option Addr) (ca : Nat) (l : List Int), v = .slice sa l.length ca ∧ CellsAt W sa (nu l) ∧ (sa = none → ca = 0) ∧ l.length ≤ 1048576 := by
  rcases open_ints Tryd.underlying22 Tryd.underlying3 cells3 hf with ⟨hcs, hx⟩ | ⟨a, len, cap, zs, hcs, _, hl, hm, hz, hx, hcell, hwz⟩
  · simp at hcs
    subst hcs
    exact ⟨none, 0, [], rfl, CellsAt.nil _ _, fun _ => rfl, Nat.zero_le _⟩
  · simp at hcs
    subst hcs
    subst hx
    have hlz : len ≤ zs.length := by rw [hz]; split <;> omega
    have hlen : (zs.take len).length = len := by simp [hlz]
    refine ⟨some a, cap, zs.take len, by rw [hlen], cells_of fun k x hkx => ?_, (fun e => by cases e), ?_⟩
    · have hk : k < len := by
        have := (List.getElem?_eq_some_iff.1 hkx).1
        simpa [nu, hlz] using this
      have h1 := hcell k (by omega)
      rw [h1, ← hkx]
      simp [nu, hk, List.getD, List.getElem?_eq_getElem (show k < zs.length by omega)]
    · rw [hlen]
      simp only [Rows.uptoBulk] at hk
      have h1 := bulk_length (H := H) (lits .i64 (zs.take len))
      simp only [lits, List.length_map] at h1
      simp only [lits] at hk
      omega

/-- a circuit. -/
theorem open_cir {v : Value} {d : DataW H} {ps : List MemPlace} {base : Nat} (hval : Value.okWide Tryd.prog W .any base 26 v) (h : DataW.Trod enc Tryd.prog W 0 spare held 26 v d ps) (hk : Rows.uptoBulk d ≤ 1048576) :
    ∃ (c : Net) (sg so : Option Addr) (cg co : Nat), v = cirV c sg cg so co ∧ CirAt W c sg so ∧ (sg = none → cg = 0) ∧ (so = none → co = 0) ∧ c.name.size ≤ 1048576 ∧ (∀ g ∈ c.gates, g.name.size ≤ 1048576) ∧ c.gates.length ≤ 1048576 ∧ c.outs.length ≤ 1048576 := by
  obtain ⟨cs, rfl, hcs⟩ := okWide_struct Tryd.underlying26 hval
  obtain ⟨fuel, hf⟩ := h
  obtain ⟨xs, k, rfl, hx, hl, hxs, hall⟩ := DataW.trod_struct Tryd.underlying26 hf
  rw [cells26] at hcs
  obtain ⟨v0, v1, v2, rfl⟩ : ∃ v0 v1 v2, cs = #[v0, v1, v2] := by
    obtain ⟨l⟩ := cs
    match l, hcs with
    | [v0, v1, v2], _ => exact ⟨v0, v1, v2, rfl⟩
  have f0 := hall 0 _ rfl
  have f1 := hall 1 _ rfl
  have f2 := hall 2 _ rfl
  simp [Value.cells, cells9, cells24, cells22] at f0 f1 f2
  have hx3 : xs.length = 3 := by simpa using hxs
  rw [List.getElem?_eq_getElem (by omega)] at f0 f1 f2
  obtain ⟨rfl, -⟩ := Prod.mk.inj hx
  simp only [Rows.uptoBulk] at hk
  have b0 := bulk_part (H := H) (d := (xs[0]'(by omega)).1) (l := xs.map (·.1)) (List.mem_map.2 ⟨_, List.getElem_mem _, rfl⟩)
  have b1 := bulk_part (H := H) (d := (xs[1]'(by omega)).1) (l := xs.map (·.1)) (List.mem_map.2 ⟨_, List.getElem_mem _, rfl⟩)
  have b2 := bulk_part (H := H) (d := (xs[2]'(by omega)).1) (l := xs.map (·.1)) (List.mem_map.2 ⟨_, List.getElem_mem _, rfl⟩)
  obtain ⟨s0, e0, q0, _⟩ := DataW.trod_string Tryd.underlying9 f0
  have h0 : s0.size ≤ Rows.uptoBulk (xs[0]'(by omega)).1 := by
    rw [q0]
    simp [Rows.uptoBulk]
  have hv1 : ∃ a n c, v1 = .slice a n c := by
    rcases open_slice Tryd.underlying24 f1 with ⟨hcs, _⟩ | ⟨a, len', cap', m, n, D, Pl, hcs, _⟩
    · simp at hcs; exact ⟨_, _, _, hcs⟩
    · simp at hcs; exact ⟨_, _, _, hcs⟩
  obtain ⟨sg, cg, l, e1, hg, hng, hgl, hgn⟩ := open_gates hv1 f1 (by omega)
  obtain ⟨so, co, o, e2, ho, hno, hol⟩ := open_outs f2 (by omega)
  simp at e0
  subst e0
  subst e1
  subst e2
  exact ⟨⟨s0, l, o⟩, sg, so, cg, co, rfl, ⟨hg, ho⟩, hng, hno, by show s0.size ≤ 1048576; omega, hgn, hgl, hol⟩
end
end Go.Proofs.YtfmmmhcpdinhgaaDoor
/-
  Truths that came in, within the bound.
-/
namespace Go.Proofs.YtfmmmhcpdinhgaaDoor
open Go.ChangeShapes Go.WideShapes Go.ChangeAt Go.RowKit Go.Deep PureNet
set_option maxRecDepth 100000

section
variable {H : Type} {enc : TypeId × Value → H} {W : World} {spare : Nat → Bool} {held : Bool}

/-- truths. -/
theorem open_few {n : Nat} {v : Value} {x : DataW H × List MemPlace} (hf : DataW.trod enc Tryd.prog W 0 spare held n 29 [v] = some x) (hk : Rows.uptoBulk x.1 ≤ 1048576) :
    ∃ (sa : Option Addr) (ca : Nat) (l : List Bool), v = .slice sa l.length ca ∧ CellsAt W sa (bo l) ∧ (sa = none → ca = 0) ∧ l.length ≤ 1048576 := by
  rcases open_slice Tryd.underlying29 hf with ⟨hcs, hx⟩ | ⟨a, len, cap, m, n', D, Pl, hcs, _, hl, hm, hmm, hx, hall⟩
  · simp at hcs
    subst hcs
    exact ⟨none, 0, [], rfl, CellsAt.nil _ _, (fun _ => rfl), Nat.zero_le _⟩
  · simp at hcs
    subst hcs
    rw [cells4] at hx hall
    have hlm : len ≤ m := by rw [hmm]; split <;> omega
    have each : ∀ i, i < len → ∃ b : Bool, W.cell? (a.add i) = some (.bool b) := fun i hi => by
      obtain ⟨cs', h1, h2⟩ := hall i (by omega)
      obtain ⟨b, rfl, _⟩ := DataW.trod_bool Tryd.underlying4 h2
      rw [Nat.mul_one] at h1
      have hm1 : (List.range 1).mapM (fun q => W.cell? ((a.add i).add q)) = some [.bool b] := by simpa [World.cells?] using h1
      have := mapM_some_get hm1 0 0 (by simp)
      refine ⟨b, ?_⟩
      have e0 : (a.add i).add 0 = a.add i := by simp [Addr.add]
      rw [e0] at this
      simpa using this
    obtain ⟨f, hf⟩ := choose_lt each
    have hlen : ((List.range len).map f).length = len := by simp
    refine ⟨some a, cap, (List.range len).map f, by rw [hlen], cells_of fun k x hk => ?_, (fun e => by cases e), ?_⟩
    · have hkl : k < len := by
        have := (List.getElem?_eq_some_iff.1 hk).1
        simpa [bo] using this
      rw [hf k hkl, ← hk]
      simp [bo, hkl]
    · rw [hlen]
      subst hx
      simp only [Rows.uptoBulk] at hk
      have h1 := bulk_length ((List.range len).map D)
      simp only [List.length_map, List.length_range] at h1
      omega
end
end Go.Proofs.YtfmmmhcpdinhgaaDoor
/-
  Lists of truths that came in, within the bound.
-/
namespace Go.Proofs.YtfmmmhcpdinhgaaDoor
open Go.ChangeShapes Go.WideShapes Go.ChangeAt Go.RowKit Go.Deep PureNet
set_option maxRecDepth 100000

section
variable {H : Type} {enc : TypeId × Value → H} {W : World} {spare : Nat → Bool} {held : Bool}

set_option maxRecDepth 100000 in
theorem open_rows {v : Value} {d : DataW H} {ps : List MemPlace} {base : Nat} (hval : Value.okWide Tryd.prog W .any base 23 v) (h : DataW.Trod enc Tryd.prog W 0 spare held 23 v d ps) (hk : Rows.uptoBulk d ≤ 1048576) :
    ∃ (sa : Option Addr) (ca : Nat) (L : List (List Bool)), v = .slice sa L.length ca ∧ ListsAt W sa L ∧ L.length ≤ 1048576 ∧ ∀ l ∈ L, l.length ≤ 1048576 := by
  obtain ⟨a0, len, cap, rfl⟩ := okWide_slice Tryd.underlying23 hval
  obtain ⟨fuel, hf⟩ := h
  rcases open_slice Tryd.underlying23 hf with ⟨hcs, hx⟩ | ⟨a, len', cap', m, n, D, Pl, hcs, _, hl, hm, hmm, hx, hall⟩
  · simp [Value.cells] at hcs
    obtain ⟨rfl, rfl, rfl⟩ := hcs
    exact ⟨none, 0, [], rfl, ⟨fun k l hl => by simp at hl⟩, Nat.zero_le _, (fun l hl => by cases hl)⟩
  · simp [Value.cells] at hcs
    obtain ⟨rfl, rfl, rfl⟩ := hcs
    rw [cells29] at hx hall
    obtain ⟨rfl, -⟩ := Prod.mk.inj hx
    have hlm : len ≤ m := by rw [hmm]; split <;> omega
    have hb1 : Rows.uptoBulkAll ((List.range len).map D) ≤ 1048576 := by
      simp only [Rows.uptoBulk] at hk
      omega
    have hlen2 := bulk_length ((List.range len).map D)
    simp only [List.length_map, List.length_range] at hlen2
    have each : ∀ i, i < len → ∃ q : Option Addr × Nat × List Bool, W.cell? (a.add i) = some (.slice q.1 q.2.2.length q.2.1) ∧ CellsAt W q.1 (bo q.2.2) ∧ (q.1 = none → q.2.1 = 0) ∧ q.2.2.length ≤ 1048576 := fun i hi => by
      obtain ⟨cs', h1, h2⟩ := hall i (by omega)
      rw [Nat.mul_one] at h1
      have hm1 : (List.range 1).mapM (fun q => W.cell? ((a.add i).add q)) = some cs' := by simpa [World.cells?] using h1
      obtain ⟨v0, hg, rfl⟩ : ∃ v0, W.cell? (a.add i) = some v0 ∧ cs' = [v0] := by
        have e0 : (a.add i).add 0 = a.add i := by simp [Addr.add]
        cases hc0 : W.cell? (a.add i) with
        | none => simp [List.range_succ, e0, hc0] at hm1
        | some v0 =>
          refine ⟨v0, rfl, ?_⟩
          have : some [v0] = some cs' := by simpa [List.range_succ, e0, hc0] using hm1
          exact (Option.some.inj this).symm
      have h3 := bulk_part (H := H) (d := D i) (l := (List.range len).map D) (List.mem_map.2 ⟨i, List.mem_range.2 hi, rfl⟩)
      obtain ⟨s, k, l, rfl, hc, hn, hw⟩ := open_few h2 (by show Rows.uptoBulk (D i) ≤ 1048576; omega)
      exact ⟨⟨s, k, l⟩, hg, hc, hn, hw⟩
    haveI : Inhabited (Option Addr × Nat × List Bool) := ⟨(none, 0, [])⟩
    obtain ⟨f, hf⟩ := choose_lt each
    have hlen : ((List.range len).map fun i => (f i).2.2).length = len := by simp
    refine ⟨some a, cap, (List.range len).map fun i => (f i).2.2, by rw [hlen], ⟨fun k l hk => ?_⟩, by rw [hlen]; omega, fun l hl2 => ?_⟩
    · have hkl : k < len := by
        have := (List.getElem?_eq_some_iff.1 hk).1
        simpa using this
      obtain rfl : (f k).2.2 = l := by simpa [hkl] using hk
      obtain ⟨h1, h2, h3, _⟩ := hf k hkl
      obtain ⟨h01, _⟩ := hf 0 (by omega)
      have hs := World.cell?_spot h01
      obtain ⟨b, off, spot⟩ := a
      obtain rfl : spot = none := by simpa [Addr.add] using hs
      rw [add_plain] at h1
      exact ⟨b, off, _, _, rfl, World.block_lt_of_cell? W _ h1, h1, h2, h3⟩
    · obtain ⟨i, hi, rfl⟩ := List.mem_map.1 hl2
      exact (hf i (List.mem_range.1 hi)).2.2.2
end
end Go.Proofs.YtfmmmhcpdinhgaaDoor
/-
  The document's own letter, Name, field, FormedLine, leans.
-/
namespace Go.Proofs.YtfmmmhcpdinhgaaDoor
open Go.RowKit Go.Deep PureNet
set_option maxRecDepth 100000

set_option maxHeartbeats 1000000 in
theorem letter_any (c : UInt8) (w : World) : Calls Tryd.prog 83 #[.int .u8 (c.toNat : Int)] w fun e w' => e = .returned (.bool (letB c)) ∧ w' = w := by
  have hc : (c.toNat : Int) ≤ 255 := by have := c.toNat_lt; omega
  by_cases h1 : 97 ≤ (c.toNat : Int)
  · by_cases h2 : (c.toNat : Int) ≤ 122
    · have HD : Hid (letB c = true) := by show _ = _; unfold letB; simp; omega
      go_enter Tryd.func83, Tryd.ntmps83
      go_wp2
      go_ret
      rw [HD.out]
      exact ⟨rfl, rfl⟩
    · have HD : Hid (letB c = false) := by show _ = _; unfold letB; simp; omega
      have h3 : 65 ≤ (c.toNat : Int) := by omega
      have h4 : ¬ (c.toNat : Int) ≤ 90 := by omega
      have h5 : ((c.toNat : Int) == 95) = false := beq_eq_false_iff_ne.2 (by omega)
      go_enter Tryd.func83, Tryd.ntmps83
      go_wp2
      go_ret
      rw [HD.out]
      exact ⟨rfl, rfl⟩
  · by_cases h3 : 65 ≤ (c.toNat : Int)
    · by_cases h4 : (c.toNat : Int) ≤ 90
      · have HD : Hid (letB c = true) := by show _ = _; unfold letB; simp; omega
        go_enter Tryd.func83, Tryd.ntmps83
        go_wp2
        go_ret
        rw [HD.out]
        exact ⟨rfl, rfl⟩
      · by_cases h5 : (c.toNat : Int) = 95
        · have HD : Hid (letB c = true) := by show _ = _; unfold letB; simp; omega
          go_enter Tryd.func83, Tryd.ntmps83
          go_wp2
          go_ret
          rw [HD.out]
          exact ⟨rfl, rfl⟩
        · have HD : Hid (letB c = false) := by show _ = _; unfold letB; simp; omega
          have h6 : ((c.toNat : Int) == 95) = false := beq_eq_false_iff_ne.2 h5
          clear h5
          go_enter Tryd.func83, Tryd.ntmps83
          go_wp2
          go_ret
          rw [HD.out]
          exact ⟨rfl, rfl⟩
    · have HD : Hid (letB c = false) := by show _ = _; unfold letB; simp; omega
      have h5 : ((c.toNat : Int) == 95) = false := beq_eq_false_iff_ne.2 (by omega)
      go_enter Tryd.func83, Tryd.ntmps83
      go_wp2
      go_ret
      rw [HD.out]
      exact ⟨rfl, rfl⟩

set_option maxHeartbeats 1000000 in
theorem field_any (v : Int) (u : Bool) (n : Nat) (w : World) : Calls Tryd.prog 84 #[.int .i64 v, .bool u, .int .i64 (n : Int)] w fun e w' => e = .returned (.bool (fieldB v u n)) ∧ w' = w := by
  cases u
  · by_cases h : v = 0
    · have HD : Hid (fieldB v false n = true) := by show _ = _; simp [fieldB, h]
      subst h
      go_enter Tryd.func84, Tryd.ntmps84
      go_wp2
      go_ret
      rw [HD.out]
      exact ⟨rfl, rfl⟩
    · have HD : Hid (fieldB v false n = false) := by show _ = _; simp [fieldB, h]
      go_enter Tryd.func84, Tryd.ntmps84
      go_wp2
      go_ret
      rw [HD.out]
      exact ⟨by simp [h], rfl⟩
  · by_cases h : 0 ≤ v
    · by_cases h2 : v < (n : Int)
      · have HD : Hid (fieldB v true n = true) := by show _ = _; simp [fieldB, h, h2]
        go_enter Tryd.func84, Tryd.ntmps84
        go_wp2
        go_ret
        rw [HD.out]
        exact ⟨rfl, rfl⟩
      · have HD : Hid (fieldB v true n = false) := by show _ = _; simp [fieldB, h2]
        go_enter Tryd.func84, Tryd.ntmps84
        go_wp2
        go_ret
        rw [HD.out]
        exact ⟨rfl, rfl⟩
    · have HD : Hid (fieldB v true n = false) := by show _ = _; simp [fieldB, h]
      go_enter Tryd.func84, Tryd.ntmps84
      go_wp2
      go_ret
      rw [HD.out]
      exact ⟨rfl, rfl⟩

theorem nameB_long (s : ByteArray) (h : 32 < s.size) : nameB s = false := by
  unfold nameB
  have : s.data.toList.length = s.size := by simp
  cases hl : s.data.toList with
  | nil => rfl
  | cons c r =>
    rw [hl] at this
    simp only [List.length_cons] at this
    simp only [nameL]
    rw [decide_eq_false (show ¬ r.length ≤ 31 by omega), Bool.and_false]
theorem nameB_of (s : ByteArray) (h0 : 0 < s.size) (h1 : s.size ≤ 32) : nameB s = (letB (s[0]'h0) && decide (∀ q, (hq : q < s.size) → 0 < q → nameCB (s[q]'hq) = true)) := by
  unfold nameB
  have hlen : s.data.toList.length = s.size := by simp
  have hget : ∀ q (hq : q < s.size), s.data.toList[q]'(by rw [hlen]; exact hq) = s[q]'hq := fun q hq => rfl
  cases hl : s.data.toList with
  | nil => rw [hl] at hlen; simp at hlen; omega
  | cons c r =>
    have hc : s[0]'h0 = c := by
      have := hget 0 h0
      simp only [hl] at this
      exact this.symm
    have hlr : r.length + 1 = s.size := by rw [hl] at hlen; simpa using hlen
    simp only [nameL]
    rw [hc, decide_eq_true (show r.length ≤ 31 by omega), Bool.and_true]
    congr 1
    rw [Bool.eq_iff_iff, List.all_eq_true, decide_eq_true_eq]
    constructor
    · intro h q hq h0
      obtain ⟨k, rfl⟩ : ∃ k, q = k + 1 := ⟨q - 1, by omega⟩
      have := hget (k + 1) hq
      simp only [hl, List.getElem_cons_succ] at this
      rw [← this]
      exact h _ (List.getElem_mem _)
    · intro h x hx
      obtain ⟨k, hk, rfl⟩ := List.getElem_of_mem hx
      have := hget (k + 1) (by omega)
      simp only [hl, List.getElem_cons_succ] at this
      rw [this]
      exact h (k + 1) (by omega) (by omega)

set_option maxHeartbeats 2000000 in
set_option maxRecDepth 100000 in
theorem name_any (s : ByteArray) (w : World) (hs : s.size ≤ 140737488351232) : Calls Tryd.prog 55 #[.string s] w fun e w' => e = .returned (.bool (nameB s)) ∧ Below w.heap.size w w' := by
  by_cases h0 : s.size = 0
  · have HD : Hid (nameB s = false) := by
      show _ = _
      unfold nameB
      have : s.data.toList = [] := List.eq_nil_of_length_eq_zero (by simpa using h0)
      rw [this]
      rfl
    go_enter Tryd.func55, Tryd.ntmps55
    go_wp2
    go_ret
    rw [HD.out]
    exact ⟨rfl, Below.refl _ _⟩
  by_cases h32 : 32 < s.size
  · have HD := hid (nameB_long s h32)
    have h33 : (32 : Int) < (s.size : Int) := by omega
    have h34 : ¬ (s.size : Int) < 1 := by omega
    go_enter Tryd.func55, Tryd.ntmps55
    go_wp2
    go_ret
    rw [HD.out]
    exact ⟨rfl, Below.refl _ _⟩
  have hp : 0 < s.size := by omega
  have HN := hid (nameB_of s hp (by omega))
  have LE := hid (fun W => letter_any (s[0]'hp) W)
  have h33 : ¬ (32 : Int) < (s.size : Int) := by omega
  have h34 : ¬ (s.size : Int) < 1 := by omega
  cases hl0 : letB (s[0]'hp) with
  | false =>
    rw [hl0, Bool.false_and] at HN
    rw [hl0] at LE
    go_enter Tryd.func55, Tryd.ntmps55
    go_wp2_with (first
      | (go_at_call 83; with_reducible refine (LE.out _).mono ?_; rintro e w1 ⟨rfl, rfl⟩))
    go_ret
    rw [HN.out]
    exact ⟨rfl, Below.refl _ _⟩
  | true =>
    rw [hl0, Bool.true_and] at HN
    rw [hl0] at LE
    clear hl0
    go_enter Tryd.func55, Tryd.ntmps55
    go_wp2_with (first
      | (go_at_call 83; with_reducible refine (LE.out _).mono ?_; rintro e w1 ⟨rfl, rfl⟩))
    go_loopw [3] (fun iv W => ∃ i : Nat, 1 ≤ i ∧ i ≤ s.size ∧ iv = .int .i64 (i : Int) ∧ W = w1 ∧ Hid (∀ q, (hq : q < s.size) → 0 < q → q < i → nameCB (s[q]'hq) = true)) (fun iv _ => s.size - (intOf iv).toNat)
    case atStart => exact ⟨1, Nat.le_refl _, by omega, rfl, rfl, fun q _ h1 h2 => by omega⟩
    case round =>
      obtain ⟨i, hi1, hi, rfl, rfl, HR⟩ := hrel
      by_cases hlt : i < s.size
      · have hr := HR.out
        clear HR
        have LI := hid (fun W => letter_any (s[i]'hlt) W)
        have HNX : nameCB (s[i]'hlt) = true → Hid (∀ q, (hq : q < s.size) → 0 < q → q < i + 1 → nameCB (s[q]'hq) = true) := fun h q hq h1 h2 => by
          by_cases e : q = i
          · subst e; exact h
          · exact hr q hq h1 (by omega)
        have HNO : nameCB (s[i]'hlt) = false → Hid (nameB s = false) := fun h => by
          show _ = _
          rw [HN.out, decide_eq_false]
          intro hall
          have := hall i hlt (by omega)
          rw [h] at this
          cases this
        have hcb : ((s[i]'hlt).toNat : Int) ≤ 255 := by have := (s[i]'hlt).toNat_lt; omega
        cases hcl : letB (s[i]'hlt) with
        | true =>
          have NX := HNX (by simp [nameCB, hcl])
          rw [hcl] at LI
          clear HNX HNO hr hcl
          go_wp2_with (first
            | (go_at_call 83; with_reducible refine (LI.out _).mono ?_; rintro e w2 ⟨rfl, rfl⟩))
          exact ⟨⟨i + 1, by omega, hlt, by go_num, trivial, NX.out⟩, by simp [intOf]; omega⟩
        | false =>
          rw [hcl] at LI
          by_cases h1 : 48 ≤ ((s[i]'hlt).toNat : Int)
          · by_cases h2 : ((s[i]'hlt).toNat : Int) ≤ 57
            · have NX := HNX (by simp only [nameCB, hcl, Bool.false_or, decide_eq_true_eq]; omega)
              clear HNX HNO hr hcl
              go_wp2_with (first
                | (go_at_call 83; with_reducible refine (LI.out _).mono ?_; rintro e w2 ⟨rfl, rfl⟩))
              exact ⟨⟨i + 1, by omega, hlt, by go_num, trivial, NX.out⟩, by simp [intOf]; omega⟩
            · have NO := HNO (by simp only [nameCB, hcl, Bool.false_or, decide_eq_false_iff_not]; omega)
              have h3 : ¬ ((s[i]'hlt).toNat : Int) = 46 := by omega
              have h3b : (((s[i]'hlt).toNat : Int) == 46) = false := beq_eq_false_iff_ne.2 h3
              have h2b : decide (((s[i]'hlt).toNat : Int) ≤ 57) = false := decide_eq_false h2
              have h3c : (((s[i]'hlt).toNat : Int) != 46) = true := bne_iff_ne.2 h3
              clear HNX HNO hr hcl
              go_wp2_with (first
                | (go_at_call 83; with_reducible refine (LI.out _).mono ?_; rintro e w2 ⟨rfl, rfl⟩))
              go_ret
              rw [NO.out]
              exact ⟨rfl, Below.refl _ _⟩
          · by_cases h3 : ((s[i]'hlt).toNat : Int) = 46
            · have NX := HNX (by simp only [nameCB, hcl, Bool.false_or, decide_eq_true_eq]; omega)
              have h4 : (((s[i]'hlt).toNat : Int) == 46) = true := by rw [h3]; rfl
              clear HNX HNO hr hcl h3
              go_wp2_with (first
                | (go_at_call 83; with_reducible refine (LI.out _).mono ?_; rintro e w2 ⟨rfl, rfl⟩))
              exact ⟨⟨i + 1, by omega, hlt, by go_num, trivial, NX.out⟩, by simp [intOf]; omega⟩
            · have NO := HNO (by simp only [nameCB, hcl, Bool.false_or, decide_eq_false_iff_not]; omega)
              have h4 : (((s[i]'hlt).toNat : Int) == 46) = false := beq_eq_false_iff_ne.2 h3
              clear HNX HNO hr hcl h3
              go_wp2_with (first
                | (go_at_call 83; with_reducible refine (LI.out _).mono ?_; rintro e w2 ⟨rfl, rfl⟩))
              go_ret
              rw [NO.out]
              exact ⟨rfl, Below.refl _ _⟩
      · have hin : i = s.size := by omega
        have HF : Hid (nameB s = true) := by
          show _ = _
          rw [HN.out]
          exact decide_eq_true (fun q hq h0 => HR.out q hq h0 (by omega))
        clear HR hin
        go_wp2
        go_ret
        rw [HF.out]
        exact ⟨rfl, Below.refl _ _⟩
end Go.Proofs.YtfmmmhcpdinhgaaDoor
