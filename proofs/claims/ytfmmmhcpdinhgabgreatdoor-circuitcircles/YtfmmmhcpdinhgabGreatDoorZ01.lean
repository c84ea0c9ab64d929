import Derived.Lib.BufSteps
import Derived.Lib.ItoaLen
import Derived.Lib.Strings
import Derived.WalkKit
import Derived.WalkSpells
import Derived.WalkLawsBesides
import Derived.Deep.QuietTactic
import Derived.Deep.RegionHeld3
import Derived.Deep.RegionWith
import Derived.Deep.RegionLaw
import Derived.Deep.DeepCutAuto
import Derived.Deep.OwnRows
import Derived.Laws.LoneSync
import Derived.Lib.OwnKind
import Derived.OwnWalk
import Derived.Below
import Derived.Laws.IdiomStrings
import Derived.Shelf.Strings.Trim
import Derived.Shelf.Strings.SlTrimAscii
import Derived.Shelf.LaysM
import Derived.Shelf.Strconv.Clone
import Derived.Shelf.Strings.Search1
import Derived.Shelf.Strings.Search2
import Derived.Shelf.Strings.Count
import Derived.Shelf.Strings.LastIndex
import Derived.Shelf.Strings.IndexAny
import Derived.Shelf.Strings.AsciiSet
import Derived.Shelf.Strings.IndexAnyAll
import Derived.Shelf.RegionOpenPlain
import Derived.Lib.OthersKept
import Derived.Maps.OwnSet
import Derived.Maps.Views
import Derived.Maps.OwnOps
import Derived.StringKeys
import Derived.Laws.MakeOwn
import Derived.Laws.AppendOwn
import Derived.Deep.DeepAppendRoom
import Derived.ArgAppend
import Derived.Laws.CopyRow
import Derived.Laws.OwnMore
import Derived.Laws.Tables
import Derived.Deep.LoopGhost
import Derived.BigQuiet
import Derived.ScopeJumps
import Derived.Lib.Builder
import Derived.Lib.FrozenHead
import Derived.Lib.UnsafeStr
import Derived.Laws.Externs
import Derived.Deep.CutBlock
import Derived.OpenShut
import Derived.SizedLaws
import Derived.ProofKit
import Derived.Deep.Slices
import Derived.ChangeArms
import Derived.DataElems
import Derived.Deep.DeepHandedRow
import Derived.Deep.DeepWitnessRowRef
import Derived.SevenTiedAt
import Derived.Shelf.Sort.Plain
import Derived.Sort.OwnSortedInts
import Derived.Lib.FrozenHead2
import Derived.Lib.ConvBytes
import Derived.Test.YtfmmmhcpdinhgabGreatDoorRows
import Derived.Test.YtfmmmhcpdinhgabGreatDoorTie
import Derived.Test.YtfmmmhcpdinhgabGreatDoorCards
/-
  Circuits: what the document says of them, by lists.
-/
namespace PureNet
set_option maxRecDepth 100000

/-- a line. -/
structure Ga where
  kind : Int
  name : ByteArray
  op : Int
  a : Int
  b : Int
  c : Int
structure Net where
  name : ByteArray
  gates : List Ga
  outs : List Int

def letB (c : UInt8) : Bool := decide ((97 ≤ c.toNat ∧ c.toNat ≤ 122) ∨ (65 ≤ c.toNat ∧ c.toNat ≤ 90) ∨ c.toNat = 95)
def nameCB (c : UInt8) : Bool := letB c || decide ((48 ≤ c.toNat ∧ c.toNat ≤ 57) ∨ c.toNat = 46)
def nameL : List UInt8 → Bool
  | [] => false
  | c :: r => letB c && r.all nameCB && decide (r.length ≤ 31)
def nameB (s : ByteArray) : Bool := nameL s.data.toList

def leansOn (g : Ga) : List Int := if g.kind = 2 then [g.a, g.b] else if g.kind = 4 then [g.a, g.b, g.c] else []
def fieldB (v : Int) (used : Bool) (n : Nat) : Bool := if used then decide (0 ≤ v ∧ v < n) else decide (v = 0)
def mostOp (k : Int) : Int := if k = 2 then 15 else if k = 3 then 1 else 0
def lineB (g : Ga) (n : Nat) : Bool :=
  decide (1 ≤ g.kind ∧ g.kind ≤ 4 ∧ 0 ≤ g.op ∧ g.op ≤ mostOp g.kind) && fieldB g.a (decide (g.kind ≠ 1)) n && fieldB g.b (decide (g.kind = 2 ∨ g.kind = 4)) n && fieldB g.c (decide (g.kind = 4)) n

/-- a line leans on another. -/
def Leans (l : List Ga) (i j : Nat) : Prop := ∃ g, l[i]? = some g ∧ (j : Int) ∈ leansOn g
def Way (l : List Ga) (i j : Nat) : Prop := ∀ P : Nat → Nat → Prop, (∀ a b, Leans l a b → P a b) → (∀ a b c, Leans l a b → P b c → P a c) → P i j
theorem Way.one {l : List Ga} {i j : Nat} (h : Leans l i j) : Way l i j := fun _ h1 _ => h1 _ _ h
theorem Way.more {l : List Ga} {i j k : Nat} (h : Leans l i j) (w : Way l j k) : Way l i k := fun P h1 h2 => h2 _ _ _ h (w P h1 h2)
theorem Way.ind {l : List Ga} {motive : (i j : Nat) → Way l i j → Prop} (one : ∀ {i j : Nat} (h : Leans l i j), motive i j (Way.one h)) (more : ∀ {i j k : Nat} (h : Leans l i j) (w : Way l j k), motive j k w → motive i k (Way.more h w)) {i j : Nat} (t : Way l i j) : motive i j t := by
  obtain ⟨w, hw⟩ := t (fun a b => ∃ w : Way l a b, motive a b w) (fun a b h => ⟨Way.one h, one h⟩) (fun a b c h ⟨w, hw⟩ => ⟨Way.more h w, more h w hw⟩)
  exact hw
theorem Way.cas {l : List Ga} {motive : (i j : Nat) → Way l i j → Prop} (one : ∀ {i j : Nat} (h : Leans l i j), motive i j (Way.one h)) (more : ∀ {i j k : Nat} (h : Leans l i j) (w : Way l j k), motive i k (Way.more h w)) {i j : Nat} (t : Way l i j) : motive i j t := Way.ind one (fun h w _ => more h w) t
def Ranked (l : List Ga) (r : Nat → Nat) : Prop := ∀ i j, Leans l i j → r j < r i
theorem Ranked.way {l : List Ga} {r : Nat → Nat} (h : Ranked l r) {i j : Nat} (w : Way l i j) : r j < r i := by
  induction w using PureNet.Way.ind with
  | one h1 => exact h _ _ h1
  | more h1 _ ih => exact Nat.lt_trans ih (h _ _ h1)
theorem Ranked.free {l : List Ga} {r : Nat → Nat} (h : Ranked l r) (i : Nat) : ¬ Way l i i := fun w => Nat.lt_irrefl _ (h.way w)

structure Formed (c : Net) : Prop where
  name : nameB c.name = true
  few : c.gates.length ≤ 65536
  fewOuts : c.outs.length ≤ 65536
  lines : ∀ (i : Nat) (g : Ga), c.gates[i]? = some g → nameB g.name = true ∧ lineB g c.gates.length = true
  apart : ∀ (i j : Nat) (g h : Ga), c.gates[i]? = some g → c.gates[j]? = some h → g.name = h.name → i = j
  outs : ∀ o ∈ c.outs, 0 ≤ o ∧ o < (c.gates.length : Int)
  free : ∀ i, ¬ Way c.gates i i


theorem lineB_kind {g : Ga} {n : Nat} (h : lineB g n = true) : 1 ≤ g.kind ∧ g.kind ≤ 4 := by
  simp only [lineB, Bool.and_eq_true, decide_eq_true_eq] at h
  exact ⟨h.1.1.1.1, h.1.1.1.2.1⟩
theorem lineB_leans {g : Ga} {n : Nat} (h : lineB g n = true) {a : Int} (ha : a ∈ leansOn g) : 0 ≤ a ∧ a < (n : Int) := by
  simp only [lineB, Bool.and_eq_true, decide_eq_true_eq, fieldB] at h
  obtain ⟨⟨⟨h0, h1⟩, h2⟩, h3⟩ := h
  unfold leansOn at ha
  by_cases e2 : g.kind = 2
  · simp [e2] at ha h1 h2
    rcases ha with rfl | rfl
    · exact h1
    · exact h2
  by_cases e4 : g.kind = 4
  · simp [e4] at ha h1 h2 h3
    rcases ha with rfl | rfl | rfl
    · exact h1
    · exact h2
    · exact h3
  · simp [e2, e4] at ha



/-- digits. -/
def decN (n : Nat) : List UInt8 := if n < 10 then [UInt8.ofNat (48 + n)] else decN (n / 10) ++ [UInt8.ofNat (48 + n % 10)]
def nmOf (i : Nat) : ByteArray := if i = 0 then ⟨#[105, 48]⟩ else ⟨(110 :: decN i).toArray⟩
/-- the line at place i of a made circuit. -/
structure LineM (i : Nat) (g : Ga) : Prop where
  name : g.name = nmOf i
  form : (g.kind = 1 ∧ g.op = 0 ∧ g.a = 0 ∧ g.b = 0 ∧ g.c = 0) ∨ (g.kind = 3 ∧ 0 ≤ g.op ∧ g.op ≤ 1 ∧ 0 ≤ g.a ∧ g.a ≤ (i : Int) ∧ g.b = 0 ∧ g.c = 0) ∨
    (g.kind = 4 ∧ g.op = 0 ∧ 0 ≤ g.a ∧ g.a < (i : Int) ∧ 0 ≤ g.b ∧ g.b < (i : Int) ∧ 0 ≤ g.c ∧ g.c < (i : Int)) ∨
    (g.kind = 2 ∧ 0 ≤ g.op ∧ g.op ≤ 15 ∧ 0 ≤ g.a ∧ g.a < (i : Int) ∧ 0 ≤ g.b ∧ g.b < (i : Int) ∧ g.c = 0)
structure Made (c : Net) : Prop where
  name : c.name = ⟨#[109, 97, 100, 101]⟩
  pos : 0 < c.gates.length
  few : c.gates.length ≤ 200
  lines : ∀ (i : Nat) (g : Ga), c.gates[i]? = some g → LineM i g
  fewOuts : c.outs.length ≤ 200
  outs : ∀ o ∈ c.outs, 0 ≤ o ∧ o < (c.gates.length : Int)
theorem names_good : ∀ i, i < 200 → nameB (nmOf i) = true := by decide +kernel
theorem names_apart : ((List.range 200).map fun i => (nmOf i).data.toList).Nodup := by decide +kernel
theorem nmOf_inj {i j : Nat} (hi : i < 200) (hj : j < 200) (h : nmOf i = nmOf j) : i = j := by
  have e : ((List.range 200).map fun i => (nmOf i).data.toList)[i]? = ((List.range 200).map fun i => (nmOf i).data.toList)[j]? := by
    simp [List.getElem?_map, List.getElem?_range hi, List.getElem?_range hj, h]
  exact (List.getElem?_inj (by simpa using hi) names_apart).1 e
theorem LineM.line {i : Nat} {g : Ga} (h : LineM i g) {n : Nat} (hi : i < n) : lineB g n = true := by
  simp only [lineB, Bool.and_eq_true, decide_eq_true_eq, fieldB, mostOp]
  rcases h.form with ⟨e, h1, h2, h3, h4⟩ | ⟨e, h1, h2, h3, h4, h5, h6⟩ | ⟨e, h1, h2, h3, h4, h5, h6, h7⟩ | ⟨e, h1, h2, h3, h4, h5, h6, h7⟩
  · simp [e, h1, h2, h3, h4]
  · simp [e, h1, h2, h3, h5, h6]; omega
  · simp [e, h1, h2, h4, h6]; omega
  · simp [e, h1, h2, h3, h5, h7]; omega
theorem LineM.above {i : Nat} {g : Ga} (h : LineM i g) {a : Int} (ha : a ∈ leansOn g) : 0 ≤ a ∧ a < (i : Int) := by
  unfold leansOn at ha
  rcases h.form with ⟨e, h1, h2, h3, h4⟩ | ⟨e, h1, h2, h3, h4, h5, h6⟩ | ⟨e, h1, h2, h3, h4, h5, h6, h7⟩ | ⟨e, h1, h2, h3, h4, h5, h6, h7⟩ <;> simp [e] at ha
  · rcases ha with rfl | rfl | rfl
    · exact ⟨h2, h3⟩
    · exact ⟨h4, h5⟩
    · exact ⟨h6, h7⟩
  · rcases ha with rfl | rfl
    · exact ⟨h3, h4⟩
    · exact ⟨h5, h6⟩
theorem Made.above {c : Net} (h : Made c) (i j : Nat) (hl : Leans c.gates i j) : j < i := by
  obtain ⟨g, hg, hj⟩ := hl
  have := (h.lines i g hg).above hj
  omega
theorem Made.line {c : Net} (h : Made c) (i : Nat) (g : Ga) (hg : c.gates[i]? = some g) : lineB g c.gates.length = true :=
  (h.lines i g hg).line (List.getElem?_eq_some_iff.1 hg).1
theorem Made.formed {c : Net} (h : Made c) : Formed c where
  name := by rw [h.name]; decide
  few := by have := h.few; omega
  fewOuts := by have := h.fewOuts; omega
  lines := fun i g hg => ⟨by
    have := (List.getElem?_eq_some_iff.1 hg).1
    have := h.few
    rw [(h.lines i g hg).name]; exact names_good i (by omega), h.line i g hg⟩
  apart := fun i j g k hg hk e => by
    have := (List.getElem?_eq_some_iff.1 hg).1
    have := (List.getElem?_eq_some_iff.1 hk).1
    have := h.few
    rw [(h.lines i g hg).name, (h.lines j k hk).name] at e
    exact nmOf_inj (by omega) (by omega) e
  outs := h.outs
  free := (show Ranked c.gates id from fun i j hl => h.above i j hl).free
end PureNet
/-
  General lemmas of the texts of circuit.
-/
namespace Go.Proofs.YtfmmmhcpdinhgabGreatDoor
open Go.RowKit Go.Deep PureNet
set_option maxRecDepth 100000

theorem hid {q : Prop} (h : q) : Hid q := h
theorem add_plain (g o k : Nat) : (⟨g, o, none⟩ : Addr).add k = ⟨g, o + k, none⟩ := by
  unfold Addr.add
  split <;> simp_all
theorem add_zero_addr (g j : Nat) : (⟨g, 0, none⟩ : Addr).add j = ⟨g, j, none⟩ := by rw [add_plain, Nat.zero_add]
theorem cell_row {w : World} {b : Nat} {c : Array Value} {t : TypeId} {fz : Nat × Nat} (h : w.heap[b]? = some (.cells c t fz)) (i : Nat) : w.cell? ⟨b, i, none⟩ = c[i]? := by simp [World.cell?, h]
theorem unfrozen_row {w : World} {b : Nat} {c : Array Value} {t : TypeId} (h : w.heap[b]? = some (.cells c t (0, 0))) (i : Nat) : w.frozen? ⟨b, i, none⟩ = false := by simp [World.frozen?, h]
theorem below_cell {B b o : Nat} {w w' : World} {x : Value} (hb : Below B w w') (hlt : b < B) (h : w.cell? ⟨b, o, none⟩ = some x) : w'.cell? ⟨b, o, none⟩ = some x := (hb.cell (p := ⟨b, o, none⟩) hlt).trans h
theorem below_drewN {B : Nat} {w W : World} (h : Below B w W) (n : Nat) : Below B w (W.drewN n) := ⟨h.os, h.tape, h.output, h.size, h.block⟩
theorem ownsRow_below {w W : World} {base e size n : Nat} {v : Value} {xs : List Value} (h : w.ownsRow base e size v n xs) (hb : Below w.heap.size w W) : W.ownsRow base e size v n xs := by
  refine ⟨h.1, ?_⟩
  rcases h.2 with hn | ⟨g, cap, cur, hv, hB, hg, rest⟩
  · exact .inl hn
  · exact .inr ⟨g, cap, cur, hv, hB, (hb.block g (Array.getElem?_eq_some_iff.1 hg).1).trans hg, rest⟩
theorem own_shape {W : World} {B e size n : Nat} {v : Value} {xs : List Value} (h : W.ownsRow B e size v n xs) : ∃ sa c, v = .slice sa n c := by
  rcases h.2 with ⟨hv, h0⟩ | ⟨g, cap, cur, hv, _⟩
  · exact ⟨none, 0, by rw [hv, h0]⟩
  · exact ⟨_, _, hv⟩
theorem row_set {W : World} {b : Nat} {cs : Array Value} {t i : Nat} {u : Value} (hr : W.heap[b]? = some (.cells cs t (0, 0))) : (W.setCell ⟨b, i, none⟩ u).heap[b]? = some (.cells (cs.setIfInBounds i u) t (0, 0)) := by
  have hb := (Array.getElem?_eq_some_iff.1 hr).1
  simp [World.setCell, Array.getElem?_modify, hr]
theorem own_ne {W : World} {b B e size n t : Nat} {v : Value} {xs : List Value} {cs : Array Value} {fz : Nat × Nat} (h : W.ownsRow B e size v n xs) (hr : W.heap[b]? = some (.cells cs t fz)) (hte : t ≠ e) : v.ownBlock ≠ some b := by
  intro hv
  obtain ⟨c, f, hk⟩ := Lib.ownsRow_kind h b hv
  rw [hr] at hk
  simp only [Option.some.injEq, Obj.cells.injEq] at hk
  exact hte hk.2.1
/-- an owned row of another type stays when a row grows. -/
theorem own_kept {W W' : World} {B B' e e' size size' n n' : Nat} {v v' : Value} {xs xs' : List Value} (h : W.ownsRow B e size v n xs) (h' : W.ownsRow B' e' size' v' n' xs') (hg : W.grownBy W' v'.ownBlock) (hne : e ≠ e') : W'.ownsRow B e size v n xs :=
  h.kept hg (by
    cases hv : v.ownBlock with
    | none => exact .inl rfl
    | some g =>
      right
      intro e
      obtain ⟨c1, f1, k1⟩ := Lib.ownsRow_kind h g hv
      exact own_ne h' k1 hne e.symm)

/-- append of one, as a step of a region that draws its order. -/
theorem step_one {ops : Array Oper} {o : Oper} {a : Act} {w : World} {K : Act → World → Prop} {Q : Exit → Act → World → Prop} {X : Prop} (hgd : o.guard = none) (sl x : Operand) (t e : TypeId) (z : Value) (size bytes : Nat)
    (ho : o.op = .call { callee := .builtin .append, args := #[sl, x], argTypes := #[t, t] }) (hu : Tryz.prog.underlying t = some (.slice e)) (hinf : (Tryz.prog.info? e).map (fun i => (i.zero, i.size, i.bytes)) = some (some z, size, bytes))
    (hzs : z.cells.size = size) (hsz : 0 < size) (B n : Nat) (v : Value) (xs news : List Value) (ad : Addr) (hs : a.eval sl = v) (hown : w.ownsRow B e size v n xs) (hx : a.eval x = .slice (some ad) 1 1)
    (hl : news.length = size) (hnews : ∀ j u, news[j]? = some u → w.cell? (ad.add j) = some u) (h1 : ∀ u ∈ news, u.oneCell' = true) (hn : n ≤ 140737488351232) (hby : (n + 1) * bytes ≤ 140737488351233) (hB : B ≤ w.heap.size)
    (h : ∀ v' w', w'.ownsRow B e size v' (n + 1) (xs ++ news) → w.grownBy w' v.ownBlock → K (a.put o.dst v') w') : if Region.wanted o (yielded ops a.tmps) = true then Oper.wp Tryz.prog o a w K Q else X := by
  have hw : Region.wanted o (yielded ops a.tmps) = true := by simp [Region.wanted, hgd]
  rw [if_pos hw]
  obtain ⟨i, hi, hz0, hz1, hz2⟩ := info_parts hinf
  obtain ⟨v', w', hr, h2, h3, _⟩ := run_append_own (P := Tryz.prog) w B t o.type e i z size bytes hu hi hz0 hz1 hz2 hzs hsz v n xs hown ad 1 1 news (by rw [hl, Nat.one_mul]) hnews h1 (by unfold maxLen; omega) (by omega) hB
  unfold Oper.wp execOp
  simp only [ho, resolve, invoke, builtin, Sem.run_bind, Sem.run_pure, Result.andThen_ok, List.map_toArray, List.map_cons, List.map_nil, hs, hx, hr]
  exact h v' w' h2 h3
/-- append of one, in a region of the text's order. -/
theorem app_one {ops : Array Oper} {rest : List Oper} {o : Oper} {a : Act} {Q : Exit → Act → World → Prop} {w : World} (hgd : o.guard = none) (sl x : Operand) (t e : TypeId) (z : Value) (size bytes : Nat)
    (ho : o.op = .call { callee := .builtin .append, args := #[sl, x], argTypes := #[t, t] }) (hu : Tryz.prog.underlying t = some (.slice e)) (hinf : (Tryz.prog.info? e).map (fun i => (i.zero, i.size, i.bytes)) = some (some z, size, bytes))
    (hzs : z.cells.size = size) (hsz : 0 < size) (B n : Nat) (v : Value) (xs news : List Value) (ad : Addr) (hs : a.eval sl = v) (hown : w.ownsRow B e size v n xs) (hx : a.eval x = .slice (some ad) 1 1)
    (hl : news.length = size) (hnews : ∀ j u, news[j]? = some u → w.cell? (ad.add j) = some u) (h1 : ∀ u ∈ news, u.oneCell' = true) (hn : n ≤ 140737488351232) (hby : (n + 1) * bytes ≤ 140737488351233) (hB : B ≤ w.heap.size)
    (h : ∀ v' w', w'.ownsRow B e size v' (n + 1) (xs ++ news) → w.grownBy w' v.ownBlock → wpList Tryz.prog ops Q rest (a.put o.dst v') w') : wpList Tryz.prog ops Q (o :: rest) a w := by
  obtain ⟨i, hi, hz0, hz1, hz2⟩ := info_parts hinf
  refine wpList_append_own _ hgd sl x t ho B e i z size bytes hu hi hz0 hz1 hz2 hzs hsz v n xs hs hown ad 1 1 news hx (by rw [hl, Nat.one_mul]) hnews h1 (by unfold maxLen; omega) (by omega) hB ?_
  intro v' w' h2 h3 _
  exact h v' w' h2 h3

theorem info3 : (Tryz.prog.info? 3).map (fun i => (i.zero, i.size, i.bytes)) = some (some (.int .i64 0), 1, 8) := by kernel_rfl
theorem info38 : (Tryz.prog.info? 42).map (fun i => (i.zero, i.size, i.bytes)) = some (some (.agg #[.int .i64 0, .string ⟨#[]⟩, .int .i64 0, .int .i64 0, .int .i64 0, .int .i64 0]), 6, 56) := by kernel_rfl

/-- cells that can be read there. -/
structure CellsAt (W : World) (s : Option Addr) (xs : List Value) : Prop where
  at_ : ∀ (k : Nat) (x : Value), xs[k]? = some x → ∃ g o, s = some ⟨g, o, none⟩ ∧ g < W.heap.size ∧ W.cell? ⟨g, o + k, none⟩ = some x
theorem CellsAt.below {w W : World} {s : Option Addr} {xs : List Value} (h : CellsAt w s xs) (hb : Below w.heap.size w W) : CellsAt W s xs := ⟨fun k x hx => by
  obtain ⟨g, o, e, hg, c⟩ := h.at_ k x hx
  exact ⟨g, o, e, Nat.lt_of_lt_of_le hg hb.size, below_cell hb hg c⟩⟩
theorem CellsAt.nil (W : World) (s : Option Addr) : CellsAt W s [] := ⟨fun k x hx => by simp at hx⟩
theorem own_cells {W : World} {B e size n : Nat} {v : Value} {xs : List Value} (h : W.ownsRow B e size v n xs) : ∃ sa c, v = .slice sa n c ∧ CellsAt W sa xs ∧ (sa = none → c = 0) ∧ n ≤ c ∧ ∀ g o sp, sa = some ⟨g, o, sp⟩ → B ≤ g := by
  have hlen := h.1
  rcases h.2 with ⟨hv, h0⟩ | ⟨g, cap, cur, hv, hb, hg, hn, hm, hsz, ht⟩
  · subst h0
    have : xs = [] := List.eq_nil_of_length_eq_zero (by simpa using hlen)
    subst this
    exact ⟨none, 0, hv, CellsAt.nil _ _, fun _ => rfl, Nat.le_refl _, fun g o sp e => by cases e⟩
  · refine ⟨_, _, hv, ⟨fun k x hx => ⟨g, 0, rfl, (Array.getElem?_eq_some_iff.1 hg).1, ?_⟩⟩, (fun e => by cases e), hn, fun g' o' sp e => by cases e; exact hb⟩
    rw [cell_row hg, Nat.zero_add]
    rw [← ht] at hx
    have hk : k < n * size := by
      have := (List.getElem?_eq_some_iff.1 hx).1
      simp only [List.length_take] at this
      omega
    rw [List.getElem?_take_of_lt hk] at hx
    simpa using hx

def ga (g : Ga) : List Value := [.int .i64 g.kind, .string g.name, .int .i64 g.op, .int .i64 g.a, .int .i64 g.b, .int .i64 g.c]
def gas (l : List Ga) : List Value := l.flatMap ga
def nu (l : List Int) : List Value := l.map (Value.int .i64)
theorem gas_length (l : List Ga) : (gas l).length = l.length * 6 := by
  induction l with
  | nil => rfl
  | cons p t ih => simp only [gas, List.flatMap_cons, List.length_append, List.length_cons] at ih ⊢; simp only [ga, List.length_cons, List.length_nil]; omega
theorem gas_snoc (l : List Ga) (g : Ga) : gas (l ++ [g]) = gas l ++ ga g := by simp [gas]
theorem gas_at (l : List Ga) (k j : Nat) (hk : k < l.length) (hj : j < 6) : (gas l)[k * 6 + j]? = (ga l[k])[j]? := by
  induction l generalizing k with
  | nil => simp at hk
  | cons p t ih =>
    have e : gas (p :: t) = ga p ++ gas t := by simp [gas]
    have hl : (ga p).length = 6 := rfl
    rw [e]
    cases k with
    | zero => rw [List.getElem?_append_left (by omega)]; simp
    | succ k =>
      rw [List.getElem?_append_right (by omega), hl, show (k + 1) * 6 + j - 6 = k * 6 + j by omega, ih k (by simpa using hk)]
      simp
/-- a line of a circuit, read. -/
theorem gate_at {W : World} {s : Option Addr} {l : List Ga} (h : CellsAt W s (gas l)) (k : Nat) (g : Ga) (hg : l[k]? = some g) : ∃ b o, s = some ⟨b, o, none⟩ ∧ b < W.heap.size ∧ W.cell? ⟨b, o + k * 6, none⟩ = some (.int .i64 g.kind) ∧ W.cell? ⟨b, o + k * 6 + 1, none⟩ = some (.string g.name) ∧ W.cell? ⟨b, o + k * 6 + 2, none⟩ = some (.int .i64 g.op) ∧ W.cell? ⟨b, o + k * 6 + 3, none⟩ = some (.int .i64 g.a) ∧ W.cell? ⟨b, o + k * 6 + 4, none⟩ = some (.int .i64 g.b) ∧ W.cell? ⟨b, o + k * 6 + 5, none⟩ = some (.int .i64 g.c) := by
  obtain ⟨hk, rfl⟩ := List.getElem?_eq_some_iff.1 hg
  have one : ∀ j (hj : j < 6), (gas l)[k * 6 + j]? = some ((ga l[k])[j]'(by simpa [ga] using hj)) := fun j hj => by rw [gas_at l k j hk hj, List.getElem?_eq_getElem]
  obtain ⟨b, o, e, hb, c0⟩ := h.at_ _ _ (one 0 (by omega))
  have rest : ∀ j (hj : j < 6), W.cell? ⟨b, o + k * 6 + j, none⟩ = some ((ga l[k])[j]'(by simpa [ga] using hj)) := fun j hj => by
    obtain ⟨b', o', e', hb', c'⟩ := h.at_ _ _ (one j hj)
    rw [e] at e'
    simp only [Option.some.injEq, Addr.mk.injEq, and_true] at e'
    obtain ⟨rfl, rfl⟩ := e'
    rw [Nat.add_assoc]; exact c'
  exact ⟨b, o, e, hb, rest 0 (by omega), rest 1 (by omega), rest 2 (by omega), rest 3 (by omega), rest 4 (by omega), rest 5 (by omega)⟩
theorem num_at {W : World} {s : Option Addr} {l : List Int} (h : CellsAt W s (nu l)) (k : Nat) (x : Int) (hx : l[k]? = some x) : ∃ b o, s = some ⟨b, o, none⟩ ∧ b < W.heap.size ∧ W.cell? ⟨b, o + k, none⟩ = some (.int .i64 x) :=
  h.at_ k _ (by simp [nu, hx])

/-- a circuit as a value. -/
abbrev cirV (c : Net) (sg : Option Addr) (cg : Nat) (so : Option Addr) (co : Nat) : Value := .agg #[.string c.name, .slice sg c.gates.length cg, .slice so c.outs.length co]
/-- its lists. -/
structure CirAt (W : World) (c : Net) (sg so : Option Addr) : Prop where
  gates : CellsAt W sg (gas c.gates)
  outs : CellsAt W so (nu c.outs)
theorem CirAt.below {w W : World} {c : Net} {sg so : Option Addr} (h : CirAt w c sg so) (hb : Below w.heap.size w W) : CirAt W c sg so := ⟨h.gates.below hb, h.outs.below hb⟩


/-- a row in the making since w. -/
structure Mk (w W : World) (e size : Nat) (v : Value) (n : Nat) (xs : List Value) : Prop where
  own : W.ownsRow w.heap.size e size v n xs
  below : Below w.heap.size w W
theorem Mk.nil (w : World) (e size : Nat) : Mk w w e size (.slice none 0 0) 0 [] := ⟨World.ownsRow_nil _ _ _ _, Below.refl _ _⟩
theorem Mk.on {w W W' : World} {e size n : Nat} {v : Value} {xs : List Value} (h : Mk w W e size v n xs) (hb : Below W.heap.size W W') : Mk w W' e size v n xs := ⟨ownsRow_below h.own hb, h.below.trans (hb.mono h.below.size)⟩
theorem Mk.grow {w W W' : World} {e size n n' : Nat} {v v' : Value} {xs xs' : List Value} (h : Mk w W e size v n xs) (ho : W'.ownsRow w.heap.size e size v' n' xs') (hg : W.grownBy W' v.ownBlock) : Mk w W' e size v' n' xs' := ⟨ho, h.below.grown hg h.below.size (fun j hj => (h.own.lt j hj).1)⟩
/-- append of one to a row in the making. -/
theorem mk_app {ops : Array Oper} {rest : List Oper} {o : Oper} {a : Act} {Q : Exit → Act → World → Prop} {w W : World} {v : Value} {e size n : Nat} {xs : List Value} (hgd : o.guard = none) (sl y : Operand) (t : TypeId) (z : Value) (bytes : Nat)
    (ho : o.op = .call { callee := .builtin .append, args := #[sl, y], argTypes := #[t, t] }) (hu : Tryz.prog.underlying t = some (.slice e)) (hinf : (Tryz.prog.info? e).map (fun i => (i.zero, i.size, i.bytes)) = some (some z, size, bytes)) (hzs : z.cells.size = size) (hsz : 0 < size)
    (h : Mk w W e size v n xs) (news : List Value) (u : TypeId) (ad : Nat) (had : ad = W.heap.size) (hs : a.eval sl = v) (hx : a.eval y = .slice (some ⟨ad, 0, none⟩) 1 1) (hl : news.length = size) (h1 : ∀ u ∈ news, u.oneCell' = true) (hn : n ≤ 140737488351232) (hby : (n + 1) * bytes ≤ 140737488351233)
    (hK : ∀ sx cx w', (W.alloc (.cells news.toArray u)).grownBy w' v.ownBlock → Mk w w' e size (.slice sx (n + 1) cx) (n + 1) (xs ++ news) → wpList Tryz.prog ops Q rest (a.put o.dst (.slice sx (n + 1) cx)) w') :
    wpList Tryz.prog ops Q (o :: rest) a (W.alloc (.cells news.toArray u)) := by
  subst had
  have h2 := h.on ((Below.refl _ _).alloc (Nat.le_refl _) (Obj.cells news.toArray u))
  refine app_one hgd sl y t e z size bytes ho hu hinf hzs hsz w.heap.size n v xs news ⟨W.heap.size, 0, none⟩ hs h2.own hx hl (fun j u hu => by rw [add_zero_addr, cell_row (heap_alloc_new W _)]; simpa using hu) h1 hn hby h2.below.size ?_
  intro v4 w4 o4 g4
  obtain ⟨sx, cx, rfl⟩ := own_shape o4
  exact hK sx cx w4 g4 (h2.grow o4 g4)
end Go.Proofs.YtfmmmhcpdinhgabGreatDoor
/-
  Circuits: lines in another order; lines that bear on nothing.
-/
namespace PureNet
set_option maxRecDepth 100000


theorem leans_lt {l : List Ga} {i j : Nat} (h : Leans l i j) : i < l.length := by
  obtain ⟨g, hg, _⟩ := h
  exact (List.getElem?_eq_some_iff.1 hg).1


end PureNet
/-
  The law's small calls: within, number, count, truths, fit.
-/
namespace Go.Proofs.YtfmmmhcpdinhgabGreatDoor
open Go.RowKit Go.Deep PureNet
set_option maxRecDepth 100000

/-- a string of these bytes. -/
abbrev str (l : List UInt8) : Value := .string ⟨l.toArray⟩
theorem str_add (a b : List UInt8) : (⟨a.toArray⟩ : ByteArray) ++ ⟨b.toArray⟩ = ⟨(a ++ b).toArray⟩ := by
  apply ByteArray.ext
  simp

/-- a number brought into 0 to n - 1. -/
def wi (v : Int) (n : Nat) : Nat := ((if v < 0 then -(v + 1) else v) % (n : Int)).toNat
theorem wi_lt (v : Int) {n : Nat} (hn : 0 < n) : wi v n < n := by
  unfold wi
  have h1 := Int.emod_nonneg (if v < 0 then -(v + 1) else v) (show (n : Int) ≠ 0 by omega)
  have h2 := Int.emod_lt_of_pos (if v < 0 then -(v + 1) else v) (show 0 < (n : Int) by omega)
  omega
set_option maxHeartbeats 1000000 in
theorem within_any (v : Int) (n : Nat) (w : World) (hv : -9223372036854775808 ≤ v ∧ v ≤ 9223372036854775807) (hn : 0 < n) (hn2 : n ≤ 1048576) : Calls Tryz.prog 10 #[.int .i64 v, .int .i64 (n : Int)] w fun e w' => e = .returned (.int .i64 (wi v n : Int)) ∧ w' = w := by
  by_cases h : v < 0
  · have e : (-(v + 1)).tmod (n : Int) = (wi v n : Int) := by
      unfold wi
      rw [if_pos h, Int.tmod_eq_emod_of_nonneg (by omega), Int.toNat_of_nonneg (Int.emod_nonneg _ (by omega))]
    obtain ⟨k, hk⟩ : ∃ k, k = wi v n := ⟨_, rfl⟩
    rw [← hk] at e ⊢
    clear hk
    go_enter Tryz.func10, Tryz.ntmps10
    go_wp2
    go_ret
    exact ⟨rfl, rfl⟩
  · have e : v % (n : Int) = (wi v n : Int) := by
      unfold wi
      rw [if_neg h, Int.toNat_of_nonneg (Int.emod_nonneg _ (by omega))]
    have E := hid e
    clear e
    go_enter Tryz.func10, Tryz.ntmps10
    go_wp2
    go_ret
    exact ⟨by rw [← E.out]; rfl, rfl⟩

theorem dec_small {n : Nat} (h : n < 10) : decN n = [UInt8.ofNat (48 + n)] := by rw [decN, if_pos h]
theorem dec_big {n : Nat} (h : ¬ n < 10) : decN n = decN (n / 10) ++ [UInt8.ofNat (48 + n % 10)] := by rw [decN, if_neg h]
theorem dec_len {n : Nat} (h : n < 1000) : (decN n).length ≤ 3 := by
  by_cases h1 : n < 10
  · rw [dec_small h1]; simp
  rw [dec_big h1]
  by_cases h2 : n / 10 < 10
  · rw [dec_small h2]; simp
  rw [dec_big h2, dec_small (by omega)]
  simp
theorem conv_at (n : Nat) (hn : n < 10) {W : World} {g : Nat} (h : W.cell? ⟨g, 0, none⟩ = some (.int .u8 (48 + (n : Int)))) : (convert 38 9 (.slice (some ⟨g, 0, none⟩) 1 1)).run Tryz.prog W = .ok (str [UInt8.ofNat (48 + n)]) W := by
  refine run_convert_bytes_back (P := Tryz.prog) _ 38 9 5 ⟨g, 0, none⟩ 1 [UInt8.ofNat (48 + n)] Tryz.underlying38 Tryz.underlying5 Tryz.underlying9 (fun j hj => ?_)
  have h0 : j = 0 := by simpa using hj
  subst h0
  rw [add_zero_addr, h]
  simp
  omega
theorem conv_byte (n : Nat) (hn : n < 10) (w : World) : (convert 38 9 (.slice (some ⟨w.heap.size, 0, none⟩) 1 1)).run Tryz.prog (w.alloc (.cells #[.int .u8 (48 + (n : Int))] 5)) = .ok (str [UInt8.ofNat (48 + n)]) (w.alloc (.cells #[.int .u8 (48 + (n : Int))] 5)) := by
  refine run_convert_bytes_back (P := Tryz.prog) _ 38 9 5 ⟨w.heap.size, 0, none⟩ 1 [UInt8.ofNat (48 + n)] Tryz.underlying38 Tryz.underlying5 Tryz.underlying9 (fun j hj => ?_)
  have h0 : j = 0 := by simpa using hj
  subst h0
  simp [Addr.add]
  omega
set_option maxHeartbeats 400000 in
theorem number_small (n : Nat) (hn : n < 10) (w : World) :
    Calls Tryz.prog 13 #[.int .i64 n] w fun e w' => e = .returned (str (decN n)) ∧ Below w.heap.size w w' := by
  have hc := conv_byte n hn w
  rw [← dec_small hn] at hc
  go_enter Tryz.func13, Tryz.ntmps13
  go_wp2
  go_ret
  exact ⟨rfl, (Below.refl _ _).alloc (Nat.le_refl _) _⟩
set_option maxHeartbeats 400000 in
theorem number_any (n : Nat) : ∀ (w : World), n < 1000 →
    Calls Tryz.prog 13 #[.int .i64 n] w fun e w' => e = .returned (str (decN n)) ∧ Below w.heap.size w w' := by
  induction n using Nat.strongRecOn with
  | _ n ih =>
    intro w hn
    by_cases h : n < 10
    · exact number_small n h w
    · have h10 : ¬ (n : Int) < 10 := by omega
      obtain ⟨d, hd⟩ : ∃ d, d = n % 10 := ⟨_, rfl⟩
      obtain ⟨q, hq⟩ : ∃ q, q = n / 10 := ⟨_, rfl⟩
      have H1 : Hid (∀ w : World, Calls Tryz.prog 13 #[.int .i64 (q : Int)] w fun e w' => e = .returned (str (decN q)) ∧ Below w.heap.size w w') := fun w => ih q (by omega) w (by omega)
      have HD : Hid (decN q ++ [UInt8.ofNat (48 + d)] = decN n) := by rw [dec_big h, hd, hq]; exact rfl
      have HD2 : Hid ((⟨(decN q).toArray⟩ : ByteArray) ++ ⟨[UInt8.ofNat (48 + d)].toArray⟩ = ⟨(decN n).toArray⟩) := by show _ = _; rw [str_add, HD.out]
      have HD10 : Hid (d < 10) := by show _ < _; omega
      have hl1 := dec_len (n := q) (by omega)
      have hl2 : ¬ 9223372036854775807 < (decN q).length + 1 := by omega
      have hc := fun w => conv_byte d HD10.out w
      have F1 : Hid ((n : Int).tmod 10 = (n : Int) % 10) := Int.tmod_eq_emod_of_nonneg (by omega)
      have F2 : Hid (IntKind.i64.wrap ((n : Int) / 10) = (n : Int) / 10) := by show _ = _; rw [IntKind.wrap_i64]; omega
      have F3 : Hid (IntKind.i64.wrap (48 + (n : Int) % 10) = 48 + (n : Int) % 10) := by show _ = _; rw [IntKind.wrap_i64]; omega
      have F4 : Hid (IntKind.u8.wrap (48 + (n : Int) % 10) = 48 + (n : Int) % 10) := by show _ = _; rw [IntKind.wrap_u8]; omega
      have E1 : (q : Int) = (n : Int) / 10 := by omega
      have E2 : (d : Int) = (n : Int) % 10 := by omega
      rw [E1] at H1
      simp only [E2] at hc
      have hca := fun (W : World) (g : Nat) (h : W.cell? ⟨g, 0, none⟩ = some (.int .u8 (48 + (n : Int) % 10))) => conv_at d HD10.out (W := W) (g := g) (by rw [h, E2])
      obtain ⟨y, hy⟩ : ∃ y, y = UInt8.ofNat (48 + d) := ⟨_, rfl⟩
      simp only [← hy] at hc hca HD2
      have HCA := hid hca
      have HC := hid hc
      clear hd hq E1 E2 hc hca hy
      clear ih h
      go_enter Tryz.func13, Tryz.ntmps13
      go_wp2_with (fail)
      refine wp_region_noPanic ?_
      refine wp_region_held_drew (S := fun _ => True) (by kernel_rfl) trivial (fun hHeld => ?_)
      refine wpAnyH_take (i := 0) (v := ?_) (by simp only [List.getElem?_toArray, List.getElem?_cons_zero]; rfl) (by kernel_rfl) (by kernel_rfl) (by kernel_rfl) (fun _ _ _ h => h) (Or.inl ⟨by rfl, ?_⟩) (by assumption) ?_
      rotate_left 1
      · intro w hSw; (try dsimp only at hSw); go_simp; (try with_reducible rfl)
      try simp only [Act.put, List.setIfInBounds_toArray, List.set_cons_zero, List.set_cons_succ]
      refine wpAnyH_take (i := 1) (v := ?_) (by simp only [List.getElem?_toArray, List.getElem?_cons_succ, List.getElem?_cons_zero]; rfl) (by kernel_rfl) (by kernel_rfl) (by kernel_rfl) (fun _ _ _ h => h) (Or.inl ⟨by rfl, ?_⟩) (by assumption) ?_
      rotate_left 1
      · intro w hSw; (try dsimp only at hSw); go_simp; (try with_reducible rfl)
      try simp only [Act.put, List.setIfInBounds_toArray, List.set_cons_zero, List.set_cons_succ]
      refine wpAnyH_take (i := 3) (v := ?_) (by simp only [List.getElem?_toArray, List.getElem?_cons_succ, List.getElem?_cons_zero]; rfl) (by kernel_rfl) (by kernel_rfl) (by kernel_rfl) (fun _ _ _ h => h) (Or.inl ⟨by rfl, ?_⟩) (by assumption) ?_
      rotate_left 1
      · intro w hSw; (try dsimp only at hSw); go_simp; (try with_reducible rfl)
      try simp only [Act.put, List.setIfInBounds_toArray, List.set_cons_zero, List.set_cons_succ]
      refine wpAnyH_take (i := 4) (v := ?_) (by simp only [List.getElem?_toArray, List.getElem?_cons_succ, List.getElem?_cons_zero]; rfl) (by kernel_rfl) (by kernel_rfl) (by kernel_rfl) (fun _ _ _ h => h) (Or.inl ⟨by rfl, ?_⟩) (by assumption) ?_
      rotate_left 1
      · intro w hSw; (try dsimp only at hSw); go_simp; (try with_reducible rfl)
      try simp only [Act.put, List.setIfInBounds_toArray, List.set_cons_zero, List.set_cons_succ]
      refine wpAnyH_take (i := 5) (v := ?_) (by simp only [List.getElem?_toArray, List.getElem?_cons_succ, List.getElem?_cons_zero]; rfl) (by kernel_rfl) (by kernel_rfl) (by kernel_rfl) (fun _ _ _ h => h) (Or.inl ⟨by rfl, ?_⟩) (by assumption) ?_
      rotate_left 1
      · intro w hSw; (try dsimp only at hSw); go_simp; (try with_reducible rfl)
      try simp only [Act.put, List.setIfInBounds_toArray, List.set_cons_zero, List.set_cons_succ]
      refine wpAnyH_take (i := 6) (v := ?_) (by simp only [List.getElem?_toArray, List.getElem?_cons_succ, List.getElem?_cons_zero]; rfl) (by kernel_rfl) (by kernel_rfl) (by kernel_rfl) (fun _ _ _ h => h) (Or.inl ⟨by rfl, ?_⟩) (by assumption) ?_
      rotate_left 1
      · intro w hSw; (try dsimp only at hSw); go_simp; (try with_reducible rfl)
      try simp only [Act.put, List.setIfInBounds_toArray, List.set_cons_zero, List.set_cons_succ]
      simp only [F1.out, F2.out, F3.out, F4.out]
      refine wpAnyH_ready (rs := [2, 7]) (by kernel_rfl) (by simp) ?_
      refine AllReadyH.cons (by simp only [List.getElem?_toArray, List.getElem?_cons_succ, List.getElem?_cons_zero]; rfl) (fun K hK => ?_) (AllReadyH.cons (by simp only [List.getElem?_toArray, List.getElem?_cons_succ, List.getElem?_cons_zero]; rfl) (fun K hK => ?_) AllReadyH.nil)
      · go_simp
        go_at_call 13
        with_reducible refine (H1.out _).mono ?_
        rintro e w1 ⟨rfl, b1⟩
        have B1 := hid b1
        clear b1
        go_wp2_with fail
        clear hHeld
        refine hK.out _ _ trivial (fun hHeld => ?_)
        clear hK K
        try simp only [Act.put, List.setIfInBounds_toArray, List.set_cons_zero, List.set_cons_succ]
        refine wpAnyH_ready (rs := [7]) (by kernel_rfl) (by simp) ?_
        refine AllReadyH.cons (by simp only [List.getElem?_toArray, List.getElem?_cons_succ, List.getElem?_cons_zero]; rfl) (fun K hK => ?_) AllReadyH.nil
        go_simp
        clear hHeld
        refine hK.out _ _ trivial (fun hHeld => ?_)
        clear hK K
        try simp only [Act.put, List.setIfInBounds_toArray, List.set_cons_zero, List.set_cons_succ]
        have hc1 := HC.out w1
        refine wpAnyH_ready (rs := [8]) (by kernel_rfl) (by simp) ?_
        refine AllReadyH.cons (by simp only [List.getElem?_toArray, List.getElem?_cons_succ, List.getElem?_cons_zero]; rfl) (fun K hK => ?_) AllReadyH.nil
        go_simp
        clear hHeld
        refine hK.out _ _ trivial (fun hHeld => ?_)
        clear hK K
        try simp only [Act.put, List.setIfInBounds_toArray, List.set_cons_zero, List.set_cons_succ]
        refine wpAnyH_take (i := 9) (v := ?_) (by simp only [List.getElem?_toArray, List.getElem?_cons_succ, List.getElem?_cons_zero]; rfl) (by kernel_rfl) (by kernel_rfl) (by kernel_rfl) (fun _ _ _ h => h) (Or.inl ⟨by rfl, ?_⟩) (by assumption) ?_
        rotate_left 1
        · intro w hSw; (try dsimp only at hSw); go_simp; (try with_reducible rfl)
        try simp only [Act.put, List.setIfInBounds_toArray, List.set_cons_zero, List.set_cons_succ]
        refine wpAnyH_take (i := 10) (v := ?_) (by simp only [List.getElem?_toArray, List.getElem?_cons_succ, List.getElem?_cons_zero]; rfl) (by kernel_rfl) (by kernel_rfl) (by kernel_rfl) (fun _ _ _ h => h) (Or.inl ⟨by rfl, ?_⟩) (by assumption) ?_
        rotate_left 1
        · intro w hSw; (try dsimp only at hSw); go_simp; (try with_reducible rfl)
        try simp only [Act.put, List.setIfInBounds_toArray, List.set_cons_zero, List.set_cons_succ]
        refine wpAnyH_done (by kernel_rfl) ?_ _
        refine NoPanic.normal ?_
        go_wp2
        go_ret
        exact ⟨congrArg (fun s => Ending.returned (.string s)) HD2.out, ((below_drewN (Below.refl _ _) 1).trans (B1.out.mono (Nat.le_refl _))).alloc (by have := B1.out.size; exact this) _⟩
      · go_simp
        clear hHeld
        refine hK.out _ _ trivial (fun hHeld => ?_)
        clear hK K
        try simp only [Act.put, List.setIfInBounds_toArray, List.set_cons_zero, List.set_cons_succ]
        have hc1 := HCA.out (w.alloc (Obj.cells #[.int .u8 (48 + (n : Int) % 10)] 5)).drew w.heap.size ((cell_row (heap_alloc_new w _) 0).trans rfl)
        refine wpAnyH_ready (rs := [2, 8]) (by kernel_rfl) (by simp) ?_
        refine AllReadyH.cons (by simp only [List.getElem?_toArray, List.getElem?_cons_succ, List.getElem?_cons_zero]; rfl) (fun K hK => ?_) (AllReadyH.cons (by simp only [List.getElem?_toArray, List.getElem?_cons_succ, List.getElem?_cons_zero]; rfl) (fun K hK => ?_) AllReadyH.nil)
        · go_simp
          go_at_call 13
          with_reducible refine (H1.out _).mono ?_
          rintro e w1 ⟨rfl, b1⟩
          have B1 := hid b1
          clear b1
          go_wp2_with fail
          clear hHeld
          refine hK.out _ _ trivial (fun hHeld => ?_)
          clear hK K
          try simp only [Act.put, List.setIfInBounds_toArray, List.set_cons_zero, List.set_cons_succ]
          have hc2 := HCA.out w1 w.heap.size (by have := B1.out.block w.heap.size (by simp); rw [cell_row (this.trans (heap_alloc_new w.drew _))]; rfl)
          refine wpAnyH_ready (rs := [8]) (by kernel_rfl) (by simp) ?_
          refine AllReadyH.cons (by simp only [List.getElem?_toArray, List.getElem?_cons_succ, List.getElem?_cons_zero]; rfl) (fun K hK => ?_) AllReadyH.nil
          go_simp
          clear hHeld
          refine hK.out _ _ trivial (fun hHeld => ?_)
          clear hK K
          try simp only [Act.put, List.setIfInBounds_toArray, List.set_cons_zero, List.set_cons_succ]
          refine wpAnyH_take (i := 9) (v := ?_) (by simp only [List.getElem?_toArray, List.getElem?_cons_succ, List.getElem?_cons_zero]; rfl) (by kernel_rfl) (by kernel_rfl) (by kernel_rfl) (fun _ _ _ h => h) (Or.inl ⟨by rfl, ?_⟩) (by assumption) ?_
          rotate_left 1
          · intro w hSw; (try dsimp only at hSw); go_simp; (try with_reducible rfl)
          try simp only [Act.put, List.setIfInBounds_toArray, List.set_cons_zero, List.set_cons_succ]
          refine wpAnyH_take (i := 10) (v := ?_) (by simp only [List.getElem?_toArray, List.getElem?_cons_succ, List.getElem?_cons_zero]; rfl) (by kernel_rfl) (by kernel_rfl) (by kernel_rfl) (fun _ _ _ h => h) (Or.inl ⟨by rfl, ?_⟩) (by assumption) ?_
          rotate_left 1
          · intro w hSw; (try dsimp only at hSw); go_simp; (try with_reducible rfl)
          try simp only [Act.put, List.setIfInBounds_toArray, List.set_cons_zero, List.set_cons_succ]
          refine wpAnyH_done (by kernel_rfl) ?_ _
          refine NoPanic.normal ?_
          go_wp2
          go_ret
          exact ⟨congrArg (fun s => Ending.returned (.string s)) HD2.out, ((below_drewN (Below.refl _ _) 1).alloc (Nat.le_refl _) _).trans (B1.out.mono (by simp))⟩
        · go_simp
          clear hHeld
          refine hK.out _ _ trivial (fun hHeld => ?_)
          clear hK K
          try simp only [Act.put, List.setIfInBounds_toArray, List.set_cons_zero, List.set_cons_succ]
          refine wpAnyH_ready (rs := [2]) (by kernel_rfl) (by simp) ?_
          refine AllReadyH.cons (by simp only [List.getElem?_toArray, List.getElem?_cons_succ, List.getElem?_cons_zero]; rfl) (fun K hK => ?_) AllReadyH.nil
          go_simp
          go_at_call 13
          with_reducible refine (H1.out _).mono ?_
          rintro e w1 ⟨rfl, b1⟩
          have B1 := hid b1
          clear b1
          go_wp2_with fail
          clear hHeld
          refine hK.out _ _ trivial (fun hHeld => ?_)
          clear hK K
          try simp only [Act.put, List.setIfInBounds_toArray, List.set_cons_zero, List.set_cons_succ]
          refine wpAnyH_take (i := 9) (v := ?_) (by simp only [List.getElem?_toArray, List.getElem?_cons_succ, List.getElem?_cons_zero]; rfl) (by kernel_rfl) (by kernel_rfl) (by kernel_rfl) (fun _ _ _ h => h) (Or.inl ⟨by rfl, ?_⟩) (by assumption) ?_
          rotate_left 1
          · intro w hSw; (try dsimp only at hSw); go_simp; (try with_reducible rfl)
          try simp only [Act.put, List.setIfInBounds_toArray, List.set_cons_zero, List.set_cons_succ]
          refine wpAnyH_take (i := 10) (v := ?_) (by simp only [List.getElem?_toArray, List.getElem?_cons_succ, List.getElem?_cons_zero]; rfl) (by kernel_rfl) (by kernel_rfl) (by kernel_rfl) (fun _ _ _ h => h) (Or.inl ⟨by rfl, ?_⟩) (by assumption) ?_
          rotate_left 1
          · intro w hSw; (try dsimp only at hSw); go_simp; (try with_reducible rfl)
          try simp only [Act.put, List.setIfInBounds_toArray, List.set_cons_zero, List.set_cons_succ]
          refine wpAnyH_done (by kernel_rfl) ?_ _
          refine NoPanic.normal ?_
          go_wp2
          go_ret
          exact ⟨congrArg (fun s => Ending.returned (.string s)) HD2.out, ((below_drewN (Below.refl _ _) 1).alloc (Nat.le_refl _) _).trans (B1.out.mono (by simp))⟩

end Go.Proofs.YtfmmmhcpdinhgabGreatDoor
/-
  DERIVED: THE SHELF's CONTRACTS AT THIS DUMP, IN PLAIN WORDS (tools/lay-plain.mjs out of 'YtfmmmhcpdinhgabGreatDoorShelf.lean', which tools/lay-shelf.mjs wrote): THE SAME DECLARATIONS UNDER THE SAME NAMES: 'import', 'namespace', 'open', 'def', 'theorem' AND NOTHING ELSE: no command of the shelf's: FOR A HAND-IN. Each laying: the table of numbers ('.._ren') and one theorem, a field a fact of the dump's own or the kernel's comparison; each contract: ONE APPLICATION.
-/
namespace Go.Proofs
open Go.Shelf
def Tryz.lays161_ren : Go.Shelf.Ren := ⟨fun | 161 => 82 | 231 => 94 | 227 => 95 | 233 => 96 | 235 => 97 | 228 => 100 | 197 => 112 | 151 => 113 | 260 => 127 | 152 => 98 | 137 => 114 | 119 => 115 | 224 => 110 | 225 => 109 | 217 => 108 | 266 => 125 | n => n, fun | 9 => 9 | 4 => 4 | 3 => 3 | 5 => 5 | 117 => 140 | 116 => 139 | 0 => 0 | 124 => 143 | 105 => 154 | 21 => 21 | 119 => 163 | 46 => 85 | 139 => 166 | 138 => 165 | n => n, fun | 3 => 5 | 4 => 6 | n => n⟩
theorem Tryz.lays161 : Go.Proofs.Lays.n161 Tryz.prog Tryz.lays161_ren := {
  mixed := by kernel_rfl
  f119 := Tryz.func115.trans (congrArg some (by kernel_rfl))
  f137 := Tryz.func114.trans (congrArg some (by kernel_rfl))
  f151 := Tryz.func113.trans (congrArg some (by kernel_rfl))
  f152 := Tryz.func98.trans (congrArg some (by kernel_rfl))
  f161 := Tryz.func82.trans (congrArg some (by kernel_rfl))
  f197 := Tryz.func112.trans (congrArg some (by kernel_rfl))
  f217 := Tryz.func108.trans (congrArg some (by kernel_rfl))
  f224 := Tryz.func110.trans (congrArg some (by kernel_rfl))
  f225 := Tryz.func109.trans (congrArg some (by kernel_rfl))
  f227 := Tryz.func95.trans (congrArg some (by kernel_rfl))
  f228 := Tryz.func100.trans (congrArg some (by kernel_rfl))
  f231 := Tryz.func94.trans (congrArg some (by kernel_rfl))
  f233 := Tryz.func96.trans (congrArg some (by kernel_rfl))
  f235 := Tryz.func97.trans (congrArg some (by kernel_rfl))
  f260 := Tryz.func127.trans (congrArg some (by kernel_rfl))
  f266 := Tryz.func125.trans (congrArg some (by kernel_rfl))
  t0 := Tryz.underlying0
  a0 := Tryz.isAgg0
  z0 := Tryz.sizeOf0
  v0 := Tryz.zeroValue0
  t3 := Tryz.underlying3
  a3 := Tryz.isAgg3
  z3 := Tryz.sizeOf3
  v3 := Tryz.zeroValue3
  t4 := Tryz.underlying4
  a4 := Tryz.isAgg4
  z4 := Tryz.sizeOf4
  v4 := Tryz.zeroValue4
  t5 := Tryz.underlying5
  a5 := Tryz.isAgg5
  z5 := Tryz.sizeOf5
  v5 := Tryz.zeroValue5
  t9 := Tryz.underlying9
  a9 := Tryz.isAgg9
  z9 := Tryz.sizeOf9
  v9 := Tryz.zeroValue9
  t21 := Tryz.underlying21
  a21 := Tryz.isAgg21
  z21 := Tryz.sizeOf21
  v21 := Tryz.zeroValue21
  t46 := Tryz.underlying85
  a46 := Tryz.isAgg85
  z46 := Tryz.sizeOf85
  v46 := Tryz.zeroValue85
  t105 := Tryz.underlying154
  a105 := Tryz.isAgg154
  z105 := Tryz.sizeOf154
  v105 := Tryz.zeroValue154
  t116 := Tryz.underlying139
  a116 := Tryz.isAgg139
  z116 := Tryz.sizeOf139
  t117 := Tryz.underlying140
  a117 := Tryz.isAgg140
  z117 := Tryz.sizeOf140
  v117 := Tryz.zeroValue140
  t119 := Tryz.underlying163
  a119 := Tryz.isAgg163
  z119 := Tryz.sizeOf163
  t124 := Tryz.underlying143
  a124 := Tryz.isAgg143
  z124 := Tryz.sizeOf143
  v124 := Tryz.zeroValue143
  t138 := Tryz.underlying165
  a138 := Tryz.isAgg165
  z138 := Tryz.sizeOf165
  v138 := Tryz.zeroValue165
  t139 := Tryz.underlying166
  a139 := Tryz.isAgg166
  z139 := Tryz.sizeOf166
  v139 := Tryz.zeroValue166
  g3 := by kernel_rfl
  g4 := by kernel_rfl }
def Tryz.laysM316_ren : Go.Shelf.Ren := ⟨fun | 316 => 74 | n => n, fun | 9 => 9 | 3 => 3 | 4 => 4 | 37 => 38 | 0 => 0 | 127 => 94 | 5 => 5 | n => n, fun | n => n⟩
theorem Tryz.laysM316 : Go.Proofs.LaysM.n316 Tryz.prog Tryz.laysM316_ren := {
  mixed := by kernel_rfl
  f316 := Tryz.func74.trans (congrArg some (by kernel_rfl))
  t0 := Tryz.underlying0
  a0 := Tryz.isAgg0
  z0 := Tryz.sizeOf0
  v0 := Tryz.zeroValue0
  t3 := Tryz.underlying3
  a3 := Tryz.isAgg3
  z3 := Tryz.sizeOf3
  v3 := Tryz.zeroValue3
  t4 := Tryz.underlying4
  a4 := Tryz.isAgg4
  z4 := Tryz.sizeOf4
  v4 := Tryz.zeroValue4
  t9 := Tryz.underlying9
  a9 := Tryz.isAgg9
  z9 := Tryz.sizeOf9
  v9 := Tryz.zeroValue9
  t37 := Tryz.underlying38
  a37 := Tryz.isAgg38
  z37 := Tryz.sizeOf38
  v37 := Tryz.zeroValue38
  t127 := Tryz.underlying94
  a127 := Tryz.isAgg94
  z127 := Tryz.sizeOf94
  v127 := Tryz.zeroValue94
  t5 := Tryz.underlying5
  a5 := Tryz.isAgg5
  z5 := Tryz.sizeOf5
  v5 := Tryz.zeroValue5
  i0 := by kernel_rfl
  i3 := by kernel_rfl
  i4 := by kernel_rfl
  i5 := by kernel_rfl
  i9 := by kernel_rfl
  i37 := by kernel_rfl
  i127 := by kernel_rfl }
open Go.RowKit in
/-- internal/stringslite.Clone (what strings.Clone calls): "Clone returns a fresh copy of s.": THE SAME BYTES. Of what was there nothing has turned (a new row is laid, and frozen, where s is not empty). (LAID: no walk: one application.) -/
theorem Tryz.stringslite_Clone (s : ByteArray) (w : World) (hlim : s.size ≤ 281474976710656) :
    Calls Tryz.prog 74 #[.string s] w fun e w' => e = .returned (.string s) ∧ Below w.heap.size w w' := Any.stringslite_Clone Tryz.laysM316 s w hlim
def Tryz.lays219_ren : Go.Shelf.Ren := ⟨fun | 219 => 93 | 217 => 108 | 225 => 109 | 224 => 110 | 267 => 111 | 266 => 125 | 314 => 126 | n => n, fun | 9 => 9 | 3 => 3 | 4 => 4 | 5 => 5 | 46 => 85 | 146 => 161 | 51 => 115 | n => n, fun | 1 => 3 | n => n⟩
theorem Tryz.lays219 : Go.Proofs.Lays.n219 Tryz.prog Tryz.lays219_ren := {
  mixed := by kernel_rfl
  f217 := Tryz.func108.trans (congrArg some (by kernel_rfl))
  f219 := Tryz.func93.trans (congrArg some (by kernel_rfl))
  f224 := Tryz.func110.trans (congrArg some (by kernel_rfl))
  f225 := Tryz.func109.trans (congrArg some (by kernel_rfl))
  f266 := Tryz.func125.trans (congrArg some (by kernel_rfl))
  f267 := Tryz.func111.trans (congrArg some (by kernel_rfl))
  f314 := Tryz.func126.trans (congrArg some (by kernel_rfl))
  t3 := Tryz.underlying3
  a3 := Tryz.isAgg3
  z3 := Tryz.sizeOf3
  v3 := Tryz.zeroValue3
  t4 := Tryz.underlying4
  a4 := Tryz.isAgg4
  z4 := Tryz.sizeOf4
  v4 := Tryz.zeroValue4
  t5 := Tryz.underlying5
  a5 := Tryz.isAgg5
  z5 := Tryz.sizeOf5
  v5 := Tryz.zeroValue5
  t9 := Tryz.underlying9
  a9 := Tryz.isAgg9
  z9 := Tryz.sizeOf9
  v9 := Tryz.zeroValue9
  t46 := Tryz.underlying85
  a46 := Tryz.isAgg85
  z46 := Tryz.sizeOf85
  v46 := Tryz.zeroValue85
  t51 := Tryz.underlying115
  a51 := Tryz.isAgg115
  z51 := Tryz.sizeOf115
  v51 := Tryz.zeroValue115
  t146 := Tryz.underlying161
  a146 := Tryz.isAgg161
  z146 := Tryz.sizeOf161
  v146 := Tryz.zeroValue161
  g1 := by kernel_rfl }
open Go.RowKit Go.Lib in
/-- internal/stringslite.Index (what strings.Index calls) AT A substr OF ONE BYTE c: IT RETURNS 'Lib.indexByte s c'; the world is as it was. (LAID: no walk: one application.) -/
theorem Tryz.stringslite_Index_one (s : ByteArray) (c : UInt8) (w : World) :
    Calls Tryz.prog 93 #[.string s, .string ⟨#[c]⟩] w fun e w' => e = .returned (.int .i64 (Lib.indexByte s.data.toList c)) ∧ w' = w := Any.stringslite_Index_one Tryz.lays219 s c w
def Tryz.lays138_ren : Go.Shelf.Ren := ⟨fun | 138 => 101 | 195 => 116 | 218 => 117 | 143 => 118 | 219 => 93 | 217 => 108 | 225 => 109 | 224 => 110 | 267 => 111 | 266 => 125 | 314 => 126 | n => n, fun | 9 => 9 | 3 => 3 | 4 => 4 | 5 => 5 | 0 => 0 | 46 => 85 | 146 => 161 | 51 => 115 | n => n, fun | 1 => 3 | n => n⟩
theorem Tryz.lays138 : Go.Proofs.Lays.n138 Tryz.prog Tryz.lays138_ren := {
  mixed := by kernel_rfl
  f138 := Tryz.func101.trans (congrArg some (by kernel_rfl))
  f143 := Tryz.func118.trans (congrArg some (by kernel_rfl))
  f195 := Tryz.func116.trans (congrArg some (by kernel_rfl))
  f217 := Tryz.func108.trans (congrArg some (by kernel_rfl))
  f218 := Tryz.func117.trans (congrArg some (by kernel_rfl))
  f219 := Tryz.func93.trans (congrArg some (by kernel_rfl))
  f224 := Tryz.func110.trans (congrArg some (by kernel_rfl))
  f225 := Tryz.func109.trans (congrArg some (by kernel_rfl))
  f266 := Tryz.func125.trans (congrArg some (by kernel_rfl))
  f267 := Tryz.func111.trans (congrArg some (by kernel_rfl))
  f314 := Tryz.func126.trans (congrArg some (by kernel_rfl))
  t0 := Tryz.underlying0
  a0 := Tryz.isAgg0
  z0 := Tryz.sizeOf0
  v0 := Tryz.zeroValue0
  t3 := Tryz.underlying3
  a3 := Tryz.isAgg3
  z3 := Tryz.sizeOf3
  v3 := Tryz.zeroValue3
  t4 := Tryz.underlying4
  a4 := Tryz.isAgg4
  z4 := Tryz.sizeOf4
  v4 := Tryz.zeroValue4
  t5 := Tryz.underlying5
  a5 := Tryz.isAgg5
  z5 := Tryz.sizeOf5
  v5 := Tryz.zeroValue5
  t9 := Tryz.underlying9
  a9 := Tryz.isAgg9
  z9 := Tryz.sizeOf9
  v9 := Tryz.zeroValue9
  t46 := Tryz.underlying85
  a46 := Tryz.isAgg85
  z46 := Tryz.sizeOf85
  v46 := Tryz.zeroValue85
  t51 := Tryz.underlying115
  a51 := Tryz.isAgg115
  z51 := Tryz.sizeOf115
  v51 := Tryz.zeroValue115
  t146 := Tryz.underlying161
  a146 := Tryz.isAgg161
  z146 := Tryz.sizeOf161
  v146 := Tryz.zeroValue161
  g1 := by kernel_rfl }
open Go.RowKit Go.Lib in
/-- strings.Count AT A substr OF ONE BYTE ('hp'): "Count counts the number of non-overlapping instances of substr in s.": IT RETURNS 'Lib.countByte s (that byte)'; the world is as it was. ✋ NO CONTRACT HERE YET at an empty substr (utf8.RuneCountInString) or at a longer one (a loop over strings.Index). (LAID: no walk: one application.) -/
theorem Tryz.strings_Count_one (s : ByteArray) (c : UInt8) (w : World) :
    Calls Tryz.prog 101 #[.string s, .string ⟨#[c]⟩] w fun e w' => e = .returned (.int .i64 (Lib.countByte s.data.toList c)) ∧ w' = w := Any.strings_Count_one Tryz.lays138 s c w
def Tryz.lays148_ren : Go.Shelf.Ren := ⟨fun | 148 => 102 | 222 => 119 | 223 => 120 | 269 => 128 | n => n, fun | 9 => 9 | 3 => 3 | 4 => 4 | 5 => 5 | 146 => 161 | 51 => 115 | 46 => 85 | n => n, fun | n => n⟩
theorem Tryz.lays148 : Go.Proofs.Lays.n148 Tryz.prog Tryz.lays148_ren := {
  mixed := by kernel_rfl
  f148 := Tryz.func102.trans (congrArg some (by kernel_rfl))
  f222 := Tryz.func119.trans (congrArg some (by kernel_rfl))
  f223 := Tryz.func120.trans (congrArg some (by kernel_rfl))
  f269 := Tryz.func128.trans (congrArg some (by kernel_rfl))
  t3 := Tryz.underlying3
  a3 := Tryz.isAgg3
  z3 := Tryz.sizeOf3
  v3 := Tryz.zeroValue3
  t4 := Tryz.underlying4
  a4 := Tryz.isAgg4
  z4 := Tryz.sizeOf4
  v4 := Tryz.zeroValue4
  t5 := Tryz.underlying5
  a5 := Tryz.isAgg5
  z5 := Tryz.sizeOf5
  v5 := Tryz.zeroValue5
  t9 := Tryz.underlying9
  a9 := Tryz.isAgg9
  z9 := Tryz.sizeOf9
  v9 := Tryz.zeroValue9
  t46 := Tryz.underlying85
  a46 := Tryz.isAgg85
  z46 := Tryz.sizeOf85
  v46 := Tryz.zeroValue85
  t51 := Tryz.underlying115
  a51 := Tryz.isAgg115
  z51 := Tryz.sizeOf115
  v51 := Tryz.zeroValue115
  t146 := Tryz.underlying161
  a146 := Tryz.isAgg161
  z146 := Tryz.sizeOf161
  v146 := Tryz.zeroValue161 }
open Go.RowKit Go.Lib in
/-- strings.LastIndex AT A substr OF ONE BYTE (as in 'strings.LastIndex(path, "/")'): the last place of that byte, or -1. (LAID: no walk: one application.) -/
theorem Tryz.strings_LastIndex_one (s sub : ByteArray) (h1 : sub.size = 1) (hs : s.size < 4611686018427387904) (w : World) :
    Calls Tryz.prog 102 #[.string s, .string sub] w fun e w' => e = .returned (.int .i64 (Lib.lastIndexByte s ((sub[0]'(by omega)).toNat : Int))) ∧ w' = w := Any.strings_LastIndex_one Tryz.lays148 s sub h1 hs w
def Tryz.lays153_ren : Go.Shelf.Ren := ⟨fun | 153 => 83 | 152 => 98 | 226 => 99 | 227 => 95 | 228 => 100 | 137 => 114 | 119 => 115 | 224 => 110 | 225 => 109 | 217 => 108 | 266 => 125 | n => n, fun | 9 => 9 | 3 => 3 | 4 => 4 | 5 => 5 | 21 => 21 | 117 => 140 | 116 => 139 | 0 => 0 | 46 => 85 | 124 => 143 | n => n, fun | n => n⟩
theorem Tryz.lays153 : Go.Proofs.Lays.n153 Tryz.prog Tryz.lays153_ren := {
  mixed := by kernel_rfl
  f119 := Tryz.func115.trans (congrArg some (by kernel_rfl))
  f137 := Tryz.func114.trans (congrArg some (by kernel_rfl))
  f152 := Tryz.func98.trans (congrArg some (by kernel_rfl))
  f153 := Tryz.func83.trans (congrArg some (by kernel_rfl))
  f217 := Tryz.func108.trans (congrArg some (by kernel_rfl))
  f224 := Tryz.func110.trans (congrArg some (by kernel_rfl))
  f225 := Tryz.func109.trans (congrArg some (by kernel_rfl))
  f226 := Tryz.func99.trans (congrArg some (by kernel_rfl))
  f227 := Tryz.func95.trans (congrArg some (by kernel_rfl))
  f228 := Tryz.func100.trans (congrArg some (by kernel_rfl))
  f266 := Tryz.func125.trans (congrArg some (by kernel_rfl))
  t0 := Tryz.underlying0
  a0 := Tryz.isAgg0
  z0 := Tryz.sizeOf0
  v0 := Tryz.zeroValue0
  t3 := Tryz.underlying3
  a3 := Tryz.isAgg3
  z3 := Tryz.sizeOf3
  v3 := Tryz.zeroValue3
  t4 := Tryz.underlying4
  a4 := Tryz.isAgg4
  z4 := Tryz.sizeOf4
  v4 := Tryz.zeroValue4
  t5 := Tryz.underlying5
  a5 := Tryz.isAgg5
  z5 := Tryz.sizeOf5
  v5 := Tryz.zeroValue5
  t9 := Tryz.underlying9
  a9 := Tryz.isAgg9
  z9 := Tryz.sizeOf9
  v9 := Tryz.zeroValue9
  t21 := Tryz.underlying21
  a21 := Tryz.isAgg21
  z21 := Tryz.sizeOf21
  v21 := Tryz.zeroValue21
  t46 := Tryz.underlying85
  a46 := Tryz.isAgg85
  z46 := Tryz.sizeOf85
  v46 := Tryz.zeroValue85
  t116 := Tryz.underlying139
  a116 := Tryz.isAgg139
  z116 := Tryz.sizeOf139
  t117 := Tryz.underlying140
  a117 := Tryz.isAgg140
  z117 := Tryz.sizeOf140
  v117 := Tryz.zeroValue140
  t124 := Tryz.underlying143
  a124 := Tryz.isAgg143
  z124 := Tryz.sizeOf143
  v124 := Tryz.zeroValue143 }
open Go.RowKit Go.Lib in
theorem Tryz.strings_IndexAny_laid (s chars : ByteArray) (w : World) (hs : s.size < 4294967281) (hcs : chars.size < 4294967281) (has : ∀ (j : Nat) b, s.data.toList[j]? = some b → b.toNat < 128) (hac : ∀ (j : Nat) b, chars.data.toList[j]? = some b → b.toNat < 128) :
    Calls Tryz.prog 83 #[.string s, .string chars] w fun e w' => e = .returned (.int .i64 (Lib.indexAny s.data.toList chars.data.toList)) ∧ Below w.heap.size w w' := Any.strings_IndexAny_laid Tryz.lays153 (by kernel_rfl) s chars w hs hcs has hac
open Go.RowKit in
theorem Tryz.strings_TrimLeft_set (s cutset : ByteArray) (w : World) (hcs : cutset.size < 4294967281) (hascii : ∀ (j : Nat) b, cutset.data.toList[j]? = some b → b.toNat < 128) :
    Calls Tryz.prog 82 #[.string s, .string cutset] w fun e w' => e = .returned (.string ⟨(Lib.trimLeftS s.data.toList cutset.data.toList).toArray⟩) ∧ Below w.heap.size w w' := Any.strings_TrimLeft_laid Tryz.lays161 (by kernel_rfl) s cutset w hcs hascii
end Go.Proofs
/-
  The landed reader of circuits, as it goes: its state and its steps. Pure.
-/
namespace PureRd
/-- a word, and where it begins. -/
abbrev Wd := List UInt8 × Nat
def blankB (c : UInt8) : Bool := c == 32 || c == 9 || c == 13
/-- the words of what is left of a line of n bytes that begins at p. -/
def wr (p n : Nat) : Nat → List UInt8 → List Wd
  | 0, _ => []
  | f + 1, r => if r.isEmpty then [] else
      (r.takeWhile (fun c => !blankB c), p + (n - r.length)) :: wr p n f ((r.drop (r.takeWhile (fun c => !blankB c)).length).dropWhile blankB)
/-- a line without its remark. -/
def cutHash (l : List UInt8) : List UInt8 := l.takeWhile (fun c => c != 35)
def cutLine (l : List UInt8) : List UInt8 := l.takeWhile (fun c => c != 10)
/-- the words of a line that begins at p. -/
def wordsOf (l : List UInt8) (p : Nat) : List Wd := wr p (cutHash l).length ((cutHash l).length + 1) ((cutHash l).dropWhile blankB)

theorem drop_len (r : List UInt8) (f : UInt8 → Bool) : (r.dropWhile f).length ≤ r.length := (List.dropWhile_suffix f).length_le
theorem wr_fuel (p n : Nat) : ∀ (f g : Nat) (r : List UInt8), (r.takeWhile (fun c => !blankB c)).length ≠ 0 ∨ r = [] → r.length < f → r.length < g → wr p n f r = wr p n g r := by
  intro f
  induction f with
  | zero => intro g r _ h; omega
  | succ f ih =>
    intro g r h0 hf hg
    cases g with
    | zero => omega
    | succ g =>
      simp only [wr]
      by_cases he : r = []
      · subst he; rfl
      · rcases h0 with h0 | h0
        · rw [if_neg (by simpa using he), if_neg (by simpa using he)]
          congr 1
          have h1 := drop_len (r.drop (r.takeWhile (fun c => !blankB c)).length) blankB
          have h2 : (r.drop (r.takeWhile (fun c => !blankB c)).length).length = r.length - (r.takeWhile (fun c => !blankB c)).length := List.length_drop
          have h3 : (r.takeWhile (fun c => !blankB c)).length ≤ r.length := (List.takeWhile_prefix _).length_le
          refine ih g _ ?_ (by omega) (by omega)
          generalize r.drop (r.takeWhile (fun c => !blankB c)).length = s
          cases hd : s.dropWhile blankB with
          | nil => exact .inr rfl
          | cons a t =>
            left
            have : blankB a = false := by
              have := List.head?_dropWhile_not blankB s
              rw [hd] at this
              simpa using this
            simp [this]
        · exact absurd h0 he

/-- a line that was read. -/
structure Ln where
  kind : Int
  name : List UInt8
  op : Int
  uses : List Wd
/-- what the reader knows. mode: 0 the head is to come, 1 behind it, 2 behind the end. -/
structure Rs where
  mode : Nat
  left : List Wd
  last : Wd
  lines : List Ln
  outs : Nat
  places : List (List UInt8 × Nat)
  names : List Nat
  cname : List UInt8
  fault : Option (Int × Nat)
def start : Rs := ⟨0, [], ([], 0), [], 0, [], [], [], none⟩
def placeOf (s : Rs) (k : List UInt8) : Option Nat := (s.places.find? (fun p => p.1 == k)).map Prod.snd
def refuse (s : Rs) (code : Int) (at_ : Nat) : Rs := if s.fault.isNone then { s with fault := some (code, at_) } else s
def take (s : Rs) : Wd × Rs :=
  match s.left with
  | [] => (([], 0), refuse s 140 (s.last.2 + s.last.1.length))
  | w :: t => (w, { s with last := w, left := t })
def name (isName : List UInt8 → Bool) (s : Rs) : Wd × Rs := ((take s).1, if isName (take s).1.1 then (take s).2 else refuse (take s).2 140 (take s).1.2)
def namesOf (isName : List UInt8 → Bool) : Nat → Rs → List Wd × Rs
  | 0, s => ([], s)
  | n + 1, s => ((namesOf isName n s).1 ++ [(name isName (namesOf isName n s).2).1], (name isName (namesOf isName n s).2).2)
def op (f : List UInt8 → Int) (s : Rs) : Int × Rs := (f (take s).1.1, if f (take s).1.1 = -1 then refuse (take s).2 140 (take s).1.2 else (take s).2)
def begin (isName : List UInt8 → Bool) (kind : Int) (s : Rs) : Rs :=
  let s1 := if s.names.length = 65536 then refuse s 8 s.last.2 else s
  let w := (name isName s1).1
  let s2 := (name isName s1).2
  let s3 := if (placeOf s2 w.1).isSome then refuse s2 141 w.2 else s2
  { s3 with places := (w.1, s.names.length) :: s3.places, names := s3.names ++ [w.2], lines := s3.lines ++ [⟨kind, w.1, 0, []⟩] }
end PureRd
