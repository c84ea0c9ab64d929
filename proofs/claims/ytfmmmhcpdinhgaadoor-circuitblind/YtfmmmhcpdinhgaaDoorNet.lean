/-
  Circuits: what the document says of them, by lists.
-/
namespace PureNet
set_option maxRecDepth 100000

/-- a line. -/
structure Ga where
  kind : Int
  name : ByteArray
  op : Int
  a : Int
  b : Int
  c : Int
structure Net where
  name : ByteArray
  gates : List Ga
  outs : List Int

def letB (c : UInt8) : Bool := decide ((97 ≤ c.toNat ∧ c.toNat ≤ 122) ∨ (65 ≤ c.toNat ∧ c.toNat ≤ 90) ∨ c.toNat = 95)
def nameCB (c : UInt8) : Bool := letB c || decide ((48 ≤ c.toNat ∧ c.toNat ≤ 57) ∨ c.toNat = 46)
def nameL : List UInt8 → Bool
  | [] => false
  | c :: r => letB c && r.all nameCB && decide (r.length ≤ 31)
def nameB (s : ByteArray) : Bool := nameL s.data.toList

def leansOn (g : Ga) : List Int := if g.kind = 2 then [g.a, g.b] else if g.kind = 4 then [g.a, g.b, g.c] else []
def fieldB (v : Int) (used : Bool) (n : Nat) : Bool := if used then decide (0 ≤ v ∧ v < n) else decide (v = 0)
def mostOp (k : Int) : Int := if k = 2 then 15 else if k = 3 then 1 else 0
def lineB (g : Ga) (n : Nat) : Bool :=
  decide (1 ≤ g.kind ∧ g.kind ≤ 4 ∧ 0 ≤ g.op ∧ g.op ≤ mostOp g.kind) && fieldB g.a (decide (g.kind ≠ 1)) n && fieldB g.b (decide (g.kind = 2 ∨ g.kind = 4)) n && fieldB g.c (decide (g.kind = 4)) n

/-- a line leans on another. -/
def Leans (l : List Ga) (i j : Nat) : Prop := ∃ g, l[i]? = some g ∧ (j : Int) ∈ leansOn g
def Way (l : List Ga) (i j : Nat) : Prop := ∀ P : Nat → Nat → Prop, (∀ a b, Leans l a b → P a b) → (∀ a b c, Leans l a b → P b c → P a c) → P i j
theorem Way.one {l : List Ga} {i j : Nat} (h : Leans l i j) : Way l i j := fun _ h1 _ => h1 _ _ h
theorem Way.more {l : List Ga} {i j k : Nat} (h : Leans l i j) (w : Way l j k) : Way l i k := fun P h1 h2 => h2 _ _ _ h (w P h1 h2)
theorem Way.ind {l : List Ga} {motive : (i j : Nat) → Way l i j → Prop} (one : ∀ {i j : Nat} (h : Leans l i j), motive i j (Way.one h)) (more : ∀ {i j k : Nat} (h : Leans l i j) (w : Way l j k), motive j k w → motive i k (Way.more h w)) {i j : Nat} (t : Way l i j) : motive i j t := by
  obtain ⟨w, hw⟩ := t (fun a b => ∃ w : Way l a b, motive a b w) (fun a b h => ⟨Way.one h, one h⟩) (fun a b c h ⟨w, hw⟩ => ⟨Way.more h w, more h w hw⟩)
  exact hw
theorem Way.cas {l : List Ga} {motive : (i j : Nat) → Way l i j → Prop} (one : ∀ {i j : Nat} (h : Leans l i j), motive i j (Way.one h)) (more : ∀ {i j k : Nat} (h : Leans l i j) (w : Way l j k), motive i k (Way.more h w)) {i j : Nat} (t : Way l i j) : motive i j t := Way.ind one (fun h w _ => more h w) t
def Ranked (l : List Ga) (r : Nat → Nat) : Prop := ∀ i j, Leans l i j → r j < r i
theorem Ranked.way {l : List Ga} {r : Nat → Nat} (h : Ranked l r) {i j : Nat} (w : Way l i j) : r j < r i := by
  induction w using PureNet.Way.ind with
  | one h1 => exact h _ _ h1
  | more h1 _ ih => exact Nat.lt_trans ih (h _ _ h1)
theorem Ranked.free {l : List Ga} {r : Nat → Nat} (h : Ranked l r) (i : Nat) : ¬ Way l i i := fun w => Nat.lt_irrefl _ (h.way w)

structure Formed (c : Net) : Prop where
  name : nameB c.name = true
  few : c.gates.length ≤ 65536
  fewOuts : c.outs.length ≤ 65536
  lines : ∀ (i : Nat) (g : Ga), c.gates[i]? = some g → nameB g.name = true ∧ lineB g c.gates.length = true
  apart : ∀ (i j : Nat) (g h : Ga), c.gates[i]? = some g → c.gates[j]? = some h → g.name = h.name → i = j
  outs : ∀ o ∈ c.outs, 0 ≤ o ∧ o < (c.gates.length : Int)
  free : ∀ i, ¬ Way c.gates i i

/-- how many lines of that kind. -/
def cnt (k : Int) (l : List Ga) : Nat := (l.filter fun g => decide (g.kind = k)).length
def valAt (v : List Bool) (a : Int) : Bool := v.getD a.toNat false
def tab (op : Int) (x y : Bool) : Bool := op.toNat.testBit (2 * x.toNat + y.toNat)
def worth (l : List Ga) (ins las v : List Bool) (i : Nat) (g : Ga) : Bool :=
  if g.kind = 1 then ins.getD (cnt 1 (l.take i)) false
  else if g.kind = 3 then las.getD (cnt 3 (l.take i)) false
  else if g.kind = 4 then (if valAt v g.a then valAt v g.b else valAt v g.c)
  else tab g.op (valAt v g.a) (valAt v g.b)
/-- these are the values of all lines. -/
structure Vals (l : List Ga) (ins las v : List Bool) : Prop where
  len : v.length = l.length
  at_ : ∀ (i : Nat) (g : Ga), l[i]? = some g → v[i]? = some (worth l ins las v i g)
def outsOf (c : Net) (v : List Bool) : List Bool := c.outs.map (valAt v)
def nextOf (c : Net) (v : List Bool) : List Bool := (c.gates.filter fun g => decide (g.kind = 3)).map fun g => valAt v g.a
def firstsOf (l : List Ga) : List Bool := (l.filter fun g => decide (g.kind = 3)).map fun g => decide (g.op = 1)
/-- a run: from these latches, with these inputs, that goes out. -/
def RunP (c : Net) : List Bool → List (List Bool) → List (List Bool) → Prop
  | _, [], os => os = []
  | las, ins :: is, os => ∃ v os', os = outsOf c v :: os' ∧ Vals c.gates ins las v ∧ RunP c (nextOf c v) is os'
theorem RunP.nil {c : Net} {las : List Bool} : RunP c las [] [] := rfl
theorem RunP.cons {c : Net} {las ins v : List Bool} {is os : List (List Bool)} (h : Vals c.gates ins las v) (r : RunP c (nextOf c v) is os) : RunP c las (ins :: is) (outsOf c v :: os) := ⟨v, os, rfl, h, r⟩
theorem RunP.ind {c : Net} {motive : (las : List Bool) → (is os : List (List Bool)) → RunP c las is os → Prop} (nil : ∀ {las : List Bool}, motive las [] [] RunP.nil) (cons : ∀ {las ins v : List Bool} {is os : List (List Bool)} (h : Vals c.gates ins las v) (r : RunP c (nextOf c v) is os), motive (nextOf c v) is os r → motive las (ins :: is) (outsOf c v :: os) (RunP.cons h r)) : ∀ {las : List Bool} {is os : List (List Bool)} (t : RunP c las is os), motive las is os t
  | _, [], _, t => by
    obtain rfl := t
    exact nil
  | _, _ :: _, _, t => by
    obtain ⟨v, os', rfl, h, r⟩ := t
    exact cons h r (RunP.ind nil cons r)

theorem worth_congr {l : List Ga} {ins las v v' : List Bool} {i : Nat} {g : Ga} (hk : 1 ≤ g.kind ∧ g.kind ≤ 4) (h : ∀ a ∈ leansOn g, valAt v a = valAt v' a) : worth l ins las v i g = worth l ins las v' i g := by
  unfold worth
  by_cases h1 : g.kind = 1
  · simp [h1]
  by_cases h3 : g.kind = 3
  · simp [h3]
  by_cases h4 : g.kind = 4
  · have hl : leansOn g = [g.a, g.b, g.c] := by simp [leansOn, h4]
    rw [hl] at h
    simp only [h4]
    rw [h g.a (by simp), h g.b (by simp), h g.c (by simp)]
  · have h2 : g.kind = 2 := by omega
    have hl : leansOn g = [g.a, g.b] := by simp [leansOn, h2]
    rw [hl] at h
    simp only [h2]
    rw [h g.a (by simp), h g.b (by simp)]
    rfl
theorem lineB_kind {g : Ga} {n : Nat} (h : lineB g n = true) : 1 ≤ g.kind ∧ g.kind ≤ 4 := by
  simp only [lineB, Bool.and_eq_true, decide_eq_true_eq] at h
  exact ⟨h.1.1.1.1, h.1.1.1.2.1⟩
theorem lineB_leans {g : Ga} {n : Nat} (h : lineB g n = true) {a : Int} (ha : a ∈ leansOn g) : 0 ≤ a ∧ a < (n : Int) := by
  simp only [lineB, Bool.and_eq_true, decide_eq_true_eq, fieldB] at h
  obtain ⟨⟨⟨h0, h1⟩, h2⟩, h3⟩ := h
  unfold leansOn at ha
  by_cases e2 : g.kind = 2
  · simp [e2] at ha h1 h2
    rcases ha with rfl | rfl
    · exact h1
    · exact h2
  by_cases e4 : g.kind = 4
  · simp [e4] at ha h1 h2 h3
    rcases ha with rfl | rfl | rfl
    · exact h1
    · exact h2
    · exact h3
  · simp [e2, e4] at ha
theorem vals_unique {l : List Ga} {r : Nat → Nat} (hr : Ranked l r) (hl : ∀ (i : Nat) (g : Ga), l[i]? = some g → lineB g l.length = true) {ins las v v' : List Bool} (h : Vals l ins las v) (h' : Vals l ins las v') : v = v' := by
  have key : ∀ n i, r i < n → i < l.length → v[i]? = v'[i]? := by
    intro n
    induction n with
    | zero => intro i hi; omega
    | succ n ih =>
      intro i hi hlt
      have hg : l[i]? = some l[i] := List.getElem?_eq_getElem hlt
      rw [h.at_ i _ hg, h'.at_ i _ hg]
      refine congrArg some (worth_congr (lineB_kind (hl i _ hg)) fun a ha => ?_)
      obtain ⟨h0, h1⟩ := lineB_leans (hl i _ hg) ha
      have hj := hr i a.toNat ⟨_, hg, by rwa [Int.toNat_of_nonneg h0]⟩
      have := ih a.toNat (by omega) (by omega)
      simp only [valAt, List.getD_eq_getElem?_getD, this]
  apply List.ext_getElem?
  intro i
  by_cases hi : i < l.length
  · exact key (r i + 1) i (by omega) hi
  · rw [List.getElem?_eq_none (by have := h.len; omega), List.getElem?_eq_none (by have := h'.len; omega)]

/-- the values in order, where lines lean on lines above. -/
def valsUp (l : List Ga) (ins las : List Bool) : Nat → List Bool
  | 0 => []
  | n + 1 => valsUp l ins las n ++ (match l[n]? with | some g => [worth l ins las (valsUp l ins las n) n g] | none => [])
theorem valsUp_len (l : List Ga) (ins las : List Bool) (n : Nat) (hn : n ≤ l.length) : (valsUp l ins las n).length = n := by
  induction n with
  | zero => rfl
  | succ n ih =>
    have hg : l[n]? = some l[n] := List.getElem?_eq_getElem (by omega)
    simp only [valsUp, hg, List.length_append, ih (by omega), List.length_cons, List.length_nil]
theorem valsUp_get (l : List Ga) (ins las : List Bool) (n : Nat) (hn : n ≤ l.length) (k : Nat) (hk : k < n) (m : Nat) (hm : k < m) (hmn : m ≤ l.length) : (valsUp l ins las n)[k]? = (valsUp l ins las m)[k]? := by
  have base : ∀ d, k + 1 + d ≤ l.length → (valsUp l ins las (k + 1 + d))[k]? = (valsUp l ins las (k + 1))[k]? := by
    intro d
    induction d with
    | zero => intro _; rfl
    | succ d ih =>
      intro hd
      rw [show k + 1 + (d + 1) = (k + 1 + d) + 1 by omega, valsUp, List.getElem?_append_left (by rw [valsUp_len _ _ _ _ (by omega)]; omega)]
      exact ih (by omega)
  rw [show n = k + 1 + (n - k - 1) by omega, show m = k + 1 + (m - k - 1) by omega, base _ (by omega), base _ (by omega)]
theorem valsUp_vals {l : List Ga} (ins las : List Bool) (hl : ∀ (i : Nat) (g : Ga), l[i]? = some g → lineB g l.length = true) (hab : ∀ i j, Leans l i j → j < i) : Vals l ins las (valsUp l ins las l.length) := by
  refine ⟨valsUp_len _ _ _ _ (Nat.le_refl _), fun i g hg => ?_⟩
  have hi : i < l.length := (List.getElem?_eq_some_iff.1 hg).1
  rw [valsUp_get l ins las _ (Nat.le_refl _) i hi (i + 1) (by omega) (by omega)]
  rw [valsUp, hg, List.getElem?_append_right (by rw [valsUp_len _ _ _ _ (by omega)]; omega), valsUp_len _ _ _ _ (by omega), Nat.sub_self]
  simp only [List.getElem?_cons_zero]
  refine congrArg some (worth_congr (lineB_kind (hl i _ hg)) fun a ha => ?_)
  obtain ⟨h0, h1⟩ := lineB_leans (hl i _ hg) ha
  have hj := hab i a.toNat ⟨_, hg, by rwa [Int.toNat_of_nonneg h0]⟩
  simp only [valAt, List.getD_eq_getElem?_getD, valsUp_get l ins las i (by omega) a.toNat hj l.length (by omega) (Nat.le_refl _)]

/-- what goes out at each step, and the latches behind, where lines lean on lines above. -/
def runUp (c : Net) (las : List Bool) : List (List Bool) → List (List Bool)
  | [] => []
  | ins :: is => outsOf c (valsUp c.gates ins las c.gates.length) :: runUp c (nextOf c (valsUp c.gates ins las c.gates.length)) is
def lasUp (c : Net) (las : List Bool) : List (List Bool) → List Bool
  | [] => las
  | ins :: is => lasUp c (nextOf c (valsUp c.gates ins las c.gates.length)) is
theorem runUp_run {c : Net} (hl : ∀ (i : Nat) (g : Ga), c.gates[i]? = some g → lineB g c.gates.length = true) (hab : ∀ i j, Leans c.gates i j → j < i) (is : List (List Bool)) : ∀ las, RunP c las is (runUp c las is) := by
  induction is with
  | nil => intro las; exact .nil
  | cons ins is ih => intro las; exact .cons (valsUp_vals ins las hl hab) (ih _)
theorem runUp_len (c : Net) (is : List (List Bool)) : ∀ las, (runUp c las is).length = is.length := by
  induction is with
  | nil => intro las; rfl
  | cons ins is ih => intro las; simp [runUp, ih]
theorem lasUp_snoc (c : Net) (is : List (List Bool)) (x : List Bool) : ∀ las, lasUp c las (is ++ [x]) = nextOf c (valsUp c.gates x (lasUp c las is) c.gates.length) := by
  induction is with
  | nil => intro las; rfl
  | cons ins is ih => intro las; simp only [List.cons_append, lasUp]; exact ih _
theorem runUp_get (c : Net) (is : List (List Bool)) : ∀ las k (hk : k < is.length), (runUp c las is)[k]? = some (outsOf c (valsUp c.gates is[k] (lasUp c las (is.take k)) c.gates.length)) := by
  induction is with
  | nil => intro las k hk; simp at hk
  | cons ins is ih =>
    intro las k hk
    cases k with
    | zero => rfl
    | succ k =>
      simp only [runUp, List.getElem?_cons_succ, List.getElem_cons_succ, List.take_succ_cons, lasUp]
      exact ih _ k (by simpa using hk)

/-- digits. -/
def decN (n : Nat) : List UInt8 := if n < 10 then [UInt8.ofNat (48 + n)] else decN (n / 10) ++ [UInt8.ofNat (48 + n % 10)]
def nmOf (i : Nat) : ByteArray := if i = 0 then ⟨#[105, 48]⟩ else ⟨(110 :: decN i).toArray⟩
/-- the line at place i of a made circuit. -/
structure LineM (i : Nat) (g : Ga) : Prop where
  name : g.name = nmOf i
  form : (g.kind = 1 ∧ g.op = 0 ∧ g.a = 0 ∧ g.b = 0 ∧ g.c = 0) ∨ (g.kind = 3 ∧ 0 ≤ g.op ∧ g.op ≤ 1 ∧ 0 ≤ g.a ∧ g.a ≤ (i : Int) ∧ g.b = 0 ∧ g.c = 0) ∨
    (g.kind = 4 ∧ g.op = 0 ∧ 0 ≤ g.a ∧ g.a < (i : Int) ∧ 0 ≤ g.b ∧ g.b < (i : Int) ∧ 0 ≤ g.c ∧ g.c < (i : Int)) ∨
    (g.kind = 2 ∧ 0 ≤ g.op ∧ g.op ≤ 15 ∧ 0 ≤ g.a ∧ g.a < (i : Int) ∧ 0 ≤ g.b ∧ g.b < (i : Int) ∧ g.c = 0)
structure Made (c : Net) : Prop where
  name : c.name = ⟨#[109, 97, 100, 101]⟩
  pos : 0 < c.gates.length
  few : c.gates.length ≤ 200
  lines : ∀ (i : Nat) (g : Ga), c.gates[i]? = some g → LineM i g
  fewOuts : c.outs.length ≤ 200
  outs : ∀ o ∈ c.outs, 0 ≤ o ∧ o < (c.gates.length : Int)
theorem names_good : ∀ i, i < 200 → nameB (nmOf i) = true := by decide +kernel
theorem names_apart : ((List.range 200).map fun i => (nmOf i).data.toList).Nodup := by decide +kernel
theorem nmOf_inj {i j : Nat} (hi : i < 200) (hj : j < 200) (h : nmOf i = nmOf j) : i = j := by
  have e : ((List.range 200).map fun i => (nmOf i).data.toList)[i]? = ((List.range 200).map fun i => (nmOf i).data.toList)[j]? := by
    simp [List.getElem?_map, List.getElem?_range hi, List.getElem?_range hj, h]
  exact (List.getElem?_inj (by simpa using hi) names_apart).1 e
theorem LineM.line {i : Nat} {g : Ga} (h : LineM i g) {n : Nat} (hi : i < n) : lineB g n = true := by
  simp only [lineB, Bool.and_eq_true, decide_eq_true_eq, fieldB, mostOp]
  rcases h.form with ⟨e, h1, h2, h3, h4⟩ | ⟨e, h1, h2, h3, h4, h5, h6⟩ | ⟨e, h1, h2, h3, h4, h5, h6, h7⟩ | ⟨e, h1, h2, h3, h4, h5, h6, h7⟩
  · simp [e, h1, h2, h3, h4]
  · simp [e, h1, h2, h3, h5, h6]; omega
  · simp [e, h1, h2, h4, h6]; omega
  · simp [e, h1, h2, h3, h5, h7]; omega
theorem LineM.above {i : Nat} {g : Ga} (h : LineM i g) {a : Int} (ha : a ∈ leansOn g) : 0 ≤ a ∧ a < (i : Int) := by
  unfold leansOn at ha
  rcases h.form with ⟨e, h1, h2, h3, h4⟩ | ⟨e, h1, h2, h3, h4, h5, h6⟩ | ⟨e, h1, h2, h3, h4, h5, h6, h7⟩ | ⟨e, h1, h2, h3, h4, h5, h6, h7⟩ <;> simp [e] at ha
  · rcases ha with rfl | rfl | rfl
    · exact ⟨h2, h3⟩
    · exact ⟨h4, h5⟩
    · exact ⟨h6, h7⟩
  · rcases ha with rfl | rfl
    · exact ⟨h3, h4⟩
    · exact ⟨h5, h6⟩
theorem Made.above {c : Net} (h : Made c) (i j : Nat) (hl : Leans c.gates i j) : j < i := by
  obtain ⟨g, hg, hj⟩ := hl
  have := (h.lines i g hg).above hj
  omega
theorem Made.line {c : Net} (h : Made c) (i : Nat) (g : Ga) (hg : c.gates[i]? = some g) : lineB g c.gates.length = true :=
  (h.lines i g hg).line (List.getElem?_eq_some_iff.1 hg).1
theorem Made.formed {c : Net} (h : Made c) : Formed c where
  name := by rw [h.name]; decide
  few := by have := h.few; omega
  fewOuts := by have := h.fewOuts; omega
  lines := fun i g hg => ⟨by
    have := (List.getElem?_eq_some_iff.1 hg).1
    have := h.few
    rw [(h.lines i g hg).name]; exact names_good i (by omega), h.line i g hg⟩
  apart := fun i j g k hg hk e => by
    have := (List.getElem?_eq_some_iff.1 hg).1
    have := (List.getElem?_eq_some_iff.1 hk).1
    have := h.few
    rw [(h.lines i g hg).name, (h.lines j k hk).name] at e
    exact nmOf_inj (by omega) (by omega) e
  outs := h.outs
  free := (show Ranked c.gates id from fun i j hl => h.above i j hl).free
end PureNet
