/-
  Circuits: lines in another order; lines that bear on nothing.
-/
import Derived.Test.YtfmmmhcpdinhgaaDoorNet
namespace PureNet
set_option maxRecDepth 100000

def ren (p : Nat → Nat) (g : Ga) : Ga :=
  { g with a := if g.kind = 1 then g.a else (p g.a.toNat : Int), b := if g.kind = 2 ∨ g.kind = 4 then (p g.b.toNat : Int) else g.b, c := if g.kind = 4 then (p g.c.toNat : Int) else g.c }
structure Shuf (c d : Net) (p : Nat → Nat) : Prop where
  name : d.name = c.name
  len : d.gates.length = c.gates.length
  lt : ∀ i, i < c.gates.length → p i < c.gates.length
  inj : ∀ i j, i < c.gates.length → j < c.gates.length → p i = p j → i = j
  sur : ∀ j, j < c.gates.length → ∃ i, i < c.gates.length ∧ p i = j
  fix : ∀ (i : Nat) (g : Ga), c.gates[i]? = some g → (g.kind = 1 ∨ g.kind = 3) → p i = i
  gate : ∀ (i : Nat) (g : Ga), c.gates[i]? = some g → d.gates[p i]? = some (ren p g)
  outs : d.outs = c.outs.map fun o => (p o.toNat : Int)

theorem ren_leans {p : Nat → Nat} {g : Ga} {y : Int} (h : y ∈ leansOn (ren p g)) : ∃ a ∈ leansOn g, y = (p a.toNat : Int) := by
  unfold leansOn at h ⊢
  by_cases e2 : g.kind = 2
  · simp [ren, e2] at h ⊢; exact h
  by_cases e4 : g.kind = 4
  · simp [ren, e4] at h ⊢; exact h
  · simp [ren, e2, e4] at h
theorem Shuf.leans {c d : Net} {p : Nat → Nat} (h : Shuf c d p) (hl : ∀ (i : Nat) (g : Ga), c.gates[i]? = some g → lineB g c.gates.length = true) {i y : Nat} (hi : i < c.gates.length) (hy : Leans d.gates (p i) y) : ∃ k, k < c.gates.length ∧ p k = y ∧ Leans c.gates i k := by
  have hg : c.gates[i]? = some c.gates[i] := List.getElem?_eq_getElem hi
  obtain ⟨g', hg', hm⟩ := hy
  rw [h.gate i _ hg] at hg'
  obtain rfl := Option.some.inj hg'
  obtain ⟨a, ha, e⟩ := ren_leans hm
  obtain ⟨h0, h1⟩ := lineB_leans (hl i _ hg) ha
  exact ⟨a.toNat, by omega, by omega, _, hg, by rwa [Int.toNat_of_nonneg h0]⟩
theorem leans_lt {l : List Ga} {i j : Nat} (h : Leans l i j) : i < l.length := by
  obtain ⟨g, hg, _⟩ := h
  exact (List.getElem?_eq_some_iff.1 hg).1
theorem way_lt {l : List Ga} {i j : Nat} (h : Way l i j) : i < l.length := by
  cases h using PureNet.Way.cas with
  | one h => exact leans_lt h
  | more h _ => exact leans_lt h
theorem Shuf.way {c d : Net} {p : Nat → Nat} (h : Shuf c d p) (hl : ∀ (i : Nat) (g : Ga), c.gates[i]? = some g → lineB g c.gates.length = true) {x y : Nat} (w : Way d.gates x y) : ∀ i, i < c.gates.length → p i = x → ∃ k, k < c.gates.length ∧ p k = y ∧ Way c.gates i k := by
  induction w using PureNet.Way.ind with
  | one h1 =>
    intro i hi e
    subst e
    obtain ⟨k, hk, e, hw⟩ := h.leans hl hi h1
    exact ⟨k, hk, e, .one hw⟩
  | more h1 _ ih =>
    intro i hi e
    subst e
    obtain ⟨k, hk, e, hw⟩ := h.leans hl hi h1
    obtain ⟨m, hm, e2, hw2⟩ := ih k hk e
    exact ⟨m, hm, e2, .more hw hw2⟩
theorem ren_line {p : Nat → Nat} {g : Ga} {n : Nat} (hp : ∀ i, i < n → p i < n) (h : lineB g n = true) : lineB (ren p g) n = true := by
  simp only [lineB, Bool.and_eq_true, decide_eq_true_eq, fieldB, mostOp, ren] at h ⊢
  have key : ∀ v : Int, 0 ≤ v ∧ v < (n : Int) → p v.toNat < n := fun v hv => hp v.toNat (by omega)
  obtain ⟨⟨⟨h0, h1⟩, h2⟩, h3⟩ := h
  by_cases e1 : g.kind = 1
  · simp [e1] at h0 h1 h2 h3 ⊢; exact ⟨⟨⟨h0, h1⟩, h2⟩, h3⟩
  by_cases e2 : g.kind = 2
  · simp [e2] at h0 h1 h2 h3 ⊢; exact ⟨⟨⟨h0, key _ h1⟩, key _ h2⟩, h3⟩
  by_cases e4 : g.kind = 4
  · simp [e4] at h0 h1 h2 h3 ⊢; exact ⟨⟨⟨h0, key _ h1⟩, key _ h2⟩, key _ h3⟩
  · simp [e1, e2, e4] at h0 h1 h2 h3 ⊢; exact ⟨⟨⟨h0, key _ h1⟩, h2⟩, h3⟩
theorem Shuf.back {c d : Net} {p : Nat → Nat} (h : Shuf c d p) {j : Nat} {k : Ga} (hk : d.gates[j]? = some k) : ∃ i g, c.gates[i]? = some g ∧ p i = j ∧ k = ren p g := by
  have hj : j < c.gates.length := by rw [← h.len]; exact (List.getElem?_eq_some_iff.1 hk).1
  obtain ⟨i, hi, e⟩ := h.sur j hj
  have hg : c.gates[i]? = some c.gates[i] := List.getElem?_eq_getElem hi
  refine ⟨i, _, hg, e, ?_⟩
  have := h.gate i _ hg
  rw [e, hk] at this
  exact Option.some.inj this
theorem Shuf.formed {c d : Net} {p : Nat → Nat} (h : Shuf c d p) (hc : Formed c) : Formed d where
  name := by rw [h.name]; exact hc.name
  few := by rw [h.len]; exact hc.few
  fewOuts := by rw [h.outs, List.length_map]; exact hc.fewOuts
  lines := fun j k hk => by
    obtain ⟨i, g, hg, _, rfl⟩ := h.back hk
    obtain ⟨h1, h2⟩ := hc.lines i g hg
    exact ⟨h1, by rw [h.len]; exact ren_line h.lt h2⟩
  apart := fun i j g k hg hk e => by
    obtain ⟨i', g', hg', rfl, rfl⟩ := h.back hg
    obtain ⟨j', k', hk', rfl, rfl⟩ := h.back hk
    rw [hc.apart i' j' g' k' hg' hk' e]
  outs := fun o ho => by
    rw [h.outs, List.mem_map] at ho
    obtain ⟨q, hq, rfl⟩ := ho
    have := hc.outs q hq
    have := h.lt q.toNat (by omega)
    rw [h.len]
    omega
  free := fun j w => by
    have hj : j < c.gates.length := by rw [← h.len]; exact way_lt w
    obtain ⟨i, hi, e⟩ := h.sur j hj
    obtain ⟨k, hk, e2, hw⟩ := h.way (fun i g hg => (hc.lines i g hg).2) w i hi e
    rw [h.inj k i hk hi (e2.trans e.symm)] at hw
    exact hc.free i hw

theorem cnt_take_succ (k : Int) (l : List Ga) (i : Nat) {g : Ga} (hg : l[i]? = some g) : cnt k (l.take (i + 1)) = cnt k (l.take i) + (if g.kind = k then 1 else 0) := by
  have hi := (List.getElem?_eq_some_iff.1 hg).1
  have e : l[i] = g := (List.getElem?_eq_some_iff.1 hg).2
  rw [List.take_succ_eq_append_getElem hi, e]
  unfold cnt
  rw [List.filter_append, List.length_append]
  by_cases h : g.kind = k <;> simp [h]
theorem cnt_same (k : Int) (l l' : List Ga) (i : Nat) (h1 : i ≤ l.length) (h2 : i ≤ l'.length) (h : ∀ (p : Nat) (g g' : Ga), l[p]? = some g → l'[p]? = some g' → (g.kind = k ↔ g'.kind = k)) : cnt k (l.take i) = cnt k (l'.take i) := by
  induction i with
  | zero => rfl
  | succ i ih =>
    have hg : l[i]? = some l[i] := List.getElem?_eq_getElem (by omega)
    have hg' : l'[i]? = some l'[i] := List.getElem?_eq_getElem (by omega)
    rw [cnt_take_succ k l i hg, cnt_take_succ k l' i hg', ih (by omega) (by omega)]
    have := h i _ _ hg hg'
    by_cases e : l[i].kind = k
    · rw [if_pos e, if_pos (this.1 e)]
    · rw [if_neg e, if_neg (fun x => e (this.2 x))]
theorem filter_map_same {β : Type} (f f' : Ga → β) (k : Int) : ∀ (l l' : List Ga), l.length = l'.length → (∀ (p : Nat) (g g' : Ga), l[p]? = some g → l'[p]? = some g' → (g.kind = k ↔ g'.kind = k) ∧ (g.kind = k → f g = f' g')) →
    (l.filter fun g => decide (g.kind = k)).map f = (l'.filter fun g => decide (g.kind = k)).map f' := by
  intro l
  induction l with
  | nil => intro l' hl _; cases l' with | nil => rfl | cons _ _ => simp at hl
  | cons g r ih =>
    intro l' hl h
    cases l' with
    | nil => simp at hl
    | cons g' r' =>
      have h0 := h 0 g g' rfl rfl
      have hr := ih r' (by simpa using hl) (fun p a b ha hb => h (p + 1) a b (by simpa using ha) (by simpa using hb))
      by_cases e : g.kind = k
      · simp [e, h0.1.1 e, h0.2 e, hr]
      · have e' : ¬ g'.kind = k := fun x => e (h0.1.2 x)
        simp [e, e', hr]
theorem Shuf.kinds {c d : Net} {p : Nat → Nat} (h : Shuf c d p) {k : Int} (hk : k = 1 ∨ k = 3) (q : Nat) (g g' : Ga) (hg : c.gates[q]? = some g) (hg' : d.gates[q]? = some g') : (g.kind = k ↔ g'.kind = k) ∧ (g.kind = k → g' = ren p g) := by
  by_cases e : g.kind = 1 ∨ g.kind = 3
  · have := h.gate q g hg
    rw [h.fix q g hg e, hg'] at this
    obtain rfl := Option.some.inj this
    exact ⟨Iff.rfl, fun _ => rfl⟩
  · obtain ⟨i, gi, hi, e2, rfl⟩ := h.back hg'
    have : ¬ (gi.kind = 1 ∨ gi.kind = 3) := fun x => by
      have hfx := h.fix i gi hi x
      rw [e2] at hfx
      subst hfx
      rw [hg] at hi
      obtain rfl := Option.some.inj hi
      exact e x
    refine ⟨⟨fun x => ?_, fun x => ?_⟩, fun x => ?_⟩
    · exact absurd (hk.elim (fun y => .inl (x.trans y)) (fun y => .inr (x.trans y))) e
    · exact absurd (hk.elim (fun y => .inl (Eq.trans (b := (ren p gi).kind) rfl (x.trans y))) (fun y => .inr (Eq.trans (b := (ren p gi).kind) rfl (x.trans y)))) this
    · exact absurd (hk.elim (fun y => .inl (x.trans y)) (fun y => .inr (x.trans y))) e
theorem Shuf.vals {c d : Net} {p : Nat → Nat} (h : Shuf c d p) (hc : Formed c) {ins las v : List Bool} (hv : Vals c.gates ins las v) : ∃ v', Vals d.gates ins las v' ∧ outsOf d v' = outsOf c v ∧ nextOf d v' = nextOf c v := by
  have : ∃ inv : Nat → Nat, ∀ j, j < c.gates.length → inv j < c.gates.length ∧ p (inv j) = j := by
    refine ⟨fun j => if hj : j < c.gates.length then Classical.choose (h.sur j hj) else 0, fun j hj => ?_⟩
    simp only [hj, dif_pos]
    exact Classical.choose_spec (h.sur j hj)
  obtain ⟨inv, hinv⟩ := this
  have hat : ∀ a : Int, 0 ≤ a ∧ a < (c.gates.length : Int) → valAt ((List.range c.gates.length).map fun j => valAt v (inv j : Int)) (p a.toNat : Int) = valAt v a := by
    intro a ha
    have hp := h.lt a.toNat (by omega)
    have h1 := hinv (p a.toNat) hp
    have h2 := h.inj _ _ h1.1 (by omega) h1.2
    unfold valAt
    rw [List.getD_eq_getElem?_getD, Int.toNat_natCast, List.getElem?_map, List.getElem?_range hp]
    simp only [Option.map_some, Option.getD_some, h2, Int.toNat_natCast]
  refine ⟨(List.range c.gates.length).map fun j => valAt v (inv j : Int), ⟨by simp [h.len], fun j k hk => ?_⟩, ?_, ?_⟩
  · obtain ⟨i, g, hg, rfl, rfl⟩ := h.back hk
    have hi := (List.getElem?_eq_some_iff.1 hg).1
    have hp := h.lt i hi
    have h1 := hinv (p i) hp
    have h2 := h.inj _ _ h1.1 hi h1.2
    have hln := (hc.lines i g hg).2
    rw [List.getElem?_map, List.getElem?_range hp]
    simp only [Option.map_some, h2]
    have e1 : valAt v (i : Int) = worth c.gates ins las v i g := by
      unfold valAt
      rw [List.getD_eq_getElem?_getD, Int.toNat_natCast, hv.at_ i g hg, Option.getD_some]
    rw [e1]
    refine congrArg some ?_
    have hc1 : g.kind = 1 → cnt 1 (d.gates.take (p i)) = cnt 1 (c.gates.take i) := fun e => by
      rw [h.fix i g hg (.inl e)]
      exact (cnt_same 1 c.gates d.gates i (by omega) (by rw [h.len]; omega) (fun q a b ha hb => (h.kinds (.inl rfl) q a b ha hb).1)).symm
    have hc3 : g.kind = 3 → cnt 3 (d.gates.take (p i)) = cnt 3 (c.gates.take i) := fun e => by
      rw [h.fix i g hg (.inr e)]
      exact (cnt_same 3 c.gates d.gates i (by omega) (by rw [h.len]; omega) (fun q a b ha hb => (h.kinds (.inr rfl) q a b ha hb).1)).symm
    have hk4 := lineB_kind hln
    have hb : ∀ a ∈ leansOn g, 0 ≤ a ∧ a < (c.gates.length : Int) := fun a ha => lineB_leans hln ha
    unfold worth
    by_cases k1 : g.kind = 1
    · simp only [ren, k1, if_true, hc1 k1]
    by_cases k3 : g.kind = 3
    · simp only [ren, k3, hc3 k3]; rfl
    by_cases k4 : g.kind = 4
    · have hl : leansOn g = [g.a, g.b, g.c] := by simp [leansOn, k4]
      rw [hl] at hb
      simp only [ren, k4, if_true, or_true]
      simp only [show (4 : Int) = 1 ↔ False by decide, show (4 : Int) = 3 ↔ False by decide, if_false]
      rw [hat g.a (hb _ (by simp)), hat g.b (hb _ (by simp)), hat g.c (hb _ (by simp))]
    · have k2 : g.kind = 2 := by omega
      have hl : leansOn g = [g.a, g.b] := by simp [leansOn, k2]
      rw [hl] at hb
      simp only [ren, k2, if_true, true_or]
      simp only [show (2 : Int) = 1 ↔ False by decide, show (2 : Int) = 3 ↔ False by decide, show (2 : Int) = 4 ↔ False by decide, if_false]
      rw [hat g.a (hb _ (by simp)), hat g.b (hb _ (by simp))]
  · unfold outsOf
    rw [h.outs, List.map_map]
    apply List.map_congr_left
    intro o ho
    exact hat o (hc.outs o ho)
  · unfold nextOf
    refine (filter_map_same _ _ 3 c.gates d.gates h.len.symm fun q g g' hg hg' => ?_).symm
    obtain ⟨h1, h2⟩ := h.kinds (.inr rfl) q g g' hg hg'
    refine ⟨h1, fun e => ?_⟩
    rw [h2 e]
    have hln := (hc.lines q g hg).2
    simp only [lineB, Bool.and_eq_true, decide_eq_true_eq, fieldB, e] at hln
    have ha : 0 ≤ g.a ∧ g.a < (c.gates.length : Int) := by simpa using hln.1.1.2
    simp only [ren, e, show (3 : Int) = 1 ↔ False by decide, if_false]
    exact (hat g.a ha).symm
theorem Shuf.run {c d : Net} {p : Nat → Nat} (h : Shuf c d p) (hc : Formed c) {las : List Bool} {is os : List (List Bool)} (hr : RunP c las is os) : RunP d las is os := by
  induction hr using PureNet.RunP.ind with
  | nil => exact .nil
  | cons hv _ ih =>
    obtain ⟨v', h1, h2, h3⟩ := h.vals hc hv
    rw [← h2]
    exact .cons h1 (by rw [h3]; exact ih)
theorem Shuf.firsts {c d : Net} {p : Nat → Nat} (h : Shuf c d p) : firstsOf d.gates = firstsOf c.gates := by
  unfold firstsOf
  refine (filter_map_same _ _ 3 c.gates d.gates h.len.symm fun q g g' hg hg' => ?_).symm
  obtain ⟨h1, h2⟩ := h.kinds (.inr rfl) q g g' hg hg'
  exact ⟨h1, fun e => by rw [h2 e]; rfl⟩

/-- turned where nothing hangs on it. -/
structure Dead (c d : Net) (live : Nat → Prop) : Prop where
  outs : d.outs = c.outs
  len : d.gates.length = c.gates.length
  gate : ∀ (i : Nat) (g : Ga), c.gates[i]? = some g → ∃ o, d.gates[i]? = some { g with op := o } ∧ (live i ∨ g.kind ≠ 2 → o = g.op)
  goes : ∀ o ∈ c.outs, live o.toNat
  keeps : ∀ (i : Nat) (g : Ga), c.gates[i]? = some g → g.kind = 3 → live g.a.toNat
  on : ∀ i j, live i → Leans c.gates i j → live j
theorem Dead.vals {c d : Net} {live : Nat → Prop} (h : Dead c d live) (hl : ∀ (i : Nat) (g : Ga), c.gates[i]? = some g → lineB g c.gates.length = true) (hab : ∀ i j, Leans c.gates i j → j < i) {ins las v v' : List Bool} (hv : Vals c.gates ins las v) (hv' : Vals d.gates ins las v') :
    ∀ n i, i < n → i < c.gates.length → live i → v'[i]? = v[i]? := by
  intro n
  induction n with
  | zero => intro i hi; omega
  | succ n ih =>
    intro i hi hlt hlv
    have hg : c.gates[i]? = some c.gates[i] := List.getElem?_eq_getElem hlt
    obtain ⟨o, ho, hop⟩ := h.gate i _ hg
    rw [hop (.inl hlv)] at ho
    rw [hv.at_ i _ hg, hv'.at_ i _ ho]
    refine congrArg some ?_
    have e1 : ∀ k, cnt k (d.gates.take i) = cnt k (c.gates.take i) := fun k => (cnt_same k c.gates d.gates i (by omega) (by rw [h.len]; omega) (fun q a b ha hb => by
      obtain ⟨o, ho, _⟩ := h.gate q a ha
      rw [hb] at ho
      obtain rfl := Option.some.inj ho
      exact Iff.rfl)).symm
    have e2 : worth d.gates ins las v' i c.gates[i] = worth c.gates ins las v' i c.gates[i] := by unfold worth; rw [e1, e1]
    refine e2.trans (worth_congr (lineB_kind (hl i _ hg)) fun a ha => ?_)
    obtain ⟨h0, h1⟩ := lineB_leans (hl i _ hg) ha
    have hle : Leans c.gates i a.toNat := ⟨_, hg, by rwa [Int.toNat_of_nonneg h0]⟩
    have := hab _ _ hle
    have := ih a.toNat (by omega) (by omega) (h.on _ _ hlv hle)
    simp only [valAt, List.getD_eq_getElem?_getD, this]
theorem Dead.run {c d : Net} {live : Nat → Prop} (h : Dead c d live) (hl : ∀ (i : Nat) (g : Ga), c.gates[i]? = some g → lineB g c.gates.length = true) (hld : ∀ (i : Nat) (g : Ga), d.gates[i]? = some g → lineB g d.gates.length = true) (hab : ∀ i j, Leans c.gates i j → j < i) (ho : ∀ o ∈ c.outs, 0 ≤ o ∧ o < (c.gates.length : Int)) {las : List Bool} {is os : List (List Bool)} (hr : RunP c las is os) : RunP d las is os := by
  have hab' : ∀ i j, Leans d.gates i j → j < i := fun i j hlj => by
    obtain ⟨k, hk, hm⟩ := hlj
    have hi : i < c.gates.length := by rw [← h.len]; exact (List.getElem?_eq_some_iff.1 hk).1
    have hg : c.gates[i]? = some c.gates[i] := List.getElem?_eq_getElem hi
    obtain ⟨o, ho, _⟩ := h.gate i _ hg
    rw [hk] at ho
    obtain rfl := Option.some.inj ho
    exact hab i j ⟨_, hg, hm⟩
  induction hr using PureNet.RunP.ind with
  | nil => exact .nil
  | @cons las ins v is os hv _ ih =>
    have h1 := valsUp_vals (l := d.gates) ins las hld hab'
    have h2 := h.vals hl hab hv h1
    have e1 : outsOf d (valsUp d.gates ins las d.gates.length) = outsOf c v := by
      unfold outsOf
      rw [h.outs]
      apply List.map_congr_left
      intro o hm
      have hb := ho o hm
      simp only [valAt, List.getD_eq_getElem?_getD, h2 _ o.toNat (Nat.lt_succ_self _) (by omega) (h.goes o hm)]
    have e2 : nextOf d (valsUp d.gates ins las d.gates.length) = nextOf c v := by
      unfold nextOf
      refine (filter_map_same _ _ 3 c.gates d.gates h.len.symm fun q g g' hg hg' => ?_).symm
      obtain ⟨o, ho, _⟩ := h.gate q g hg
      rw [hg'] at ho
      obtain rfl := Option.some.inj ho
      refine ⟨Iff.rfl, fun e => ?_⟩
      have hln := hl q g hg
      simp only [lineB, Bool.and_eq_true, decide_eq_true_eq, fieldB, e] at hln
      have ha : 0 ≤ g.a ∧ g.a < (c.gates.length : Int) := by simpa using hln.1.1.2
      simp only [valAt, List.getD_eq_getElem?_getD, h2 _ g.a.toNat (Nat.lt_succ_self _) (by omega) (h.keeps q g hg e)]
    rw [← e1]
    exact .cons h1 (by rw [e2]; exact ih)
end PureNet
