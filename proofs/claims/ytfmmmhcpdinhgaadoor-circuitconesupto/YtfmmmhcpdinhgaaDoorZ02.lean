import Derived.Test.YtfmmmhcpdinhgaaDoorZ01
/-
  Several rows of one type, each in a block of its own. For any program.
-/
namespace ShfKit
open Go Go.RowKit
set_option maxRecDepth 100000

abbrev Rw := Value × Nat × List Value
/-- rows, each in a block of its own. -/
structure Fam (W : World) (B e size : Nat) (L : List Rw) : Prop where
  own : ∀ (i : Nat) (x : Rw), L[i]? = some x → W.ownsRow B e size x.1 x.2.1 x.2.2
  apart : ∀ (i j : Nat) (x y : Rw) (g : Nat), L[i]? = some x → L[j]? = some y → i ≠ j → x.1.ownBlock = some g → y.1.ownBlock ≠ some g

section
variable {P : Program} {W W' : World} {B e size : Nat} {L : List Rw}
theorem Fam.nil (W : World) (B e size : Nat) : Fam W B e size [] := ⟨fun i x h => by simp at h, fun i j x y g h => by simp at h⟩
theorem Fam.kept (h : Fam W B e size L) (hk : ∀ g, B ≤ g → g < W.heap.size → W'.heap[g]? = W.heap[g]?) : Fam W' B e size L :=
  ⟨fun i x hx => own_kept (h.own i x hx) fun g hg => hk g (own_block (h.own i x hx) hg).1 (own_block (h.own i x hx) hg).2, h.apart⟩
theorem Fam.below (h : Fam W B e size L) (hb : Below W.heap.size W W') : Fam W' B e size L := h.kept fun g _ hg => hb.block g hg
/-- one of them has become another, and only its own block has turned, or new ones have come. -/
theorem Fam.turn (h : Fam W B e size L) {i : Nat} {x y : Rw} (hx : L[i]? = some x) (ho : W'.ownsRow B e size y.1 y.2.1 y.2.2)
    (hf : (y.1.ownBlock = x.1.ownBlock ∧ W.grownBy W' x.1.ownBlock) ∨ ((∀ g, y.1.ownBlock = some g → W.heap.size ≤ g) ∧ W.grownBy W' none)) : Fam W' B e size (L.set i y) := by
  have hi := (List.getElem?_eq_some_iff.1 hx).1
  have old : ∀ (j : Nat) (z : Rw), j ≠ i → L[j]? = some z → W'.ownsRow B e size z.1 z.2.1 z.2.2 := fun j z hj hz => by
    refine own_kept (h.own j z hz) fun g hg => ?_
    have hlt := (own_block (h.own j z hz) hg).2
    rcases hf with ⟨_, hgr⟩ | ⟨_, hgr⟩
    · exact hgr.block g hlt (fun e => h.apart j i z x g hz hx hj hg e.symm)
    · exact hgr.block g hlt (fun e => by cases e)
  have new : ∀ (j : Nat) (z : Rw) (g : Nat), j ≠ i → L[j]? = some z → z.1.ownBlock = some g → y.1.ownBlock ≠ some g := fun j z g hj hz hg hy => by
    rcases hf with ⟨he, _⟩ | ⟨hn, _⟩
    · rw [he] at hy
      exact h.apart j i z x g hz hx hj hg hy
    · have := hn g hy
      have := (own_block (h.own j z hz) hg).2
      omega
  refine ⟨fun j z hz => ?_, fun j k z u g hz hu hjk hg => ?_⟩
  · rw [List.getElem?_set] at hz
    by_cases hji : i = j
    · rw [if_pos hji, if_pos (by omega)] at hz
      cases hz
      exact ho
    · rw [if_neg hji] at hz
      exact old j z (fun e => hji e.symm) hz
  · rw [List.getElem?_set] at hz hu
    by_cases hji : i = j
    · rw [if_pos hji, if_pos (by omega)] at hz
      cases hz
      rw [if_neg (by omega)] at hu
      intro hue
      exact new k u g (by omega) hu hue hg
    · rw [if_neg hji] at hz
      by_cases hki : i = k
      · rw [if_pos hki, if_pos (by omega)] at hu
        cases hu
        exact new j z g (fun e => hji e.symm) hz hg
      · rw [if_neg hki] at hu
        exact h.apart j k z u g hz hu hjk hg
/-- one more row, in a block that is new. -/
theorem Fam.push (h : Fam W B e size L) {y : Rw} (hb : Below W.heap.size W W') (ho : W'.ownsRow W.heap.size e size y.1 y.2.1 y.2.2) (hB : B ≤ W.heap.size) : Fam W' B e size (L ++ [y]) := by
  have h2 := h.below hb
  refine ⟨fun j z hz => ?_, fun j k z u g hz hu hjk hg => ?_⟩
  · by_cases hj : j < L.length
    · rw [List.getElem?_append_left hj] at hz
      exact h2.own j z hz
    · rw [List.getElem?_append_right (by omega)] at hz
      have : j - L.length = 0 := by have := (List.getElem?_eq_some_iff.1 hz).1; simp at this; omega
      rw [this] at hz
      cases hz
      exact own_base ho hB
  · by_cases hj : j < L.length
    · rw [List.getElem?_append_left hj] at hz
      by_cases hk : k < L.length
      · rw [List.getElem?_append_left hk] at hu
        exact h.apart j k z u g hz hu hjk hg
      · rw [List.getElem?_append_right (by omega)] at hu
        have : k - L.length = 0 := by have := (List.getElem?_eq_some_iff.1 hu).1; simp at this; omega
        rw [this] at hu
        cases hu
        intro e
        have := (own_block ho e).1
        have := (own_block (h.own j z hz) hg).2
        omega
    · rw [List.getElem?_append_right (by omega)] at hz
      have : j - L.length = 0 := by have := (List.getElem?_eq_some_iff.1 hz).1; simp at this; omega
      rw [this] at hz
      cases hz
      by_cases hk : k < L.length
      · rw [List.getElem?_append_left hk] at hu
        intro e
        have := (own_block ho hg).1
        have := (own_block (h.own k u hu) e).2
        omega
      · have := (List.getElem?_eq_some_iff.1 hu).1
        simp at this
        have hk2 : k = L.length := by omega
        have : j - L.length = 0 := by omega
        omega
/-- a cell of a row. -/
theorem own_cell {v : Value} {n : Nat} {xs : List Value} (h : W.ownsRow B e size v n xs) {j : Nat} {x : Value} (hj : xs[j]? = some x) : ∃ g c, v = .slice (some ⟨g, 0, none⟩) n c ∧ B ≤ g ∧ g < W.heap.size ∧ W.cell? ⟨g, j, none⟩ = some x ∧ W.frozen? ⟨g, j, none⟩ = false := by
  have hlt := (List.getElem?_eq_some_iff.1 hj).1
  rcases h.2 with ⟨hv, h0⟩ | ⟨g, cap, cur, hv, hb, hr, hnc, hcm, hcs, htk⟩
  · have := h.1
    rw [h0] at this
    omega
  · refine ⟨g, cap, hv, hb, (Array.getElem?_eq_some_iff.1 hr).1, ?_, by simp [World.frozen?, hr]⟩
    rw [← htk] at hj
    rw [List.getElem?_take] at hj
    split at hj
    · simp [World.cell?, hr]
      simpa using hj
    · cases hj
/-- a cell of a row is written. -/
theorem own_set {v : Value} {n : Nat} {xs : List Value} (h : W.ownsRow B e size v n xs) {g c j : Nat} (hv : v = .slice (some ⟨g, 0, none⟩) n c) (u : Value) : (W.setCell ⟨g, j, none⟩ u).ownsRow B e size v n (xs.set j u) ∧ W.grownBy (W.setCell ⟨g, j, none⟩ u) v.ownBlock := by
  have hob : v.ownBlock = some g := by rw [hv]; rfl
  refine ⟨⟨by rw [List.length_set]; exact h.1, ?_⟩, ⟨rfl, rfl, rfl, by simp [World.setCell], fun k hk hne => Below.heap_setCell W _ _ _ (fun e => hne (by rw [hob, e]))⟩⟩
  rcases h.2 with ⟨hv', h0⟩ | ⟨g', cap, cur, hv', hb, hr, hnc, hcm, hcs, htk⟩
  · rw [hv] at hv'; cases hv'
  · rw [hv] at hv'
    cases hv'
    refine .inr ⟨g, c, cur.setIfInBounds j u, hv, hb, ?_, hnc, hcm, by simpa using hcs, ?_⟩
    · simp [World.setCell, Array.getElem?_modify, hr]
    · rw [← htk, Array.toList_setIfInBounds, List.take_set]
theorem Fam.write (h : Fam W B e size L) {i : Nat} {x : Rw} (hx : L[i]? = some x) {g c j : Nat} (hv : x.1 = .slice (some ⟨g, 0, none⟩) x.2.1 c) (u : Value) : Fam (W.setCell ⟨g, j, none⟩ u) B e size (L.set i (x.1, x.2.1, x.2.2.set j u)) := by
  obtain ⟨h1, h2⟩ := own_set (h.own i x hx) (j := j) hv u
  exact h.turn (y := (x.1, x.2.1, x.2.2.set j u)) hx h1 (.inl ⟨rfl, h2⟩)
end
end ShfKit
/-
  Lines that bear on something: marks, and the rest turned.
-/
namespace PureNet
set_option maxRecDepth 100000

theorem way_snoc {l : List Ga} {i j k : Nat} (h : Way l i j) (h2 : Leans l j k) : Way l i k := by
  induction h using PureNet.Way.ind with
  | one h1 => exact .more h1 (.one h2)
  | more h1 _ ih => exact .more h1 (ih h2)
end PureNet
/-
  Circles: where each line of a set leans on one of it, one of it is in a circle.
-/
namespace PureNet
set_option maxRecDepth 100000

theorem holes (n : Nat) : ∀ f : Nat → Nat, (∀ k, k ≤ n → f k < n) → ∃ a b, a < b ∧ b ≤ n ∧ f a = f b := by
  induction n with
  | zero => intro f h; have := h 0 (Nat.le_refl _); omega
  | succ n ih =>
    intro f h
    by_cases hx : ∃ k, k ≤ n ∧ f k = f (n + 1)
    · obtain ⟨k, hk, e⟩ := hx
      exact ⟨k, n + 1, by omega, Nat.le_refl _, e⟩
    · have hne : ∀ k, k ≤ n → f k ≠ f (n + 1) := fun k hk e => hx ⟨k, hk, e⟩
      obtain ⟨a, b, hab, hb, e⟩ := ih (fun k => if f k = n then f (n + 1) else f k) (fun k hk => by
        have h1 := h k (by omega)
        have h2 := h (n + 1) (Nat.le_refl _)
        have h3 := hne k hk
        show (if f k = n then f (n + 1) else f k) < n
        split <;> omega)
      refine ⟨a, b, hab, by omega, ?_⟩
      have ha := hne a (by omega)
      have hb' := hne b hb
      have e2 : (if f a = n then f (n + 1) else f a) = (if f b = n then f (n + 1) else f b) := e
      split at e2 <;> split at e2 <;> omega
end PureNet
/-
  The lines of a circuit, each behind those on which it leans: plain mathematics.
-/
namespace PureNet
set_option maxRecDepth 100000

/-- who leans on whom: targets and users, in their order. -/
def entsOf (l : List Ga) : List (Nat × Nat) := l.zipIdx.flatMap fun p => (leansOn p.1).map fun a => (a.toNat, p.2)
theorem ents_snoc (l : List Ga) (g : Ga) : entsOf (l ++ [g]) = entsOf l ++ (leansOn g).map fun a => (a.toNat, l.length) := by simp [entsOf, List.zipIdx_append]
theorem ents_take (l : List Ga) (i : Nat) (g : Ga) (h : l[i]? = some g) : entsOf (l.take (i + 1)) = entsOf (l.take i) ++ (leansOn g).map fun a => (a.toNat, i) := by
  have hi := (List.getElem?_eq_some_iff.1 h).1
  rw [List.take_add_one, h]
  simp only [Option.toList_some]
  rw [ents_snoc, List.length_take, Nat.min_eq_left (by omega)]
theorem ents_mem (l : List Ga) (y x : Nat) : (y, x) ∈ entsOf l ↔ ∃ g a, l[x]? = some g ∧ a ∈ leansOn g ∧ a.toNat = y := by
  unfold entsOf
  rw [List.mem_flatMap]
  constructor
  · rintro ⟨⟨g, i⟩, hp, hm⟩
    rw [List.mem_map] at hm
    obtain ⟨a, ha, e⟩ := hm
    have hp' := List.mem_zipIdx_iff_getElem?.1 hp
    simp only [Prod.mk.injEq] at e
    obtain ⟨rfl, rfl⟩ := e
    exact ⟨g, a, hp', ha, rfl⟩
  · rintro ⟨g, a, hg, ha, rfl⟩
    exact ⟨(g, x), List.mem_zipIdx_iff_getElem?.2 hg, List.mem_map.2 ⟨a, ha, rfl⟩⟩
theorem leans_len (g : Ga) : (leansOn g).length ≤ 3 := by unfold leansOn; split; simp; split <;> simp
theorem ents_take_len (l : List Ga) : ∀ i, i ≤ l.length → (entsOf (l.take i)).length ≤ 3 * i := by
  intro i
  induction i with
  | zero => intro _; simp [entsOf]
  | succ i ih =>
    intro h
    have hg : l[i]? = some l[i] := List.getElem?_eq_getElem (by omega)
    rw [ents_take l i _ hg, List.length_append, List.length_map]
    have := ih (by omega)
    have := leans_len l[i]
    omega
theorem ents_len (l : List Ga) : (entsOf l).length ≤ 3 * l.length := by
  have := ents_take_len l l.length (Nat.le_refl _)
  rwa [List.take_length] at this

/-- the last entry below m whose target is y, or -1. -/
def lastI (E : List (Nat × Nat)) (y : Nat) : Nat → Int
  | 0 => -1
  | m + 1 => if (E.getD m (0, 0)).1 = y then (m : Int) else lastI E y m
theorem lastI_lt (E : List (Nat × Nat)) (y m : Nat) : -1 ≤ lastI E y m ∧ lastI E y m < m := by
  induction m with
  | zero => simp [lastI]
  | succ m ih => unfold lastI; split <;> omega
theorem lastI_hit (E : List (Nat × Nat)) (y m k : Nat) (h : lastI E y m = (k : Int)) : k < m ∧ (E.getD k (0, 0)).1 = y ∧ ∀ j, k < j → j < m → (E.getD j (0, 0)).1 ≠ y := by
  induction m with
  | zero => simp [lastI] at h
  | succ m ih =>
    unfold lastI at h
    split at h
    · next he =>
      obtain rfl : m = k := by omega
      exact ⟨by omega, he, fun j h1 h2 => by omega⟩
    · next he =>
      obtain ⟨h1, h2, h3⟩ := ih h
      refine ⟨by omega, h2, fun j h4 h5 => ?_⟩
      by_cases hjm : j = m
      · rw [hjm]; exact he
      · exact h3 j h4 (by omega)
theorem lastI_none (E : List (Nat × Nat)) (y m : Nat) (h : lastI E y m < 0) : ∀ j, j < m → (E.getD j (0, 0)).1 ≠ y := by
  induction m with
  | zero => intro j hj; omega
  | succ m ih =>
    unfold lastI at h
    split at h
    · omega
    · next he =>
      intro j hj
      by_cases hjm : j = m
      · rw [hjm]; exact he
      · exact ih h j (by omega)

/-! ### how many are not done -/
def cntP (p : Nat → Bool) (m : Nat) : Nat := ((List.range m).filter p).length
theorem cntP_succ (p : Nat → Bool) (m : Nat) : cntP p (m + 1) = cntP p m + (if p m = true then 1 else 0) := by
  unfold cntP
  rw [List.range_succ, List.filter_append, List.length_append]
  cases h : p m <;> simp [h]
theorem cntP_congr {p q : Nat → Bool} {m : Nat} (h : ∀ j, j < m → p j = q j) : cntP p m = cntP q m := by
  induction m with
  | zero => rfl
  | succ m ih => rw [cntP_succ, cntP_succ, ih (fun j hj => h j (by omega)), h m (by omega)]
theorem cntP_zero {p : Nat → Bool} {m : Nat} : cntP p m = 0 ↔ ∀ j, j < m → p j = false := by
  induction m with
  | zero => simp [cntP]
  | succ m ih =>
    rw [cntP_succ]
    constructor
    · intro h j hj
      have h1 : cntP p m = 0 := by omega
      have h2 : p m = false := by cases hp : p m with | false => rfl | true => rw [hp] at h; simp at h
      by_cases hjm : j = m
      · rw [hjm]; exact h2
      · exact ih.1 h1 j (by omega)
    · intro h
      rw [ih.2 (fun j hj => h j (by omega)), h m (by omega)]
      simp
theorem cntP_less {p q : Nat → Bool} {m k : Nat} (hk : k < m) (hp : p k = true) (hq : q k = false) (h : ∀ j, j < m → j ≠ k → p j = q j) : cntP p m = cntP q m + 1 := by
  induction m with
  | zero => omega
  | succ m ih =>
    rw [cntP_succ, cntP_succ]
    by_cases hkm : k = m
    · subst hkm
      rw [hp, hq, cntP_congr (fun j hj => h j (by omega) (by omega))]
      simp
    · rw [ih (by omega) (fun j hj hne => h j (by omega) hne), h m (by omega) (by omega)]
      omega
theorem cntP_le (p : Nat → Bool) (m : Nat) : cntP p m ≤ m := by
  unfold cntP
  have := List.length_filter_le p (List.range m)
  simpa using this

/-- how many operands of a line are not done. -/
def waits (E : List (Nat × Nat)) (done : Nat → Bool) (x : Nat) : Nat := cntP (fun j => decide ((E.getD j (0, 0)).2 = x) && !done j) E.length

/-- what holds while lines are laid: D: the entries that are done. -/
structure LayS (l : List Ga) (out : List Nat) (q : Nat) (D : Nat → Bool) : Prop where
  nd : out.Nodup
  lt : ∀ x ∈ out, x < l.length
  zero : ∀ x, x < l.length → (x ∈ out ↔ waits (entsOf l) D x = 0)
  sub : ∀ j, j < (entsOf l).length → D j = true → ((entsOf l).getD j (0, 0)).1 ∈ out.take (q + 1)
  ord : ∀ (k x : Nat), out[k]? = some x → ∀ y, (y, x) ∈ entsOf l → ∃ m, m < k ∧ out[m]? = some y
theorem getD_mem {E : List (Nat × Nat)} {j : Nat} (h : j < E.length) : E.getD j (0, 0) ∈ E := by
  rw [List.getD_eq_getElem?_getD, List.getElem?_eq_getElem h]
  exact List.getElem_mem h
theorem mem_take_at {out : List Nat} {q y : Nat} (h : y ∈ out.take q) : ∃ m, m < q ∧ out[m]? = some y := by
  obtain ⟨m, hm, e⟩ := List.getElem_of_mem h
  have hm2 : m < q ∧ m < out.length := by rw [List.length_take] at hm; omega
  refine ⟨m, hm2.1, ?_⟩
  rw [List.getElem_take] at e
  rw [List.getElem?_eq_getElem hm2.2, e]
theorem waits_congr {E : List (Nat × Nat)} {D D' : Nat → Bool} {x : Nat} (h : ∀ j, j < E.length → (E.getD j (0, 0)).2 = x → D j = D' j) : waits E D x = waits E D' x := by
  unfold waits
  refine cntP_congr fun j hj => ?_
  by_cases hx : (E.getD j (0, 0)).2 = x
  · rw [h j hj hx]
  · simp only [hx, decide_false, Bool.false_and]
theorem LayS.congr {l : List Ga} {out : List Nat} {q : Nat} {D D' : Nat → Bool} (h : LayS l out q D) (hD : ∀ j, j < (entsOf l).length → D j = D' j) : LayS l out q D' :=
  ⟨h.nd, h.lt, fun x hx => by rw [h.zero x hx, waits_congr (fun j hj _ => hD j hj)], fun j hj hd => h.sub j hj (by rw [hD j hj]; exact hd), h.ord⟩
/-- an operand of a line is done. -/
theorem LayS.one {l : List Ga} {out : List Nat} {q k y x : Nat} {D D' : Nat → Bool} (h : LayS l out q D) (hk : k < (entsOf l).length) (hE : (entsOf l).getD k (0, 0) = (y, x)) (hq : out[q]? = some y) (hx : x < l.length) (hDk : D k = false) (hDk' : D' k = true) (hD : ∀ j, j < (entsOf l).length → j ≠ k → D j = D' j) :
    waits (entsOf l) D x = waits (entsOf l) D' x + 1 ∧ (waits (entsOf l) D' x = 0 → LayS l (out ++ [x]) q D') ∧ (waits (entsOf l) D' x ≠ 0 → LayS l out q D') := by
  have hql := (List.getElem?_eq_some_iff.1 hq).1
  have hw : waits (entsOf l) D x = waits (entsOf l) D' x + 1 := by
    refine cntP_less hk ?_ ?_ fun j hj hne => ?_
    · simp only [hE, hDk, decide_true, Bool.not_false, Bool.and_true]
    · simp only [hDk', Bool.not_true, Bool.and_false]
    · rw [hD j hj hne]
  have hz : ∀ z, z ≠ x → waits (entsOf l) D z = waits (entsOf l) D' z := fun z hne => waits_congr fun j hj h2 => hD j hj (by
    rintro rfl
    rw [hE] at h2
    exact hne h2.symm)
  have hnx : x ∉ out := fun hm => by
    have := (h.zero x hx).1 hm
    omega
  have hsub : ∀ j, j < (entsOf l).length → D' j = true → ((entsOf l).getD j (0, 0)).1 ∈ out.take (q + 1) := fun j hj hd => by
    by_cases hjk : j = k
    · subst hjk
      rw [hE]
      rw [List.take_add_one, hq]
      simp
    · exact h.sub j hj (by rw [hD j hj hjk]; exact hd)
  refine ⟨hw, fun h0 => ?_, fun h0 => ?_⟩
  · refine ⟨?_, fun z hz' => ?_, fun z hz' => ?_, fun j hj hd => ?_, fun m z hm y' hy => ?_⟩
    · rw [List.nodup_append]
      refine ⟨h.nd, by simp, fun a ha b hb => ?_⟩
      simp at hb
      subst hb
      rintro rfl
      exact hnx ha
    · rcases List.mem_append.1 hz' with h1 | h1
      · exact h.lt z h1
      · simp at h1; subst h1; exact hx
    · rw [List.mem_append]
      by_cases hzx : z = x
      · subst hzx
        constructor
        · intro _; exact h0
        · intro _; right; simp
      · rw [← hz z hzx, ← h.zero z hz']
        constructor
        · rintro (h1 | h1)
          · exact h1
          · simp at h1; exact absurd h1 hzx
        · intro h1; exact .inl h1
    · rw [List.take_append_of_le_length (by omega)]
      exact hsub j hj hd
    · by_cases hml : m < out.length
      · rw [List.getElem?_append_left hml] at hm
        obtain ⟨m2, h2, h3⟩ := h.ord m z hm y' hy
        exact ⟨m2, h2, by rw [List.getElem?_append_left (by omega)]; exact h3⟩
      · rw [List.getElem?_append_right (by omega)] at hm
        have hm0 := (List.getElem?_eq_some_iff.1 hm).1
        simp at hm0
        have hmq : m = out.length := by omega
        subst hmq
        simp at hm
        subst hm
        obtain ⟨j, hj, ej⟩ := List.getElem_of_mem hy
        have eg : (entsOf l).getD j (0, 0) = (y', x) := by rw [List.getD_eq_getElem?_getD, List.getElem?_eq_getElem hj, ej]; rfl
        have hdj : D' j = true := by
          have := cntP_zero.1 h0 j hj
          simp only [eg, decide_true, Bool.true_and] at this
          simpa using this
        have hmem := hsub j hj hdj
        rw [eg] at hmem
        obtain ⟨m2, h2, h3⟩ := mem_take_at hmem
        exact ⟨m2, by omega, by rw [List.getElem?_append_left (by omega)]; exact h3⟩
  · refine ⟨h.nd, h.lt, fun z hz' => ?_, hsub, h.ord⟩
    by_cases hzx : z = x
    · subst hzx
      constructor
      · intro h1; exact absurd h1 hnx
      · intro h1; exact absurd h1 h0
    · rw [← hz z hzx]
      exact h.zero z hz'
/-- an entry is done: its target has been taken up, or it is of the one that is being taken up, and above e. -/
def doneAt (E : List (Nat × Nat)) (out : List Nat) (q : Nat) (e : Int) (j : Nat) : Bool := decide ((E.getD j (0, 0)).1 ∈ out.take q) || (decide (out[q]? = some (E.getD j (0, 0)).1) && decide (e < (j : Int)))
theorem doneAt_app (E : List (Nat × Nat)) (out : List Nat) (x q : Nat) (e : Int) (j : Nat) (hq : q < out.length) : doneAt E (out ++ [x]) q e j = doneAt E out q e j := by
  unfold doneAt
  rw [List.take_append_of_le_length (by omega), List.getElem?_append_left hq]
theorem nodup_take {out : List Nat} (h : out.Nodup) {q y : Nat} (hq : out[q]? = some y) : y ∉ out.take q := fun hm => by
  obtain ⟨m, hm1, hm2⟩ := mem_take_at hm
  have hql := (List.getElem?_eq_some_iff.1 hq).1
  have := (List.getElem?_inj hql h).1 (hq.trans hm2.symm)
  omega
theorem done_enter {E : List (Nat × Nat)} {out : List Nat} {q y : Nat} (hq : out[q]? = some y) (j : Nat) (hj : j < E.length) : decide ((E.getD j (0, 0)).1 ∈ out.take q) = doneAt E out q (lastI E y E.length) j := by
  unfold doneAt
  rw [hq]
  by_cases hy : (E.getD j (0, 0)).1 = y
  · have hle : ¬ lastI E y E.length < (j : Int) := by
      rcases Int.lt_or_le (lastI E y E.length) 0 with h0 | h0
      · exact absurd hy (lastI_none _ _ _ h0 j hj)
      · obtain ⟨k, hk⟩ := Int.eq_ofNat_of_zero_le h0
        rw [hk]
        obtain ⟨_, _, h3⟩ := lastI_hit _ _ _ k hk
        intro hlt
        exact h3 j (by omega) hj hy
    rw [decide_eq_false hle, Bool.and_false, Bool.or_false]
  · have : ¬ (some y = some (E.getD j (0, 0)).1) := fun e => hy (Option.some.inj e).symm
    rw [decide_eq_false this, Bool.false_and, Bool.or_false]
theorem done_leave {E : List (Nat × Nat)} {out : List Nat} {q y : Nat} {e : Int} (hq : out[q]? = some y) (he : e < 0) (j : Nat) : doneAt E out q e j = decide ((E.getD j (0, 0)).1 ∈ out.take (q + 1)) := by
  unfold doneAt
  rw [hq, List.take_add_one, hq]
  have : e < (j : Int) := by omega
  simp only [this, decide_true, Bool.and_true, Option.toList_some, List.mem_append, List.mem_singleton]
  rw [← Bool.decide_or]
  refine decide_eq_decide.2 ?_
  constructor
  · rintro (h | h)
    · exact .inl h
    · exact .inr (Option.some.inj h).symm
  · rintro (h | h)
    · exact .inl h
    · exact .inr (by rw [h])
/-- the first entry of a line. -/
theorem LayS.enter {l : List Ga} {out : List Nat} {q y : Nat} (h : LayS l out q (fun j => decide (((entsOf l).getD j (0, 0)).1 ∈ out.take q))) (hq : out[q]? = some y) : LayS l out q (doneAt (entsOf l) out q (lastI (entsOf l) y (entsOf l).length)) := h.congr fun j hj => done_enter hq j hj
/-- the next one. -/
theorem done_next {l : List Ga} {out : List Nat} {q y k : Nat} (hnd : out.Nodup) (hq : out[q]? = some y) (hE : ((entsOf l).getD k (0, 0)).1 = y) :
    doneAt (entsOf l) out q k k = false ∧ doneAt (entsOf l) out q (lastI (entsOf l) y k) k = true ∧ ∀ j, j < (entsOf l).length → j ≠ k → doneAt (entsOf l) out q k j = doneAt (entsOf l) out q (lastI (entsOf l) y k) j := by
  have hno := nodup_take hnd hq
  have hl := lastI_lt (entsOf l) y k
  refine ⟨?_, ?_, fun j hj hne => ?_⟩
  · unfold doneAt
    rw [hE]
    simp [hno]
  · unfold doneAt
    rw [hE, hq]
    simp [hl.2]
  · unfold doneAt
    by_cases hy : ((entsOf l).getD j (0, 0)).1 = y
    · have : ((k : Int) < (j : Int)) ↔ (lastI (entsOf l) y k < (j : Int)) := by
        constructor
        · intro h; omega
        · intro h
          rcases Nat.lt_or_ge j k with hjk | hjk
          · exfalso
            rcases Int.lt_or_le (lastI (entsOf l) y k) 0 with h0 | h0
            · exact lastI_none _ _ _ h0 j hjk hy
            · obtain ⟨m, hm⟩ := Int.eq_ofNat_of_zero_le h0
              rw [hm] at h
              exact (lastI_hit _ _ _ m hm).2.2 j (by omega) hjk hy
          · omega
      rw [decide_eq_decide.2 this]
    · have : ¬ (some y = some ((entsOf l).getD j (0, 0)).1) := fun e => hy (Option.some.inj e).symm
      rw [hq, decide_eq_false this, Bool.false_and, Bool.false_and]
/-- all of a line's entries are done. -/
theorem LayS.leave {l : List Ga} {out : List Nat} {q y : Nat} {e : Int} (h : LayS l out q (doneAt (entsOf l) out q e)) (hq : out[q]? = some y) (he : e < 0) : LayS l out (q + 1) (fun j => decide (((entsOf l).getD j (0, 0)).1 ∈ out.take (q + 1))) := by
  have h2 : LayS l out q (fun j => decide (((entsOf l).getD j (0, 0)).1 ∈ out.take (q + 1))) := h.congr fun j _ => done_leave hq he j
  refine ⟨h2.nd, h2.lt, h2.zero, fun j hj hd => ?_, h2.ord⟩
  have := of_decide_eq_true hd
  rw [List.take_add_one]
  exact List.mem_append_left _ this
/-- at first. -/
theorem LayS.start {l : List Ga} {out : List Nat} (hnd : out.Nodup) (ho : ∀ x, x ∈ out ↔ ∃ g, l[x]? = some g ∧ leansOn g = []) : LayS l out 0 (fun j => decide (((entsOf l).getD j (0, 0)).1 ∈ out.take 0)) := by
  refine ⟨hnd, fun x hx => ?_, fun x hx => ?_, fun j hj hd => by simp at hd, fun k x hk y hy => ?_⟩
  · obtain ⟨g, hg, _⟩ := (ho x).1 hx
    exact (List.getElem?_eq_some_iff.1 hg).1
  · rw [ho x]
    constructor
    · rintro ⟨g, hg, h0⟩
      refine cntP_zero.2 fun j hj => ?_
      by_cases h2 : ((entsOf l).getD j (0, 0)).2 = x
      · exfalso
        have hm := getD_mem hj
        rw [show (entsOf l).getD j (0, 0) = (((entsOf l).getD j (0, 0)).1, x) by rw [← h2]] at hm
        obtain ⟨g', a, hg', ha, _⟩ := (ents_mem l _ _).1 hm
        rw [hg] at hg'
        cases hg'
        rw [h0] at ha
        cases ha
      · simp only [h2, decide_false, Bool.false_and]
    · intro h0
      refine ⟨l[x], List.getElem?_eq_getElem hx, ?_⟩
      cases hl : leansOn l[x] with
      | nil => rfl
      | cons a r =>
        exfalso
        have hm : (a.toNat, x) ∈ entsOf l := (ents_mem l _ _).2 ⟨l[x], a, List.getElem?_eq_getElem hx, by rw [hl]; simp, rfl⟩
        obtain ⟨j, hj, ej⟩ := List.getElem_of_mem hm
        have eg : (entsOf l).getD j (0, 0) = (a.toNat, x) := by rw [List.getD_eq_getElem?_getD, List.getElem?_eq_getElem hj, ej]; rfl
        have := cntP_zero.1 h0 j hj
        simp only [eg, decide_true, Bool.true_and, List.take_zero, List.not_mem_nil, decide_false, Bool.not_false] at this
        cases this
  · exfalso
    obtain ⟨g, hg, h0⟩ := (ho x).1 (List.mem_of_getElem? hk)
    obtain ⟨g', a, hg', ha, _⟩ := (ents_mem l _ _).1 hy
    rw [hg] at hg'
    cases hg'
    rw [h0] at ha
    cases ha
end PureNet
/-
  Rows of numbers by functions; the entries of a circuit's lines, one by one.
-/
namespace PureNet
set_option maxRecDepth 100000

theorem ents_prefix (l : List Ga) : ∀ i, i ≤ l.length → entsOf (l.take i) <+: entsOf l := by
  intro i hi
  obtain ⟨d, hd⟩ : ∃ d, d = l.length - i := ⟨_, rfl⟩
  induction d generalizing i with
  | zero => rw [show i = l.length by omega, List.take_length]; exact List.prefix_refl _
  | succ d ih =>
    have hg : l[i]? = some l[i] := List.getElem?_eq_getElem (by omega)
    have h1 := ih (i + 1) (by omega) (by omega)
    rw [ents_take l i _ hg] at h1
    exact List.IsPrefix.trans (List.prefix_append _ _) h1
theorem ents_at (l : List Ga) (i k : Nat) (g : Ga) (a : Int) (hg : l[i]? = some g) (ha : (leansOn g)[k]? = some a) : (entsOf l).getD ((entsOf (l.take i)).length + k) (0, 0) = (a.toNat, i) ∧ (entsOf (l.take i)).length + k < (entsOf l).length := by
  have hi := (List.getElem?_eq_some_iff.1 hg).1
  have hk := (List.getElem?_eq_some_iff.1 ha).1
  obtain ⟨t, ht⟩ := ents_prefix l (i + 1) (by omega)
  have h1 : (entsOf l)[(entsOf (l.take i)).length + k]? = some (a.toNat, i) := by
    rw [← ht, ents_take l i g hg, List.append_assoc, List.getElem?_append_right (by omega), Nat.add_sub_cancel_left, List.getElem?_append_left (by simpa using hk)]
    simp [ha]
  refine ⟨by rw [List.getD_eq_getElem?_getD, h1]; rfl, (List.getElem?_eq_some_iff.1 h1).1⟩
theorem cntP_run {p : Nat → Bool} {m : Nat} {b : Bool} : ∀ t, (∀ k, k < t → p (m + k) = b) → cntP p (m + t) = cntP p m + (if b = true then t else 0) := by
  intro t
  induction t with
  | zero => intro _; split <;> rfl
  | succ t ih =>
    intro h
    rw [← Nat.add_assoc, cntP_succ, ih (fun k hk => h k (by omega)), h t (by omega)]
    cases b <;> simp
    omega
/-- how many operands a line has. -/
theorem ents_count (l : List Ga) (x : Nat) : ∀ i, i ≤ l.length → cntP (fun j => decide (((entsOf l).getD j (0, 0)).2 = x)) (entsOf (l.take i)).length = if x < i then (leansOn (l.getD x ⟨0, default, 0, 0, 0, 0⟩)).length else 0 := by
  intro i
  induction i with
  | zero => intro _; simp [entsOf, cntP]
  | succ i ih =>
    intro h
    have hg : l[i]? = some l[i] := List.getElem?_eq_getElem (by omega)
    have hlen : (entsOf (l.take (i + 1))).length = (entsOf (l.take i)).length + (leansOn l[i]).length := by rw [ents_take l i _ hg, List.length_append, List.length_map]
    rw [hlen, cntP_run (b := decide (i = x)) _ (fun k hk => by
      have := (ents_at l i k _ _ hg (List.getElem?_eq_getElem hk)).1
      simp only [this]), ih (by omega)]
    by_cases hx : i = x
    · subst hx
      have : l.getD i ⟨0, default, 0, 0, 0, 0⟩ = l[i] := by rw [List.getD_eq_getElem?_getD, hg]; rfl
      rw [if_neg (by omega), if_pos (by simp), if_pos (by omega), this]
      omega
    · by_cases hlt : x < i
      · rw [if_pos hlt, if_neg (by simp [hx]), if_pos (by omega)]
        omega
      · rw [if_neg hlt, if_neg (by simp [hx]), if_neg (by omega)]
theorem waits_first (l : List Ga) (out : List Nat) (x : Nat) (g : Ga) (hg : l[x]? = some g) : waits (entsOf l) (fun j => decide (((entsOf l).getD j (0, 0)).1 ∈ out.take 0)) x = (leansOn g).length := by
  have hx := (List.getElem?_eq_some_iff.1 hg).1
  have h := ents_count l x l.length (Nat.le_refl _)
  rw [List.take_length, if_pos hx] at h
  rw [show l.getD x ⟨0, default, 0, 0, 0, 0⟩ = g by rw [List.getD_eq_getElem?_getD, hg]; rfl] at h
  rw [← h]
  unfold waits
  refine cntP_congr fun j hj => ?_
  simp
end PureNet

namespace Go.Proofs.YtfmmmhcpdinhgaaDoor
open Go.RowKit Go.Deep PureNet ShfKit

/-- a row of numbers. -/
def rowF (n : Nat) (f : Nat → Int) : List Value := (List.range n).map fun x => .int .i64 (f x)
theorem rowF_len (n : Nat) (f : Nat → Int) : (rowF n f).length = n := by simp [rowF]
theorem rowF_at (n : Nat) (f : Nat → Int) (j : Nat) (h : j < n) : (rowF n f)[j]? = some (.int .i64 (f j)) := by simp [rowF, h]
theorem rowF_congr {n : Nat} {f g : Nat → Int} (h : ∀ j, j < n → f j = g j) : rowF n f = rowF n g := by
  unfold rowF
  refine List.map_congr_left fun x hx => ?_
  rw [h x (by simpa using hx)]
theorem rowF_set (n : Nat) (f : Nat → Int) (j : Nat) (u : Int) : (rowF n f).set j (.int .i64 u) = rowF n (fun x => if x = j then u else f x) := by
  apply List.ext_getElem?
  intro k
  rw [List.getElem?_set]
  by_cases hk : k < n
  · rw [rowF_at n _ k hk, rowF_at n _ k hk]
    by_cases hj : j = k
    · subst hj
      rw [if_pos rfl, if_pos (by rw [rowF_len]; exact hk), if_pos rfl]
    · rw [if_neg hj, if_neg (fun e => hj e.symm)]
  · have h1 : (rowF n f)[k]? = none := List.getElem?_eq_none (by rw [rowF_len]; omega)
    have h2 : (rowF n (fun x => if x = j then u else f x))[k]? = none := List.getElem?_eq_none (by rw [rowF_len]; omega)
    rw [h1, h2]
    split
    · rw [if_neg (by rw [rowF_len]; omega)]
    · rfl
theorem rowF_snoc (n : Nat) (f : Nat → Int) (u : Int) (g : Nat → Int) (h : ∀ j, j < n → f j = g j) (hu : g n = u) : rowF n f ++ [.int .i64 u] = rowF (n + 1) g := by
  rw [rowF_congr h]
  unfold rowF
  rw [List.range_succ, List.map_append, ← hu]
  rfl
/-- append of a number to one of several rows. -/
theorem fam_app {ops : Array Oper} {rest : List Oper} {o : Oper} {a : Act} {Q : Exit → Act → World → Prop} {w W : World} {L : List Rw} (hgd : o.guard = none) (sl y : Operand)
    (ho : o.op = .call { callee := .builtin .append, args := #[sl, y], argTypes := #[22, 22] }) (hF : Fam W w.heap.size 3 1 L) (hB : Below w.heap.size w W) (i : Nat) (x : Rw) (hx : L[i]? = some x) (u : Int) (t : TypeId) (ad : Nat) (had : ad = W.heap.size)
    (hs : a.eval sl = x.1) (hy : a.eval y = .slice (some ⟨ad, 0, none⟩) 1 1) (hn : x.2.1 ≤ 1099511627776)
    (hK : ∀ sx cx w', Fam w' w.heap.size 3 1 (L.set i (.slice sx (x.2.1 + 1) cx, x.2.1 + 1, x.2.2 ++ [.int .i64 u])) → Below w.heap.size w w' → (∀ (k : Nat) (cs : Array Value) (tt : Nat) (fz : Nat × Nat), W.heap[k]? = some (Obj.cells cs tt fz) → tt ≠ 3 → w'.heap[k]? = some (Obj.cells cs tt fz)) → wpList Tryd.prog ops Q rest (a.put o.dst (.slice sx (x.2.1 + 1) cx)) w') :
    wpList Tryd.prog ops Q (o :: rest) a (W.alloc (.cells #[.int .i64 u] t)) := by
  subst had
  obtain ⟨ii, hi, hz0, hz1, hz2⟩ := info_parts info3
  have hb2 : Below W.heap.size W (W.alloc (.cells #[.int .i64 u] t)) := (Below.refl _ _).alloc (Nat.le_refl _) _
  have hF2 := hF.below hb2
  have hB2 : Below w.heap.size w (W.alloc (.cells #[.int .i64 u] t)) := hB.trans (hb2.mono hB.size)
  have hown := hF2.own i x hx
  refine wpList_append_far (P := Tryd.prog) (W.alloc (.cells #[.int .i64 u] t)) hgd sl y 22 ho w.heap.size 3 ii (.int .i64 0) 1 8 Tryd.underlying22 hi hz0 hz1 hz2 rfl (by decide) x.1 x.2.1 x.2.2 hs hown ⟨W.heap.size, 0, none⟩ 1 1 [.int .i64 u] hy rfl (fun j v hv => by
      rw [add_zero_addr, cell_row (heap_alloc_new W _)]
      simpa using hv) (fun v hv => by simp at hv; subst hv; rfl) (by unfold maxLen; omega) (by omega) hB2.size ?_
  intro v' w' o1 hf
  obtain ⟨sx, cx, rfl⟩ := own_shape o1
  have hgr : (∃ g, (W.alloc (.cells #[.int .i64 u] t)).grownBy w' g ∧ ∀ k, g = some k → x.1.ownBlock = some k) := by
    rcases hf with ⟨_, hg⟩ | ⟨_, hg⟩
    · exact ⟨_, hg, fun k e => e⟩
    · exact ⟨none, hg, fun k e => by cases e⟩
  obtain ⟨g, hg, hgx⟩ := hgr
  refine hK sx cx w' (hF2.turn (y := (.slice sx (x.2.1 + 1) cx, x.2.1 + 1, x.2.2 ++ [.int .i64 u])) hx o1 hf) (hB2.grown hg hB2.size (fun k e => (own_block hown (hgx k e)).1)) (fun k cs tt fz hk htt => ?_)
  have h1 : (W.alloc (.cells #[.int .i64 u] t)).heap[k]? = some (Obj.cells cs tt fz) := (hb2.block k (Array.getElem?_eq_some_iff.1 hk).1).trans hk
  refine (hg.block k (Array.getElem?_eq_some_iff.1 h1).1 (fun e => ?_)).trans h1
  exact own_ne hown h1 htt (hgx k e.symm)
end Go.Proofs.YtfmmmhcpdinhgaaDoor
