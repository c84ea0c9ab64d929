/-
  Places changed by swaps, and the circuit that is laid by them.
-/
import Derived.Test.YtfmmmhcpdinhgaaDoorShuf
namespace PureNet
set_option maxRecDepth 100000

def swp (x y i : Nat) : Nat := if i = y then x else if i = x then y else i
theorem swp_inj {x y i j : Nat} (h : swp x y i = swp x y j) : i = j := by
  unfold swp at h
  split at h <;> split at h <;> (try split at h) <;> (try split at h) <;> omega
theorem swp_back (x y i : Nat) : swp x y (swp x y i) = i := by
  unfold swp
  split <;> (try split) <;> (try split) <;> (try split) <;> omega
theorem set_swp {P : List Nat} {x y a b : Nat} (hx : P[x]? = some a) (hy : P[y]? = some b) (i : Nat) : ((P.set x b).set y a)[i]? = P[swp x y i]? := by
  have hxl := (List.getElem?_eq_some_iff.1 hx).1
  have hyl := (List.getElem?_eq_some_iff.1 hy).1
  unfold swp
  by_cases h1 : i = y
  · subst h1
    rw [if_pos rfl, List.getElem?_set_self (by simpa using hyl), hx]
  · rw [if_neg h1, List.getElem?_set_ne (fun e => h1 e.symm)]
    by_cases h2 : i = x
    · subst h2
      rw [if_pos rfl, List.getElem?_set_self hxl, hy]
    · rw [if_neg h2, List.getElem?_set_ne (fun e => h2 e.symm)]
/-- the places of lines: gates and multiplexers have changed theirs. -/
structure PermS (l : List Ga) (P : List Nat) : Prop where
  len : P.length = l.length
  lt : ∀ (i a : Nat), P[i]? = some a → a < l.length
  inj : ∀ (i j a : Nat), P[i]? = some a → P[j]? = some a → i = j
  sur : ∀ (j : Nat), j < l.length → ∃ i : Nat, P[i]? = some j
  fix : ∀ (i : Nat) (g : Ga), l[i]? = some g → (g.kind = 1 ∨ g.kind = 3) → P[i]? = some i
theorem PermS.first (l : List Ga) : PermS l (List.range l.length) where
  len := by simp
  lt := fun i a h => by
    obtain ⟨h1, h2⟩ := List.getElem?_eq_some_iff.1 h
    simp at h1 h2
    omega
  inj := fun i j a h k => by
    obtain ⟨h1, h2⟩ := List.getElem?_eq_some_iff.1 h
    obtain ⟨k1, k2⟩ := List.getElem?_eq_some_iff.1 k
    simp at h2 k2
    omega
  sur := fun j hj => ⟨j, by rw [List.getElem?_range hj]⟩
  fix := fun i g hg _ => by rw [List.getElem?_range (List.getElem?_eq_some_iff.1 hg).1]
theorem PermS.swap {l : List Ga} {P : List Nat} (h : PermS l P) {x y a b : Nat} (hx : P[x]? = some a) (hy : P[y]? = some b)
    (fx : ∀ g, l[x]? = some g → ¬ (g.kind = 1 ∨ g.kind = 3)) (fy : ∀ g, l[y]? = some g → ¬ (g.kind = 1 ∨ g.kind = 3)) : PermS l ((P.set x b).set y a) where
  len := by simp [h.len]
  lt := fun i c hc => by rw [set_swp hx hy] at hc; exact h.lt _ _ hc
  inj := fun i j c hi hj => by
    rw [set_swp hx hy] at hi hj
    exact swp_inj (h.inj _ _ _ hi hj)
  sur := fun j hj => by
    obtain ⟨i, hi⟩ := h.sur j hj
    exact ⟨swp x y i, by rw [set_swp hx hy, swp_back]; exact hi⟩
  fix := fun i g hg hk => by
    rw [set_swp hx hy]
    have hiy : i ≠ y := fun e => fy g (e ▸ hg) hk
    have hix : i ≠ x := fun e => fx g (e ▸ hg) hk
    rw [swp, if_neg hiy, if_neg hix]
    exact h.fix i g hg hk

/-- what has been laid of the lines so far. -/
structure Laid (c : Net) (P : List Nat) (D : List Ga) (k : Nat) : Prop where
  len : D.length = c.gates.length
  at_ : ∀ (i : Nat) (g : Ga) (a : Nat), i < k → c.gates[i]? = some g → P[i]? = some a → D[a]? = some (ren (fun q => P.getD q 0) g)
theorem Laid.next {c : Net} {P : List Nat} {D : List Ga} {k : Nat} (hp : PermS c.gates P) (h : Laid c P D k) {g : Ga} {a : Nat} (hg : c.gates[k]? = some g) (ha : P[k]? = some a) : Laid c P (D.set a (ren (fun q => P.getD q 0) g)) (k + 1) where
  len := by simp [h.len]
  at_ := fun i g' a' hi hg' ha' => by
    by_cases e : i = k
    · subst e
      rw [hg] at hg'
      rw [ha] at ha'
      cases hg'
      cases ha'
      exact List.getElem?_set_self (by have := hp.lt _ _ ha; rw [h.len]; exact this)
    · have hne : a ≠ a' := fun x => e (hp.inj i k a' ha' (x ▸ ha))
      rw [List.getElem?_set_ne hne]
      exact h.at_ i g' a' (by omega) hg' ha'
theorem Laid.shuf {c : Net} {P : List Nat} {D : List Ga} (hp : PermS c.gates P) (h : Laid c P D c.gates.length) : Shuf c ⟨c.name, D, c.outs.map fun o => ((P.getD o.toNat 0 : Nat) : Int)⟩ (fun q => P.getD q 0) where
  name := rfl
  len := h.len
  lt := fun i hi => by
    have e : P[i]? = some (P[i]'(by rw [hp.len]; exact hi)) := List.getElem?_eq_getElem _
    show P.getD i 0 < _
    rw [List.getD_eq_getElem?_getD, e]
    exact hp.lt i _ e
  inj := fun i j hi hj he => by
    have ei : P[i]? = some (P[i]'(by rw [hp.len]; exact hi)) := List.getElem?_eq_getElem _
    have ej : P[j]? = some (P[j]'(by rw [hp.len]; exact hj)) := List.getElem?_eq_getElem _
    simp only [List.getD_eq_getElem?_getD, ei, ej, Option.getD_some] at he
    rw [he] at ei
    exact hp.inj i j _ ei ej
  sur := fun j hj => by
    obtain ⟨i, hi⟩ := hp.sur j hj
    refine ⟨i, ?_, ?_⟩
    · have := (List.getElem?_eq_some_iff.1 hi).1
      rw [hp.len] at this
      exact this
    · show P.getD i 0 = j
      rw [List.getD_eq_getElem?_getD, hi]
      rfl
  fix := fun i g hg hk => by
    show P.getD i 0 = i
    rw [List.getD_eq_getElem?_getD, hp.fix i g hg hk]
    rfl
  gate := fun i g hg => by
    have hi := (List.getElem?_eq_some_iff.1 hg).1
    have ei : P[i]? = some (P[i]'(by rw [hp.len]; exact hi)) := List.getElem?_eq_getElem _
    show D[P.getD i 0]? = _
    rw [List.getD_eq_getElem?_getD, ei]
    exact h.at_ i g _ hi hg ei
  outs := rfl
end PureNet
