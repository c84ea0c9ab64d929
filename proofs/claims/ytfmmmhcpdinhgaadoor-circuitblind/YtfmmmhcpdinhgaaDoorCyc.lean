/-
  Circles: where each line of a set leans on one of it, one of it is in a circle.
-/
import Derived.Test.YtfmmmhcpdinhgaaDoorLiv
namespace PureNet
set_option maxRecDepth 100000

theorem holes (n : Nat) : ∀ f : Nat → Nat, (∀ k, k ≤ n → f k < n) → ∃ a b, a < b ∧ b ≤ n ∧ f a = f b := by
  induction n with
  | zero => intro f h; have := h 0 (Nat.le_refl _); omega
  | succ n ih =>
    intro f h
    by_cases hx : ∃ k, k ≤ n ∧ f k = f (n + 1)
    · obtain ⟨k, hk, e⟩ := hx
      exact ⟨k, n + 1, by omega, Nat.le_refl _, e⟩
    · have hne : ∀ k, k ≤ n → f k ≠ f (n + 1) := fun k hk e => hx ⟨k, hk, e⟩
      obtain ⟨a, b, hab, hb, e⟩ := ih (fun k => if f k = n then f (n + 1) else f k) (fun k hk => by
        have h1 := h k (by omega)
        have h2 := h (n + 1) (Nat.le_refl _)
        have h3 := hne k hk
        show (if f k = n then f (n + 1) else f k) < n
        split <;> omega)
      refine ⟨a, b, hab, by omega, ?_⟩
      have ha := hne a (by omega)
      have hb' := hne b hb
      have e2 : (if f a = n then f (n + 1) else f a) = (if f b = n then f (n + 1) else f b) := e
      split at e2 <;> split at e2 <;> omega
theorem circle_of {l : List Ga} (S : Nat → Prop) (hS : ∀ i, S i → i < l.length ∧ ∃ j, Leans l i j ∧ S j) {i : Nat} (hi : S i) : ∃ k, S k ∧ Way l k k := by
  have nx : ∀ x : { i // S i }, ∃ y : { i // S i }, Leans l x.1 y.1 := fun x => by
    obtain ⟨_, j, h1, h2⟩ := hS x.1 x.2
    exact ⟨⟨j, h2⟩, h1⟩
  obtain ⟨g, hg⟩ : ∃ g : { i // S i } → { i // S i }, ∀ x, Leans l x.1 (g x).1 := ⟨fun x => Classical.choose (nx x), fun x => Classical.choose_spec (nx x)⟩
  let f : Nat → { i // S i } := fun k => Nat.rec ⟨i, hi⟩ (fun _ x => g x) k
  have hstep : ∀ k, Leans l (f k).1 (f (k + 1)).1 := fun k => hg (f k)
  have hway : ∀ a d, Way l (f a).1 (f (a + d + 1)).1 := fun a d => by
    induction d with
    | zero => exact .one (hstep a)
    | succ d ih => exact way_snoc ih (hstep (a + d + 1))
  obtain ⟨a, b, hab, _, e⟩ := holes l.length (fun k => (f k).1) (fun k _ => (hS _ (f k).2).1)
  have hw := hway a (b - a - 1)
  rw [show a + (b - a - 1) + 1 = b by omega] at hw
  refine ⟨(f a).1, (f a).2, ?_⟩
  have e2 : (f a).1 = (f b).1 := e
  rw [← e2] at hw
  exact hw
/-- an order in which each line stands behind those on which it leans. -/
theorem free_of_order {l : List Ga} {out : List Nat} (hall : ∀ i, i < l.length → i ∈ out) (hnd : out.Nodup) (hord : ∀ (k i : Nat), out[k]? = some i → ∀ j, Leans l i j → ∃ m, m < k ∧ out[m]? = some j) : Ranked l (fun i => out.findIdx fun x => decide (x = i)) := by
  intro i j hl
  have hi := leans_lt hl
  obtain ⟨k, hk, he⟩ := List.getElem_of_mem (hall i hi)
  have hki : out[k]? = some i := by rw [List.getElem?_eq_getElem hk, he]
  obtain ⟨m, hm, hmj⟩ := hord k i hki j hl
  have idx : ∀ (q x : Nat), out[q]? = some x → (out.findIdx fun y => decide (y = x)) = q := fun q x hq => by
    have hql := (List.getElem?_eq_some_iff.1 hq).1
    have hqv := (List.getElem?_eq_some_iff.1 hq).2
    rw [List.findIdx_eq hql]
    refine ⟨by simpa using hqv, fun r hr => ?_⟩
    simp only [decide_eq_false_iff_not]
    intro e
    have hrq : out[r]? = out[q]? := by rw [hq, List.getElem?_eq_getElem (by omega), e]
    have := (List.getElem?_inj (by omega) hnd).1 hrq
    omega
  show (out.findIdx fun y => decide (y = j)) < (out.findIdx fun y => decide (y = i))
  rw [idx m j hmj, idx k i hki]
  exact hm
theorem filter_le {α : Type} (p q : α → Bool) : ∀ (l : List α), (∀ x ∈ l, p x = true → q x = true) → (l.filter p).length ≤ (l.filter q).length := by
  intro l
  induction l with
  | nil => intro _; simp
  | cons x r ih =>
    intro h
    have hr := ih (fun y hy => h y (List.mem_cons_of_mem _ hy))
    have hx := h x (by simp)
    cases hp : p x with
    | true => simp [hp, hx hp]; exact hr
    | false => cases hq : q x <;> simp [hp, hq] <;> omega
theorem filter_lt {α : Type} (p q : α → Bool) : ∀ (l : List α), (∀ x ∈ l, p x = true → q x = true) → (∃ x ∈ l, q x = true ∧ p x = false) → (l.filter p).length < (l.filter q).length := by
  intro l
  induction l with
  | nil => rintro _ ⟨x, hx, _⟩; cases hx
  | cons x r ih =>
    rintro h ⟨y, hy, hq, hp⟩
    have hle := filter_le p q r (fun z hz => h z (List.mem_cons_of_mem _ hz))
    rcases List.mem_cons.1 hy with rfl | hy
    · simp [hq, hp]; omega
    · have hr := ih (fun z hz => h z (List.mem_cons_of_mem _ hz)) ⟨y, hy, hq, hp⟩
      have hx := h x (by simp)
      cases hp2 : p x with
      | true => simp [hp2, hx hp2]; exact hr
      | false => cases hq2 : q x <;> simp [hp2, hq2] <;> omega
open Classical in
/-- without circles there is an order. -/
theorem ranked_of_free {l : List Ga} (hl : ∀ (i : Nat) (g : Ga), l[i]? = some g → lineB g l.length = true) (hf : ∀ i, ¬ Way l i i) : ∃ r, Ranked l r := by
  refine ⟨fun i => ((List.range l.length).filter fun x => decide (Way l i x)).length, fun i j h => ?_⟩
  have hj : j < l.length := by
    obtain ⟨g, hg, hm⟩ := h
    have := lineB_leans (hl i g hg) hm
    omega
  refine filter_lt _ _ _ (fun x _ hx => ?_) ⟨j, by simpa using hj, ?_, ?_⟩
  · simp only [decide_eq_true_eq] at hx ⊢
    exact .more h hx
  · simp only [decide_eq_true_eq]
    exact .one h
  · simp only [decide_eq_false_iff_not]
    exact hf j
/-- the values of a formed circuit are just these. -/
theorem Formed.unique {c : Net} (h : Formed c) {ins las v v' : List Bool} (hv : Vals c.gates ins las v) (hv' : Vals c.gates ins las v') : v = v' := by
  obtain ⟨r, hr⟩ := ranked_of_free (fun i g hg => (h.lines i g hg).2) h.free
  exact vals_unique hr (fun i g hg => (h.lines i g hg).2) hv hv'
theorem Formed.run_unique {c : Net} (h : Formed c) {is : List (List Bool)} : ∀ {las : List Bool} {os os' : List (List Bool)}, RunP c las is os → RunP c las is os' → os = os' := by
  induction is with
  | nil =>
    intro las os os' h1 h2
    obtain rfl := h1
    obtain rfl := h2
    rfl
  | cons i is ih =>
    intro las os os' h1 h2
    obtain ⟨v1, o1, rfl, a1, r1⟩ := h1
    obtain ⟨v2, o2, rfl, a2, r2⟩ := h2
    obtain rfl := h.unique a1 a2
    rw [ih r1 r2]
end PureNet
