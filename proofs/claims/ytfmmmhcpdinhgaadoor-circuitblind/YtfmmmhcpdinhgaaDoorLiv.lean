/-
  Lines that bear on something: marks, and the rest turned.
-/
import Derived.Test.YtfmmmhcpdinhgaaDoorShuf
namespace PureNet
set_option maxRecDepth 100000

theorem way_snoc {l : List Ga} {i j k : Nat} (h : Way l i j) (h2 : Leans l j k) : Way l i k := by
  induction h using PureNet.Way.ind with
  | one h1 => exact .more h1 (.one h2)
  | more h1 _ ih => exact .more h1 (ih h2)
/-- just the cones of these are marked. -/
structure MarkedBy (l : List Ga) (M : List Bool) (R : List Nat) : Prop where
  len : M.length = l.length
  at_ : ∀ x : Nat, M[x]? = some true ↔ (x < l.length ∧ ∃ p ∈ R, x = p ∨ Way l p x)
theorem MarkedBy.first (l : List Ga) : MarkedBy l (List.replicate l.length false) [] := ⟨by simp, fun x => by
  simp [List.getElem?_replicate]⟩
theorem MarkedBy.next {l : List Ga} {M M' : List Bool} {R : List Nat} (h : MarkedBy l M R) (p : Nat) (hl : M'.length = M.length) (ha : ∀ x : Nat, M'[x]? = some true ↔ (M[x]? = some true ∨ ((x = p ∨ Way l p x) ∧ x < M.length))) : MarkedBy l M' (R ++ [p]) := ⟨by rw [hl, h.len], fun x => by
  rw [ha x, h.at_ x, h.len]
  constructor
  · rintro (⟨h1, q, hq, h2⟩ | ⟨h1, h2⟩)
    · exact ⟨h1, q, by simp [hq], h2⟩
    · exact ⟨h2, p, by simp, h1⟩
  · rintro ⟨h1, q, hq, h2⟩
    rcases List.mem_append.1 hq with hq | hq
    · exact .inl ⟨h1, q, hq, h2⟩
    · obtain rfl : q = p := by simpa using hq
      exact .inr ⟨h2, h1⟩⟩
/-- the first k lines turned where they are not marked. -/
structure Turned (G : List Ga) (M : List Bool) (G' : List Ga) (k : Nat) : Prop where
  len : G'.length = G.length
  at_ : ∀ (i : Nat) (g : Ga), G[i]? = some g → G'[i]? = some { g with op := if i < k ∧ M[i]? ≠ some true ∧ g.kind = 2 then 15 - g.op else g.op }
theorem Turned.first (G : List Ga) (M : List Bool) : Turned G M G 0 := ⟨rfl, fun i g hg => by rw [hg]; simp⟩
theorem Turned.stay {G G' : List Ga} {M : List Bool} {k : Nat} (h : Turned G M G' k) (hk : ∀ g, G[k]? = some g → ¬ (M[k]? ≠ some true ∧ g.kind = 2)) : Turned G M G' (k + 1) := ⟨h.len, fun i g hg => by
  rw [h.at_ i g hg]
  by_cases e : i = k
  · subst e
    have := hk g hg
    rw [if_neg (by omega), if_neg (by rintro ⟨_, h2⟩; exact this h2)]
  · by_cases e2 : i < k
    · simp only [show i < k + 1 by omega, e2]
    · simp only [show ¬ i < k + 1 by omega, e2]⟩
theorem Turned.turn {G G' : List Ga} {M : List Bool} {k : Nat} {g : Ga} (h : Turned G M G' k) (hg : G[k]? = some g) (hM : M[k]? ≠ some true) (h2 : g.kind = 2) : Turned G M (G'.set k { g with op := 15 - g.op }) (k + 1) := ⟨by rw [List.length_set]; exact h.len, fun i g' hg' => by
  have hk := (List.getElem?_eq_some_iff.1 hg).1
  by_cases e : i = k
  · subst e
    rw [hg] at hg'
    cases hg'
    rw [List.getElem?_set_self (by rw [h.len]; exact hk), if_pos ⟨by omega, hM, h2⟩]
  · rw [List.getElem?_set_ne (fun x => e x.symm), h.at_ i g' hg']
    by_cases e2 : i < k
    · simp only [show i < k + 1 by omega, e2]
    · simp only [show ¬ i < k + 1 by omega, e2]⟩
theorem Turned.made {c : Net} {M : List Bool} {G' : List Ga} (hm : Made c) (h : Turned c.gates M G' c.gates.length) : Made ⟨c.name, G', c.outs⟩ where
  name := hm.name
  pos := by show 0 < G'.length; rw [h.len]; exact hm.pos
  few := by show G'.length ≤ 200; rw [h.len]; exact hm.few
  lines := fun i g' hg' => by
    have hi : i < c.gates.length := by rw [← h.len]; exact (List.getElem?_eq_some_iff.1 hg').1
    have hg : c.gates[i]? = some c.gates[i] := List.getElem?_eq_getElem hi
    have ht := h.at_ i _ hg
    have hg2 : G'[i]? = some g' := hg'
    rw [hg2] at ht
    obtain rfl := Option.some.inj ht
    have hl := hm.lines i _ hg
    refine ⟨hl.name, ?_⟩
    rcases hl.form with ⟨e, h1, h2, h3, h4⟩ | ⟨e, h1, h2, h3, h4, h5, h6⟩ | ⟨e, h1, h2, h3, h4, h5, h6, h7⟩ | ⟨e, h1, h2, h3, h4, h5, h6, h7⟩
    · left; simp only [e]; refine ⟨trivial, ?_, h2, h3, h4⟩; rw [if_neg (by omega)]; exact h1
    · right; left; simp only [e]; refine ⟨trivial, ?_, ?_, h3, h4, h5, h6⟩ <;> rw [if_neg (by omega)] <;> assumption
    · right; right; left; simp only [e]; refine ⟨trivial, ?_, h2, h3, h4, h5, h6, h7⟩; rw [if_neg (by omega)]; exact h1
    · right; right; right; simp only [e]
      refine ⟨trivial, ?_, ?_, h3, h4, h5, h6, h7⟩
      · split <;> omega
      · split <;> omega
  fewOuts := hm.fewOuts
  outs := fun o ho => by show 0 ≤ o ∧ o < (G'.length : Int); rw [h.len]; exact hm.outs o ho
theorem Turned.dead {c : Net} {M : List Bool} {R : List Nat} {G' : List Ga} (hk : MarkedBy c.gates M R) (h : Turned c.gates M G' c.gates.length) (ho : ∀ o ∈ c.outs, 0 ≤ o ∧ o < (c.gates.length : Int)) (hl : ∀ (i : Nat) (g : Ga), c.gates[i]? = some g → lineB g c.gates.length = true)
    (h1 : ∀ o ∈ c.outs, o.toNat ∈ R) (h2 : ∀ (i : Nat) (g : Ga), c.gates[i]? = some g → g.kind = 3 → g.a.toNat ∈ R) : Dead c ⟨c.name, G', c.outs⟩ (fun i => M[i]? = some true) where
  outs := rfl
  len := h.len
  gate := fun i g hg => ⟨_, h.at_ i g hg, fun hx => by
    rw [if_neg]
    rintro ⟨_, h3, h4⟩
    rcases hx with hx | hx
    · exact h3 hx
    · exact hx h4⟩
  goes := fun o hm => (hk.at_ _).2 ⟨by have := ho o hm; omega, _, h1 o hm, .inl rfl⟩
  keeps := fun i g hg h3 => (hk.at_ _).2 ⟨by
    have hln := hl i g hg
    simp only [lineB, Bool.and_eq_true, decide_eq_true_eq, fieldB, h3] at hln
    have ha : 0 ≤ g.a ∧ g.a < (c.gates.length : Int) := by simpa using hln.1.1.2
    omega, _, h2 i g hg h3, .inl rfl⟩
  on := fun i j hi hlj => by
    obtain ⟨hlt, p, hp, hw⟩ := (hk.at_ i).1 hi
    refine (hk.at_ j).2 ⟨?_, p, hp, .inr ?_⟩
    · obtain ⟨g, hg, hm⟩ := hlj
      have := lineB_leans (hl i g hg) hm
      omega
    · rcases hw with rfl | hw
      · exact .one hlj
      · exact way_snoc hw hlj
end PureNet
