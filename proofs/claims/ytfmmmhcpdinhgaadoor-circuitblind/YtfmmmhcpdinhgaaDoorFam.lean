/-
  Several rows of one type, each in a block of its own. For any program.
-/
import Derived.Test.YtfmmmhcpdinhgaaDoorShf
namespace ShfKit
open Go Go.RowKit
set_option maxRecDepth 100000

abbrev Rw := Value × Nat × List Value
/-- rows, each in a block of its own. -/
structure Fam (W : World) (B e size : Nat) (L : List Rw) : Prop where
  own : ∀ (i : Nat) (x : Rw), L[i]? = some x → W.ownsRow B e size x.1 x.2.1 x.2.2
  apart : ∀ (i j : Nat) (x y : Rw) (g : Nat), L[i]? = some x → L[j]? = some y → i ≠ j → x.1.ownBlock = some g → y.1.ownBlock ≠ some g

section
variable {P : Program} {W W' : World} {B e size : Nat} {L : List Rw}
theorem Fam.nil (W : World) (B e size : Nat) : Fam W B e size [] := ⟨fun i x h => by simp at h, fun i j x y g h => by simp at h⟩
theorem Fam.kept (h : Fam W B e size L) (hk : ∀ g, B ≤ g → g < W.heap.size → W'.heap[g]? = W.heap[g]?) : Fam W' B e size L :=
  ⟨fun i x hx => own_kept (h.own i x hx) fun g hg => hk g (own_block (h.own i x hx) hg).1 (own_block (h.own i x hx) hg).2, h.apart⟩
theorem Fam.below (h : Fam W B e size L) (hb : Below W.heap.size W W') : Fam W' B e size L := h.kept fun g _ hg => hb.block g hg
/-- one of them has become another, and only its own block has turned, or new ones have come. -/
theorem Fam.turn (h : Fam W B e size L) {i : Nat} {x y : Rw} (hx : L[i]? = some x) (ho : W'.ownsRow B e size y.1 y.2.1 y.2.2)
    (hf : (y.1.ownBlock = x.1.ownBlock ∧ W.grownBy W' x.1.ownBlock) ∨ ((∀ g, y.1.ownBlock = some g → W.heap.size ≤ g) ∧ W.grownBy W' none)) : Fam W' B e size (L.set i y) := by
  have hi := (List.getElem?_eq_some_iff.1 hx).1
  have old : ∀ (j : Nat) (z : Rw), j ≠ i → L[j]? = some z → W'.ownsRow B e size z.1 z.2.1 z.2.2 := fun j z hj hz => by
    refine own_kept (h.own j z hz) fun g hg => ?_
    have hlt := (own_block (h.own j z hz) hg).2
    rcases hf with ⟨_, hgr⟩ | ⟨_, hgr⟩
    · exact hgr.block g hlt (fun e => h.apart j i z x g hz hx hj hg e.symm)
    · exact hgr.block g hlt (fun e => by cases e)
  have new : ∀ (j : Nat) (z : Rw) (g : Nat), j ≠ i → L[j]? = some z → z.1.ownBlock = some g → y.1.ownBlock ≠ some g := fun j z g hj hz hg hy => by
    rcases hf with ⟨he, _⟩ | ⟨hn, _⟩
    · rw [he] at hy
      exact h.apart j i z x g hz hx hj hg hy
    · have := hn g hy
      have := (own_block (h.own j z hz) hg).2
      omega
  refine ⟨fun j z hz => ?_, fun j k z u g hz hu hjk hg => ?_⟩
  · rw [List.getElem?_set] at hz
    by_cases hji : i = j
    · rw [if_pos hji, if_pos (by omega)] at hz
      cases hz
      exact ho
    · rw [if_neg hji] at hz
      exact old j z (fun e => hji e.symm) hz
  · rw [List.getElem?_set] at hz hu
    by_cases hji : i = j
    · rw [if_pos hji, if_pos (by omega)] at hz
      cases hz
      rw [if_neg (by omega)] at hu
      intro hue
      exact new k u g (by omega) hu hue hg
    · rw [if_neg hji] at hz
      by_cases hki : i = k
      · rw [if_pos hki, if_pos (by omega)] at hu
        cases hu
        exact new j z g (fun e => hji e.symm) hz hg
      · rw [if_neg hki] at hu
        exact h.apart j k z u g hz hu hjk hg
/-- one more row, in a block that is new. -/
theorem Fam.push (h : Fam W B e size L) {y : Rw} (hb : Below W.heap.size W W') (ho : W'.ownsRow W.heap.size e size y.1 y.2.1 y.2.2) (hB : B ≤ W.heap.size) : Fam W' B e size (L ++ [y]) := by
  have h2 := h.below hb
  refine ⟨fun j z hz => ?_, fun j k z u g hz hu hjk hg => ?_⟩
  · by_cases hj : j < L.length
    · rw [List.getElem?_append_left hj] at hz
      exact h2.own j z hz
    · rw [List.getElem?_append_right (by omega)] at hz
      have : j - L.length = 0 := by have := (List.getElem?_eq_some_iff.1 hz).1; simp at this; omega
      rw [this] at hz
      cases hz
      exact own_base ho hB
  · by_cases hj : j < L.length
    · rw [List.getElem?_append_left hj] at hz
      by_cases hk : k < L.length
      · rw [List.getElem?_append_left hk] at hu
        exact h.apart j k z u g hz hu hjk hg
      · rw [List.getElem?_append_right (by omega)] at hu
        have : k - L.length = 0 := by have := (List.getElem?_eq_some_iff.1 hu).1; simp at this; omega
        rw [this] at hu
        cases hu
        intro e
        have := (own_block ho e).1
        have := (own_block (h.own j z hz) hg).2
        omega
    · rw [List.getElem?_append_right (by omega)] at hz
      have : j - L.length = 0 := by have := (List.getElem?_eq_some_iff.1 hz).1; simp at this; omega
      rw [this] at hz
      cases hz
      by_cases hk : k < L.length
      · rw [List.getElem?_append_left hk] at hu
        intro e
        have := (own_block ho hg).1
        have := (own_block (h.own k u hu) e).2
        omega
      · have := (List.getElem?_eq_some_iff.1 hu).1
        simp at this
        have hk2 : k = L.length := by omega
        have : j - L.length = 0 := by omega
        omega
/-- a cell of a row. -/
theorem own_cell {v : Value} {n : Nat} {xs : List Value} (h : W.ownsRow B e size v n xs) {j : Nat} {x : Value} (hj : xs[j]? = some x) : ∃ g c, v = .slice (some ⟨g, 0, none⟩) n c ∧ B ≤ g ∧ g < W.heap.size ∧ W.cell? ⟨g, j, none⟩ = some x ∧ W.frozen? ⟨g, j, none⟩ = false := by
  have hlt := (List.getElem?_eq_some_iff.1 hj).1
  rcases h.2 with ⟨hv, h0⟩ | ⟨g, cap, cur, hv, hb, hr, hnc, hcm, hcs, htk⟩
  · have := h.1
    rw [h0] at this
    omega
  · refine ⟨g, cap, hv, hb, (Array.getElem?_eq_some_iff.1 hr).1, ?_, by simp [World.frozen?, hr]⟩
    rw [← htk] at hj
    rw [List.getElem?_take] at hj
    split at hj
    · simp [World.cell?, hr]
      simpa using hj
    · cases hj
/-- a cell of a row is written. -/
theorem own_set {v : Value} {n : Nat} {xs : List Value} (h : W.ownsRow B e size v n xs) {g c j : Nat} (hv : v = .slice (some ⟨g, 0, none⟩) n c) (u : Value) : (W.setCell ⟨g, j, none⟩ u).ownsRow B e size v n (xs.set j u) ∧ W.grownBy (W.setCell ⟨g, j, none⟩ u) v.ownBlock := by
  have hob : v.ownBlock = some g := by rw [hv]; rfl
  refine ⟨⟨by rw [List.length_set]; exact h.1, ?_⟩, ⟨rfl, rfl, rfl, by simp [World.setCell], fun k hk hne => Below.heap_setCell W _ _ _ (fun e => hne (by rw [hob, e]))⟩⟩
  rcases h.2 with ⟨hv', h0⟩ | ⟨g', cap, cur, hv', hb, hr, hnc, hcm, hcs, htk⟩
  · rw [hv] at hv'; cases hv'
  · rw [hv] at hv'
    cases hv'
    refine .inr ⟨g, c, cur.setIfInBounds j u, hv, hb, ?_, hnc, hcm, by simpa using hcs, ?_⟩
    · simp [World.setCell, Array.getElem?_modify, hr]
    · rw [← htk, Array.toList_setIfInBounds, List.take_set]
theorem Fam.write (h : Fam W B e size L) {i : Nat} {x : Rw} (hx : L[i]? = some x) {g c j : Nat} (hv : x.1 = .slice (some ⟨g, 0, none⟩) x.2.1 c) (u : Value) : Fam (W.setCell ⟨g, j, none⟩ u) B e size (L.set i (x.1, x.2.1, x.2.2.set j u)) := by
  obtain ⟨h1, h2⟩ := own_set (h.own i x hx) (j := j) hv u
  exact h.turn (y := (x.1, x.2.1, x.2.2.set j u)) hx h1 (.inl ⟨rfl, h2⟩)
end
end ShfKit
