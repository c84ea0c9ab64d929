/-
  What is true of the order by numbers alone: total, and by places.
-/
import Derived.Test.YtkielflmpodapaaC6
namespace Go.Proofs.Ytkielflmpodapaa
open Go.RowKit

theorem lexAt_cases (X Y : Nat → Int) : ∀ n k, lexAt X Y k n = -1 ∨ lexAt X Y k n = 0 ∨ lexAt X Y k n = 1
  | 0, _ => .inr (.inl rfl)
  | n + 1, k => by
    simp only [lexAt]
    split
    · exact .inl rfl
    · split
      · exact .inr (.inr rfl)
      · exact lexAt_cases X Y n (k + 1)

theorem lexAt_anti (X Y : Nat → Int) : ∀ n k, lexAt Y X k n = - lexAt X Y k n
  | 0, _ => rfl
  | n + 1, k => by
    simp only [lexAt]
    by_cases h1 : X k < Y k
    · have h2 : ¬ Y k < X k := by omega
      simp [h1, h2]
    · by_cases h2 : Y k < X k
      · simp [h1, h2]
      · simp only [h1, h2, if_false]
        exact lexAt_anti X Y n (k + 1)

theorem lexAt_trans (X Y Z : Nat → Int) : ∀ n k, lexAt X Y k n ≤ 0 → lexAt Y Z k n ≤ 0 → lexAt X Z k n ≤ 0
  | 0, _ => fun _ _ => by simp [lexAt]
  | n + 1, k => by
    simp only [lexAt]
    intro h1 h2
    by_cases a1 : X k < Y k
    · by_cases b2 : Z k < Y k
      · have : ¬ Y k < Z k := by omega
        simp [this, b2] at h2
      · have : X k < Z k := by omega
        simp [this]
    · by_cases a2 : Y k < X k
      · simp [a1, a2] at h1
      · simp only [a1, a2, if_false] at h1
        have e : X k = Y k := by omega
        by_cases b1 : Y k < Z k
        · have : X k < Z k := by omega
          simp [this]
        · by_cases b2 : Z k < Y k
          · simp [b1, b2] at h2
          · simp only [b1, b2, if_false] at h2
            have c1 : ¬ X k < Z k := by omega
            have c2 : ¬ Z k < X k := by omega
            simp only [c1, c2, if_false]
            exact lexAt_trans X Y Z n (k + 1) h1 h2

theorem lexAt_congr {X Y X' Y' : Nat → Int} : ∀ n k, (∀ j, k ≤ j → j < k + n → X j = X' j ∧ Y j = Y' j) → lexAt X Y k n = lexAt X' Y' k n
  | 0, _ => fun _ => rfl
  | n + 1, k => fun h => by
    have e := h k (by omega) (by omega)
    simp only [lexAt, e.1, e.2]
    rw [lexAt_congr n (k + 1) fun j h1 h2 => h j (by omega) (by omega)]

theorem ord_plain (k : Nat) (hk : k < 4) : ordN 0 1 2 3 k = (k : Int) := by
  unfold ordN
  split
  · have : k = 0 ∨ k = 1 ∨ k = 2 ∨ k = 3 := by omega
    rcases this with rfl | rfl | rfl | rfl <;> rfl
  · rfl

section
variable {o0 o1 o2 o3 a0 a1 a2 a3 b0 b1 b2 b3 c0 c1 c2 c3 : Int}

theorem cmpO_cases : cmpO o0 o1 o2 o3 a0 a1 a2 a3 b0 b1 b2 b3 = -1 ∨ cmpO o0 o1 o2 o3 a0 a1 a2 a3 b0 b1 b2 b3 = 0 ∨ cmpO o0 o1 o2 o3 a0 a1 a2 a3 b0 b1 b2 b3 = 1 := lexAt_cases _ _ _ _

theorem cmpO_anti : cmpO o0 o1 o2 o3 b0 b1 b2 b3 a0 a1 a2 a3 = - cmpO o0 o1 o2 o3 a0 a1 a2 a3 b0 b1 b2 b3 := lexAt_anti _ _ _ _

theorem cmpO_trans (h1 : cmpO o0 o1 o2 o3 a0 a1 a2 a3 b0 b1 b2 b3 ≤ 0) (h2 : cmpO o0 o1 o2 o3 b0 b1 b2 b3 c0 c1 c2 c3 ≤ 0) : cmpO o0 o1 o2 o3 a0 a1 a2 a3 c0 c1 c2 c3 ≤ 0 := lexAt_trans _ _ _ _ _ h1 h2

theorem cmpO_iff : cmpO o0 o1 o2 o3 a0 a1 a2 a3 b0 b1 b2 b3 = 0 ↔ (a0 = b0 ∧ a1 = b1 ∧ a2 = b2 ∧ a3 = b3) :=
  ⟨cmpO_zero, by rintro ⟨rfl, rfl, rfl, rfl⟩; simp [cmpO, lexAt]⟩

theorem cmpO_unsound (h : ¬ SoundO o0 o1 o2 o3) : cmpO 0 1 2 3 a0 a1 a2 a3 b0 b1 b2 b3 = cmpO o0 o1 o2 o3 a0 a1 a2 a3 b0 b1 b2 b3 := by
  unfold cmpO
  refine lexAt_congr 4 0 fun j _ hj => ?_
  have e : ordN o0 o1 o2 o3 j = (j : Int) := by unfold ordN; rw [if_neg h]
  simp only [e, ord_plain j (by omega), and_self]

theorem cmpO_placed (h : SoundO o0 o1 o2 o3) :
    cmpO 0 1 2 3 (pick a0 a1 a2 a3 o0) (pick a0 a1 a2 a3 o1) (pick a0 a1 a2 a3 o2) (pick a0 a1 a2 a3 o3) (pick b0 b1 b2 b3 o0) (pick b0 b1 b2 b3 o1) (pick b0 b1 b2 b3 o2) (pick b0 b1 b2 b3 o3)
      = cmpO o0 o1 o2 o3 a0 a1 a2 a3 b0 b1 b2 b3 := by
  unfold cmpO
  refine lexAt_congr 4 0 fun j _ hj => ?_
  have e : ordN o0 o1 o2 o3 j = nth o0 o1 o2 o3 j := by unfold ordN; rw [if_pos h]
  have hj4 : j = 0 ∨ j = 1 ∨ j = 2 ∨ j = 3 := by omega
  simp only [e, ord_plain j (by omega)]
  rcases hj4 with rfl | rfl | rfl | rfl <;> simp [pick, nth]
end

end Go.Proofs.Ytkielflmpodapaa
