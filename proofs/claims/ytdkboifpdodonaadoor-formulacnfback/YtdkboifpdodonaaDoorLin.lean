/-
  Line by line: what the landed program reads so is what is read word by word. Plain mathematics.
-/
import Derived.Test.YtdkboifpdodonaaDoorD9
namespace Go.Proofs.YtdkboifpdodonaaDoor
open Go.RowKit Go.Deep PureCnf
set_option maxRecDepth 100000

theorem wordsFrom_line (l : List UInt8) (e line k : Nat) : ∀ p ∈ wordsFrom l e line k, p.line = line := by
  generalize hd : e - k = d
  induction d using Nat.strongRecOn generalizing k with
  | _ d ih =>
    intro p hp
    rw [wordsFrom_eq] at hp
    split at hp
    · next h =>
      have h1 := runW_ge whB l (runW inkB l k e) e
      rcases List.mem_cons.1 hp with rfl | hp
      · rfl
      · exact ih (e - runW whB l (runW inkB l k e) e) (by omega) _ rfl p hp
    · simp at hp
theorem lineWords_line {l : List UInt8} {i e line : Nat} : ∀ p ∈ lineWords l i e line, p.line = line := by
  intro p hp
  unfold lineWords at hp
  split at hp
  · simp at hp
  · exact wordsFrom_line _ _ _ _ p hp
theorem pieces_line (l : List UInt8) (i line : Nat) : ∀ p ∈ piecesFrom l i line, line ≤ p.line := by
  generalize hd : l.length - i = d
  induction d using Nat.strongRecOn generalizing i line with
  | _ d ih =>
    intro p hp
    rw [piecesFrom_eq] at hp
    split at hp
    · next h =>
      have h1 := runW_ge lineB l i l.length
      rcases List.mem_append.1 hp with hp | hp
      · rw [lineWords_line p hp]; exact Nat.le_refl _
      · have := ih (l.length - (runW lineB l i l.length + 1)) (by omega) _ _ rfl p hp
        omega
    · simp at hp

section
variable {ws rest : List Piece} {k : Nat} (hk : ∀ p ∈ ws, p.line = k) (hr : ∀ p ∈ rest, k < p.line)
theorem lineOf_zero (hk : ∀ p ∈ ws, p.line = k) (h0 : 0 < ws.length) : lineOf (ws ++ rest) 0 = k := by
  unfold lineOf
  rw [List.getElem?_append_left h0, List.getElem?_eq_getElem h0]
  exact hk _ (List.getElem_mem h0)
theorem step_in (hk : ∀ p ∈ ws, p.line = k) {i : Nat} (h : i < ws.length) (h4 : i < 4) : headStep (ws ++ rest) i = if hwE i ws[i].w ≠ 0 then some (hwE i ws[i].w, ws[i].at_) else none := by
  unfold headStep
  rw [List.getElem?_append_left h, List.getElem?_eq_getElem h, lineOf_zero hk (by omega)]
  simp only [hk _ (List.getElem_mem h), ne_eq, not_true_eq_false, if_false]
  rcases (show i = 0 ∨ i = 1 ∨ i = 2 ∨ i = 3 by omega) with rfl | rfl | rfl | rfl
  · by_cases hx : ws[0].w = [112]
    · simp [hwE, hx]
    · simp [hwE, hx]
  · by_cases hx : ws[1].w = [99, 110, 102]
    · simp [hwE, hx]
    · simp [hwE, hx]
  · have e : hwE 2 ws[2].w = amtE ws[2].w 65536 := by simp [hwE]
    rw [e]
    unfold amtE
    generalize numB ws[2].w 2147483647 = m
    rw [if_neg (by omega), if_neg (by omega)]
    by_cases h1 : m < 0
    · simp [h1]
    · by_cases h2 : (65536 : Int) < m
      · rw [if_neg h1, if_pos h2, if_neg h1, if_pos (show ((65536 : Nat) : Int) < m from h2)]; rfl
      · rw [if_neg h1, if_neg h2, if_neg h1, if_neg (show ¬ ((65536 : Nat) : Int) < m from h2)]; rfl
  · have e : hwE 3 ws[3].w = amtE ws[3].w 65536 := by simp [hwE]
    rw [e]
    unfold amtE
    generalize numB ws[3].w 2147483647 = m
    rw [if_neg (by omega), if_neg (by omega)]
    by_cases h1 : m < 0
    · simp [h1]
    · by_cases h2 : (65536 : Int) < m
      · rw [if_neg h1, if_pos h2, if_neg h1, if_pos (show ((65536 : Nat) : Int) < m from h2)]; rfl
      · rw [if_neg h1, if_neg h2, if_neg h1, if_neg (show ¬ ((65536 : Nat) : Int) < m from h2)]; rfl
theorem step_out (hk : ∀ p ∈ ws, p.line = k) (hr : ∀ p ∈ rest, k < p.line) (h0 : 0 < ws.length) : headStep (ws ++ rest) ws.length = some (135, hEnd ws) := by
  have he : prevEnd (ws ++ rest) ws.length = hEnd ws := by
    unfold prevEnd hEnd
    rw [List.getElem?_append_left (by omega)]
    cases ws[ws.length - 1]? <;> rfl
  unfold headStep
  rw [he, lineOf_zero hk h0, List.getElem?_append_right (Nat.le_refl _), Nat.sub_self]
  cases rest with
  | nil => rfl
  | cons p t =>
    have := hr p (by simp)
    simp
    omega
theorem from_line (hk : ∀ p ∈ ws, p.line = k) (hr : ∀ p ∈ rest, k < p.line) (h0 : 0 < ws.length) : ∀ (d i : Nat), d + i = 4 → i ≤ ws.length →
    headFrom (ws ++ rest) d i = match hrun i (ws.drop i) with | some f => some f | none => if ws.length < 4 then some (135, hEnd ws) else none := by
  intro d
  induction d with
  | zero =>
    intro i hd hi
    obtain rfl : i = 4 := by omega
    unfold headFrom
    rw [lineOf_zero hk h0]
    by_cases h : 4 < ws.length
    · rw [List.getElem?_append_left h, List.getElem?_eq_getElem h, hrun_drop h]
      simp [hk _ (List.getElem_mem h), hwE]
    · obtain h : ws.length = 4 := by omega
      rw [List.drop_of_length_le (by omega), hrun, List.getElem?_append_right (by omega)]
      simp only [h, Nat.sub_self]
      cases rest with
      | nil => simp
      | cons p t =>
        have := hr p (by simp)
        simp
        omega
  | succ d ih =>
    intro i hd hi
    unfold headFrom
    by_cases h : i < ws.length
    · rw [step_in hk h (by omega), hrun_drop h]
      by_cases he : hwE i ws[i].w = 0
      · simp only [he, ne_eq, not_true_eq_false, if_false]
        exact ih (i + 1) (by omega) h
      · simp only [ne_eq, he, not_false_eq_true, if_true]
    · obtain rfl : i = ws.length := by omega
      rw [step_out hk hr h0, List.drop_length, hrun]
      simp only [if_pos (show ws.length < 4 by omega)]
theorem hrun_ne {l : List Piece} : ∀ {i : Nat} {f : Int × Nat}, hrun i l = some f → f.1 ≠ 0 := by
  induction l with
  | nil => intro i f h; simp [hrun] at h
  | cons p t ih =>
    intro i f h
    rw [hrun] at h
    split at h
    · next hn => cases h; exact hn
    · exact ih h
theorem hrun_none {l : List Piece} : ∀ {i : Nat}, hrun i l = none → ∀ j (h : j < l.length), hwE (i + j) l[j].w = 0 := by
  induction l with
  | nil => intro i _ j h; simp at h
  | cons p t ih =>
    intro i h j hj
    rw [hrun] at h
    split at h
    · cases h
    · next hn =>
      cases j with
      | zero => simpa using hn
      | succ j =>
        have := ih h j (by simpa using hj)
        rw [show i + (j + 1) = i + 1 + j by omega]
        simpa using this
theorem head_line (hk : ∀ p ∈ ws, p.line = k) (hr : ∀ p ∈ rest, k < p.line) (h0 : 0 < ws.length) (n : Nat) : headN n (ws ++ rest) = if (hOut ws).1 = 0 then none else some (hOut ws) := by
  have hne : ws ++ rest ≠ [] := by intro e; rw [(List.append_eq_nil_iff.1 e).1] at h0; simp at h0
  unfold headN
  rw [if_neg hne, from_line hk hr h0 4 0 rfl (Nat.zero_le _), List.drop_zero]
  unfold hOut
  cases hh : hrun 0 ws with
  | some f =>
    simp only
    rw [if_neg (hrun_ne hh)]
  | none =>
    simp only
    by_cases h4 : ws.length < 4
    · simp [h4]
    · simp [h4]
theorem amt_ok {X : List UInt8} (h : amtE X 65536 = 0) : amtV X 65536 = numB X 2147483647 ∧ 0 ≤ amtV X 65536 ∧ amtV X 65536 ≤ 65536 := by
  unfold amtE at h
  unfold amtV
  split at h
  · omega
  · split at h
    · omega
    · next h1 h2 => rw [if_neg h1, if_neg h2]; omega
theorem head_good (h0 : (hOut ws).1 = 0) : ws.length = 4 ∧ numOf (ws ++ rest) 2 = hV ws ws.length ∧ numOf (ws ++ rest) 3 = hC ws ws.length ∧ (0 ≤ hV ws ws.length ∧ hV ws ws.length ≤ 65536) ∧ 0 ≤ hC ws ws.length := by
  unfold hOut at h0
  split at h0
  · next f hf => exact absurd h0 (hrun_ne hf)
  · next hn =>
    have h4 : ¬ ws.length < 4 := by intro h; simp [h] at h0
    have hall := hrun_none hn
    have h5 : ws.length = 4 := by
      by_cases h : 4 < ws.length
      · have := hall 4 h
        simp [hwE] at this
      · omega
    have a2 := hall 2 (by omega)
    have a3 := hall 3 (by omega)
    simp [hwE] at a2 a3
    have b2 := amt_ok a2
    have b3 := amt_ok a3
    have e2 : numOf (ws ++ rest) 2 = numB (ws[2]'(by omega)).w 2147483647 := by
      unfold numOf; rw [List.getElem?_append_left (by omega), List.getElem?_eq_getElem (by omega)]
    have e3 : numOf (ws ++ rest) 3 = numB (ws[3]'(by omega)).w 2147483647 := by
      unfold numOf; rw [List.getElem?_append_left (by omega), List.getElem?_eq_getElem (by omega)]
    have v2 : hV ws ws.length = amtV (ws[2]'(by omega)).w 65536 := by
      unfold hV; rw [List.getElem?_eq_getElem (by omega)]; simp [h5]
    have v3 : hC ws ws.length = amtV (ws[3]'(by omega)).w 65536 := by
      unfold hC; rw [List.getElem?_eq_getElem (by omega)]; simp [h5]
    rw [e2, e3, v2, v3]
    exact ⟨h5, b2.1.symm, b3.1.symm, b2.2, b3.2.1⟩
end

/-! ### behind the head -/
theorem body_line {n : Nat} {V C : Int} (rest : List Piece) (ws : List Piece) : ∀ (E L : List Int) (op : Bool), (E.length : Int) ≤ C → (op = true → (E.length : Int) < C) →
    ((bRun V C ws E L).1.1 ≠ 0 → bodyRun n V C (ws ++ rest) E L op = .error (bRun V C ws E L).1) ∧
    ((bRun V C ws E L).1.1 = 0 → ∃ op', bodyRun n V C (ws ++ rest) E L op = bodyRun n V C rest (bRun V C ws E L).2.1 (bRun V C ws E L).2.2 op' ∧ (((bRun V C ws E L).2.1.length : Int) ≤ C) ∧ (op' = true → ((bRun V C ws E L).2.1.length : Int) < C) ∧ (bRun V C ws E L).2.1.length + (bRun V C ws E L).2.2.length ≤ E.length + L.length + ws.length) := by
  induction ws with
  | nil => intro E L op h1 h2; exact ⟨fun h => absurd rfl h, fun _ => ⟨op, rfl, h1, h2, by simp [bRun]⟩⟩
  | cons p t ih =>
    intro E L op h1 h2
    rw [bRun, List.cons_append, bodyRun]
    by_cases a1 : (E.length : Int) = C
    · have e : litE V C E L p.w = 135 := by unfold litE; rw [if_pos a1]
      simp [e, a1]
    by_cases a2 : litFine p.w = false
    · have e : litE V C E L p.w = 133 := by unfold litE; rw [if_neg a1, if_pos a2]
      simp [e, a1, a2]
    by_cases a3 : V < litNum p.w ∨ litNum p.w < -V
    · have e : litE V C E L p.w = 3 := by unfold litE; rw [if_neg a1, if_neg a2, if_pos a3]
      rw [if_neg a1, if_neg a2, if_pos a3, if_pos (by rw [e]; decide), e]
      exact ⟨fun _ => rfl, fun h => absurd (show (3 : Int) = 0 from h) (by decide)⟩
    by_cases a4 : litNum p.w = 0
    · have e : litE V C E L p.w = 0 := by unfold litE; rw [if_neg a1, if_neg a2, if_neg a3, if_pos a4]
      have hs := lit_end e a4
      rw [if_neg a1, if_neg a2, if_neg a3, if_pos a4, if_neg (by simpa using e), hs.1, hs.2]
      have := ih (E ++ [(L.length : Int)]) L false (by simp; omega) (by simp)
      refine ⟨this.1, fun h => ?_⟩
      obtain ⟨op', b1, b2, b3, b4⟩ := this.2 h
      refine ⟨op', b1, b2, b3, ?_⟩
      simp at b4 ⊢
      omega
    by_cases a5 : L.length = 1048576
    · have e : litE V C E L p.w = 8 := by unfold litE; rw [if_neg a1, if_neg a2, if_neg a3, if_neg a4, if_pos a5]
      rw [if_neg a1, if_neg a2, if_neg a3, if_neg a4, if_pos a5, if_pos (by rw [e]; decide), e]
      exact ⟨fun _ => rfl, fun h => absurd (show (8 : Int) = 0 from h) (by decide)⟩
    · have e : litE V C E L p.w = 0 := by unfold litE; rw [if_neg a1, if_neg a2, if_neg a3, if_neg a4, if_neg a5]
      have hs := lit_on e a4
      rw [if_neg a1, if_neg a2, if_neg a3, if_neg a4, if_neg a5, if_neg (by simpa using e), hs.1, hs.2]
      have := ih E (L ++ [litNum p.w]) true h1 (fun _ => by omega)
      refine ⟨this.1, fun h => ?_⟩
      obtain ⟨op', b1, b2, b3, b4⟩ := this.2 h
      refine ⟨op', b1, b2, b3, ?_⟩
      simp at b4 ⊢
      omega
end Go.Proofs.YtdkboifpdodonaaDoor
