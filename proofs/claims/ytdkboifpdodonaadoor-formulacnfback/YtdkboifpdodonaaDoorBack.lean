/-
  Clauses printed and read are the same: plain mathematics.
-/
import Derived.Test.YtdkboifpdodonaaDoorPars
namespace PureCnf
open Go.Lib

theorem takeWhile_exact {p : UInt8 → Bool} {B X : List UInt8} (hB : ∀ c ∈ B, p c = true) (hX : ∀ c, X.head? = some c → p c = false) : (B ++ X).takeWhile p = B := by
  induction B with
  | nil =>
    cases X with
    | nil => rfl
    | cons c t => simp [hX c rfl]
  | cons b t ih =>
    rw [List.cons_append, List.takeWhile_cons, if_pos (hB b (by simp)), ih (fun c hc => hB c (by simp [hc]))]

/-- a run of B behind A. -/
theorem runW_exact {p : UInt8 → Bool} {A B R : List UInt8} {e : Nat} (hB : ∀ c ∈ B, p c = true) (he : A.length + B.length ≤ e) (hR : e = A.length + B.length ∨ ∃ c R', R = c :: R' ∧ p c = false) :
    runW p (A ++ (B ++ R)) A.length e = A.length + B.length := by
  unfold runW
  have e1 : ((A ++ (B ++ R)).take e).drop A.length = B ++ R.take (e - (A.length + B.length)) := by
    rw [List.take_append, List.drop_append, List.take_of_length_le (show A.length ≤ e by omega), List.drop_length, List.nil_append, Nat.sub_self, List.drop_zero, List.take_append, List.take_of_length_le (show B.length ≤ e - A.length by omega), Nat.sub_sub]
  rw [e1, takeWhile_exact hB]
  intro c hc
  rcases hR with h | ⟨d, R', rfl, hd⟩
  · rw [h, Nat.sub_self, List.take_zero] at hc; cases hc
  · cases hn : e - (A.length + B.length) with
    | zero => rw [hn] at hc; cases hc
    | succ m => rw [hn] at hc; simp at hc; subst hc; exact hd

/-! ### lines of words -/
def bodyL : List (List UInt8) → List UInt8
  | [] => []
  | [w] => w
  | w :: x :: t => w ++ (32 :: bodyL (x :: t))
def lineL (ws : List (List UInt8)) : List UInt8 := bodyL ws ++ [10]
def allL (ls : List (List (List UInt8))) : List UInt8 := ls.flatMap lineL
def goodW (w : List UInt8) : Prop := w ≠ [] ∧ ∀ c ∈ w, inkB c = true ∧ lineB c = true
structure goodL (ws : List (List UInt8)) : Prop where
  some_ : ws ≠ []
  each : ∀ w ∈ ws, goodW w
  first : ∀ w, ws.head? = some w → w.head? ≠ some 99

def pieceL (line : Nat) : List (List UInt8) → Nat → List Piece
  | [], _ => []
  | w :: t, i => ⟨w, i, line⟩ :: pieceL line t (i + w.length + 1)
def pieceAll : List (List (List UInt8)) → Nat → Nat → List Piece
  | [], _, _ => []
  | ws :: t, i, k => pieceL k ws i ++ pieceAll t (i + (lineL ws).length) (k + 1)

theorem bodyL_line {ws : List (List UInt8)} (h : ∀ w ∈ ws, goodW w) : ∀ c ∈ bodyL ws, lineB c = true := by
  induction ws with
  | nil => simp [bodyL]
  | cons w t ih =>
    cases t with
    | nil => intro c hc; exact ((h w (by simp)).2 c hc).2
    | cons x t =>
      intro c hc
      simp only [bodyL, List.mem_append, List.mem_cons] at hc
      rcases hc with hc | rfl | hc
      · exact ((h w (by simp)).2 c hc).2
      · rfl
      · exact ih (fun w hw => h w (by simp [hw])) c hc
theorem bodyL_head {w : List UInt8} {t : List (List UInt8)} (h : goodW w) : ∃ c w', w = c :: w' ∧ (bodyL (w :: t)) = c :: (bodyL (w :: t)).tail := by
  obtain ⟨c, w', rfl⟩ := List.exists_cons_of_ne_nil h.1
  refine ⟨c, w', rfl, ?_⟩
  cases t <;> rfl

/-- the words of a line's body. -/
theorem words_body {line : Nat} (ws : List (List UInt8)) : ∀ (A R : List UInt8), (∀ w ∈ ws, goodW w) → wordsFrom (A ++ (bodyL ws ++ R)) (A.length + (bodyL ws).length) line A.length = pieceL line ws A.length := by
  induction ws with
  | nil =>
    intro A R _
    exact wordsFrom_nil (by simp [bodyL])
  | cons w t ih =>
    intro A R h
    have hw := h w (by simp)
    obtain ⟨c, w', hcw, _⟩ := bodyL_head (t := t) hw
    have hlw : 1 ≤ w.length := by rw [hcw]; simp
    have hget : ∀ X : List UInt8, (A ++ (w ++ X))[A.length]? = some c := fun X => by
      rw [List.getElem?_append_right (Nat.le_refl _), Nat.sub_self, hcw]; rfl
    have hink : inkB c = true := (hw.2 c (by rw [hcw]; simp)).1
    cases t with
    | nil =>
      simp only [bodyL, pieceL]
      have hr : runW inkB (A ++ (w ++ R)) A.length (A.length + w.length) = A.length + w.length := runW_exact (fun c hc => (hw.2 c hc).1) (Nat.le_refl _) (.inl rfl)
      have hlt : A.length < (A ++ (w ++ R)).length := by simp; omega
      have hc1 : (A ++ (w ++ R))[A.length] = c := by
        have := hget R
        rw [List.getElem?_eq_getElem hlt] at this
        exact Option.some.inj this
      rw [wordsFrom_cons (by omega) (by simp) (by rw [hc1]; exact hink), hr, runW_end (Nat.le_refl _), wordsFrom_nil (by omega)]
      congr 1
      congr 1
      rw [List.take_append, List.take_of_length_le (show A.length ≤ A.length + w.length by omega), List.drop_append, List.drop_length, List.nil_append, Nat.sub_self, List.drop_zero, List.take_append, List.take_of_length_le (by omega), show A.length + w.length - A.length - w.length = 0 by omega, List.take_zero, List.append_nil]
    | cons x t =>
      have hx := h x (by simp)
      obtain ⟨d, x', hdx, hbx⟩ := bodyL_head (t := t) hx
      have hdink : inkB d = true := (hx.2 d (by rw [hdx]; simp)).1
      have e0 : A ++ (bodyL (w :: x :: t) ++ R) = A ++ (w ++ (32 :: (bodyL (x :: t) ++ R))) := by simp [bodyL]
      have e1 : A ++ (w ++ (32 :: (bodyL (x :: t) ++ R))) = (A ++ w ++ [32]) ++ (bodyL (x :: t) ++ R) := by simp
      have elen : (bodyL (w :: x :: t)).length = w.length + 1 + (bodyL (x :: t)).length := by simp [bodyL]; omega
      have hbl : 1 ≤ (bodyL (x :: t)).length := by rw [hbx]; simp
      rw [e0, elen]
      have hr : runW inkB (A ++ (w ++ (32 :: (bodyL (x :: t) ++ R)))) A.length (A.length + (w.length + 1 + (bodyL (x :: t)).length)) = A.length + w.length :=
        runW_exact (fun c hc => (hw.2 c hc).1) (by omega) (.inr ⟨32, _, rfl, by decide⟩)
      have hlt : A.length < (A ++ (w ++ (32 :: (bodyL (x :: t) ++ R)))).length := by simp; omega
      have hc1 : (A ++ (w ++ (32 :: (bodyL (x :: t) ++ R))))[A.length] = c := by
        have := hget (32 :: (bodyL (x :: t) ++ R))
        rw [List.getElem?_eq_getElem hlt] at this
        exact Option.some.inj this
      have hr2 : runW whB (A ++ (w ++ (32 :: (bodyL (x :: t) ++ R)))) (A.length + w.length) (A.length + (w.length + 1 + (bodyL (x :: t)).length)) = A.length + w.length + 1 := by
        have := runW_exact (p := whB) (A := A ++ w) (B := [32]) (R := bodyL (x :: t) ++ R) (e := A.length + (w.length + 1 + (bodyL (x :: t)).length)) (by intro c hc; simp at hc; subst hc; decide) (by simp; omega)
          (.inr ⟨d, (bodyL (x :: t)).tail ++ R, by rw [← List.cons_append, ← hbx], by unfold inkB at hdink; simpa using hdink⟩)
        simpa using this
      rw [wordsFrom_cons (by omega) (by simp; omega) (by rw [hc1]; exact hink), hr, hr2]
      simp only [pieceL]
      congr 1
      · congr 1
        rw [List.take_append, List.take_of_length_le (show A.length ≤ A.length + w.length by omega), List.drop_append, List.drop_length, List.nil_append, Nat.sub_self, List.drop_zero, List.take_append, List.take_of_length_le (by omega), show A.length + w.length - A.length - w.length = 0 by omega, List.take_zero, List.append_nil]
      · have := ih (A ++ w ++ [32]) R (fun w hw => h w (by simp [hw]))
        rw [← e1] at this
        have l1 : (A ++ w ++ [32]).length = A.length + w.length + 1 := by simp; omega
        rw [l1] at this
        rw [show A.length + (w.length + 1 + (bodyL (x :: t)).length) = A.length + w.length + 1 + (bodyL (x :: t)).length by omega, this]
        rfl

theorem pieces_all (ls : List (List (List UInt8))) : ∀ (A : List UInt8) (k : Nat), (∀ ws ∈ ls, goodL ws) → piecesFrom (A ++ allL ls) A.length k = pieceAll ls A.length k := by
  induction ls with
  | nil =>
    intro A k _
    exact piecesFrom_end (by simp [allL])
  | cons ws t ih =>
    intro A k h
    have hg := h ws (by simp)
    obtain ⟨w, ws', rfl⟩ := List.exists_cons_of_ne_nil hg.some_
    have e0 : A ++ allL ((w :: ws') :: t) = A ++ (bodyL (w :: ws') ++ (10 :: allL t)) := by simp [allL, lineL]
    have e1 : A ++ (bodyL (w :: ws') ++ (10 :: allL t)) = (A ++ lineL (w :: ws')) ++ allL t := by simp [lineL]
    rw [e0]
    have hw := hg.each w (by simp)
    obtain ⟨c, w', hcw, hbx⟩ := bodyL_head (t := ws') hw
    have hbl : 1 ≤ (bodyL (w :: ws')).length := by rw [hbx]; simp
    have hr : runW lineB (A ++ (bodyL (w :: ws') ++ (10 :: allL t))) A.length (A ++ (bodyL (w :: ws') ++ (10 :: allL t))).length = A.length + (bodyL (w :: ws')).length :=
      runW_exact (bodyL_line hg.each) (by simp) (.inr ⟨10, _, rfl, by decide⟩)
    rw [piecesFrom_on (by simp; omega), hr]
    have hlt : A.length < (A ++ (bodyL (w :: ws') ++ (10 :: allL t))).length := by simp; omega
    have hget : (A ++ (bodyL (w :: ws') ++ (10 :: allL t)))[A.length]? = some c := by
      rw [List.getElem?_append_right (Nat.le_refl _), Nat.sub_self, hbx]; rfl
    have hc1 : (A ++ (bodyL (w :: ws') ++ (10 :: allL t)))[A.length] = c := by
      rw [List.getElem?_eq_getElem hlt] at hget
      exact Option.some.inj hget
    have hink : inkB c = true := (hw.2 c (by rw [hcw]; simp)).1
    have hk : runW whB (A ++ (bodyL (w :: ws') ++ (10 :: allL t))) A.length (A.length + (bodyL (w :: ws')).length) = A.length :=
      runW_off (by omega) (by simp) (by rw [hc1]; unfold inkB at hink; simpa using hink)
    have hline : lineWords (A ++ (bodyL (w :: ws') ++ (10 :: allL t))) A.length (A.length + (bodyL (w :: ws')).length) k = pieceL k (w :: ws') A.length := by
      unfold lineWords
      rw [hk, hget, if_neg, words_body (w :: ws') A _ hg.each]
      rintro ⟨_, e⟩
      exact hg.first w rfl (by rw [hcw]; simpa using e)
    rw [hline]
    simp only [pieceAll]
    congr 1
    have := ih (A ++ lineL (w :: ws')) (k + 1) (fun ws hws => h ws (by simp [hws]))
    rw [← e1] at this
    have l1 : (A ++ lineL (w :: ws')).length = A.length + (bodyL (w :: ws')).length + 1 := by simp [lineL]; omega
    rw [l1] at this
    rw [this]
    congr 1
    simp [lineL]; omega
end PureCnf
