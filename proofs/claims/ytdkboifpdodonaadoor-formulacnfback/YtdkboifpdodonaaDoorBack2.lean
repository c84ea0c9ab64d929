/-
  Clauses printed and read are the same: plain mathematics, its end.
-/
import Derived.Test.YtdkboifpdodonaaDoorBack
namespace PureCnf
open Go.Lib

def clauseL (xs : List Int) : List (List UInt8) := xs.map itoa ++ [[48]]
def headL (v n : Nat) : List (List UInt8) := [[112], [99, 110, 102], decDigits v, decDigits n]
def clausesOf (L : List Int) (a : Int) : List Int → List (List Int)
  | [] => []
  | e :: t => ((L.take e.toNat).drop a.toNat) :: clausesOf L e t

theorem bodyL_clause (xs : List Int) : bodyL (clauseL xs) = xs.flatMap litT ++ [48] := by
  induction xs with
  | nil => rfl
  | cons x t ih =>
    have e : clauseL (x :: t) = itoa x :: clauseL t := rfl
    have hne : clauseL t ≠ [] := by simp [clauseL]
    obtain ⟨y, ys, hy⟩ := List.exists_cons_of_ne_nil hne
    rw [e, hy, bodyL, ← hy, ih]
    simp [litT]
theorem cnf_lines (V : Int) (E L : List Int) : cnfT V E L = allL (headL V.toNat E.length :: (clausesOf L 0 E).map clauseL) := by
  have hb : ∀ (a : Int) (E : List Int), bodyT L a E = allL ((clausesOf L a E).map clauseL) := by
    intro a E
    induction E generalizing a with
    | nil => rfl
    | cons e t ih =>
      simp only [bodyT, clausesOf, List.map_cons, allL, List.flatMap_cons] at ih ⊢
      rw [ih e, lineL, bodyL_clause]
      simp [seg]
  have hh : lineL (headL V.toNat E.length) = headT V.toNat E.length := by simp [lineL, headL, bodyL, headT]
  unfold cnfT
  rw [hb, ← hh]
  simp [allL]

theorem dig_good {c : UInt8} (h : digB c = true) : inkB c = true ∧ lineB c = true := by
  simp only [digB, decide_eq_true_eq] at h
  constructor
  · simp [inkB, whB]; omega
  · simp [lineB]; omega
theorem dec_ne (n : Nat) : decDigits n ≠ [] := by rw [decDigits]; split <;> simp
theorem dec_good (n : Nat) : goodW (decDigits n) := ⟨dec_ne n, fun c hc => dig_good (List.all_eq_true.1 (dec_all n) c hc)⟩
theorem dec_first (n : Nat) (c : UInt8) (h : (decDigits n).head? = some c) : digB c = true := List.all_eq_true.1 (dec_all n) c (List.mem_of_mem_head? (by simpa using h))
theorem itoa_good (x : Int) : goodW (itoa x) := by
  unfold itoa
  split
  · refine ⟨by simp, fun c hc => ?_⟩
    rcases List.mem_cons.1 hc with rfl | hc
    · exact ⟨by decide, by decide⟩
    · exact (dec_good _).2 c hc
  · exact dec_good _
theorem itoa_first (x : Int) : (itoa x).head? ≠ some 99 := by
  unfold itoa
  split
  · simp
  · intro h
    have := dec_first _ _ h
    revert this
    decide
theorem clause_good (xs : List Int) : goodL (clauseL xs) := by
  refine ⟨by simp [clauseL], fun w hw => ?_, fun w hw => ?_⟩
  · simp only [clauseL, List.mem_append, List.mem_map, List.mem_cons, List.not_mem_nil, or_false] at hw
    rcases hw with ⟨x, _, rfl⟩ | rfl
    · exact itoa_good x
    · exact ⟨by simp, fun c hc => by simp at hc; subst hc; exact ⟨by decide, by decide⟩⟩
  · cases xs with
    | nil => simp [clauseL] at hw; subst hw; decide
    | cons x t => simp [clauseL] at hw; subst hw; exact itoa_first x
theorem head_good (v n : Nat) : goodL (headL v n) := by
  refine ⟨by simp [headL], fun w hw => ?_, fun w hw => ?_⟩
  · simp only [headL, List.mem_cons, List.not_mem_nil, or_false] at hw
    rcases hw with rfl | rfl | rfl | rfl
    · exact ⟨by simp, fun c hc => by simp at hc; subst hc; exact ⟨by decide, by decide⟩⟩
    · refine ⟨by simp, fun c hc => ?_⟩
      simp only [List.mem_cons, List.not_mem_nil, or_false] at hc
      rcases hc with rfl | rfl | rfl <;> exact ⟨by decide, by decide⟩
    · exact dec_good _
    · exact dec_good _
  · simp [headL] at hw; subst hw; decide

/-! ### the head -/
theorem line_first (ls : List (List (List UInt8))) (h : ∀ ws ∈ ls, ws ≠ []) (i k : Nat) : ∀ p, (pieceAll ls i k).head? = some p → p.line = k := by
  intro p hp
  cases ls with
  | nil => cases hp
  | cons ws t =>
    obtain ⟨w, ws', rfl⟩ := List.exists_cons_of_ne_nil (h ws (by simp))
    simp [pieceAll, pieceL] at hp
    subst hp
    rfl
theorem head_fine (n v c : Nat) (hv : v ≤ 65536) (hc : c ≤ 65536) (rest : List Piece) (hr : ∀ p, rest.head? = some p → p.line = 1) :
    headN n (pieceL 0 (headL v c) 0 ++ rest) = none ∧ numOf (pieceL 0 (headL v c) 0 ++ rest) 2 = v ∧ numOf (pieceL 0 (headL v c) 0 ++ rest) 3 = c ∧ (pieceL 0 (headL v c) 0 ++ rest).drop 4 = rest := by
  have n1 := dec_num v 2147483647 (by omega)
  have n2 := dec_num c 2147483647 (by omega)
  have b1 : ¬ (v : Int) < 0 := by omega
  have b2 : ¬ (c : Int) < 0 := by omega
  have b3 : ¬ (65536 : Int) < (v : Int) := by omega
  have b4 : ¬ (65536 : Int) < (c : Int) := by omega
  refine ⟨?_, ?_, ?_, ?_⟩
  · unfold headN
    rw [if_neg (by simp [pieceL, headL])]
    cases rest with
    | nil => simp only [headFrom, headStep, pieceL, headL, lineOf, List.append_nil, List.getElem?_cons_zero, List.getElem?_cons_succ, n1, n2]; simp [b3, b4]; simp only [if_neg b1, if_neg b2]
    | cons p t =>
      have := hr p rfl
      simp only [headFrom, headStep, pieceL, headL, lineOf, List.cons_append, List.nil_append, List.getElem?_cons_zero, List.getElem?_cons_succ, n1, n2]
      simp [b3, b4, this]
      simp only [if_neg b1, if_neg b2]
  · simp [pieceL, headL, numOf, n1]
  · simp [pieceL, headL, numOf, n2]
  · simp [pieceL, headL]

/-! ### the clauses -/
theorem lit_zero : litNum [48] = 0 ∧ litFine [48] = true := by decide
theorem lit_back {x : Int} (h0 : x ≠ 0) (h1 : -65536 ≤ x) (h2 : x ≤ 65536) : litNum (itoa x) = x ∧ litFine (itoa x) = true := by
  by_cases hn : x < 0
  · have e : itoa x = 45 :: decDigits x.natAbs := by unfold itoa; rw [if_pos hn]
    have n1 := dec_num x.natAbs 2147483647 (by omega)
    unfold litNum litFine
    rw [e]
    simp only [List.head?_cons, List.tail_cons, n1, if_true]
    constructor
    · rw [if_pos (by omega)]; omega
    · simp; omega
  · have e : itoa x = decDigits x.toNat := by unfold itoa; rw [if_neg hn]
    have n1 := dec_num x.toNat 2147483647 (by omega)
    have hh : (decDigits x.toNat).head? ≠ some 45 := fun h => by
      have := dec_first _ _ h
      revert this
      decide
    unfold litNum litFine
    rw [e, if_neg hh, if_neg hh, n1]
    constructor
    · rw [if_pos (by omega)]; omega
    · exact decide_eq_true (by omega)
theorem run_clause {n : Nat} {V C : Int} {rest : List Piece} {E : List Int} (k : Nat) (hV0 : 0 ≤ V) (hV : V ≤ 65536) (hE : (E.length : Int) ≠ C) : ∀ (xs : List Int) (L : List Int) (op : Bool) (i : Nat), (∀ x ∈ xs, x ≠ 0 ∧ x ≤ V ∧ -V ≤ x) → L.length + xs.length ≤ 1048576 →
    bodyRun n V C (pieceL k (clauseL xs) i ++ rest) E L op = bodyRun n V C rest (E ++ [((L.length + xs.length : Nat) : Int)]) (L ++ xs) false := by
  intro xs
  induction xs with
  | nil =>
    intro L op i _ _
    have e : clauseL [] = [[48]] := rfl
    rw [e, pieceL, List.cons_append, bodyRun, if_neg hE, lit_zero.2, lit_zero.1, if_neg (by decide), if_neg (by omega), if_pos rfl]
    simp [pieceL]
  | cons x t ih =>
    intro L op i hx hl
    obtain ⟨x0, x1, x2⟩ := hx x (by simp)
    have hb := lit_back x0 (by omega) (by omega)
    have e : clauseL (x :: t) = itoa x :: clauseL t := rfl
    simp only [List.length_cons] at hl
    rw [e, pieceL, List.cons_append, bodyRun, if_neg hE, hb.2, hb.1, if_neg (by decide), if_neg (by omega), if_neg x0, if_neg (by omega), ih (L ++ [x]) true _ (fun y hy => hx y (by simp [hy])) (by simp; omega)]
    simp only [List.length_append, List.length_cons, List.length_nil, List.append_assoc, List.singleton_append]
    rw [show L.length + (0 + 1) + t.length = L.length + (t.length + 1) by omega]

theorem run_all {n : Nat} {V C : Int} {L : List Int} (hV0 : 0 ≤ V) (hV : V ≤ 65536) (hL : L.length ≤ 1048576) (hl : ∀ x ∈ L, x ≠ 0 ∧ x ≤ V ∧ -V ≤ x) : ∀ (E1 E0 : List Int) (a : Nat) (i k : Nat), a ≤ L.length → mono (a : Int) E1 = true → lastOr (a : Int) E1 = L.length → ((E0.length + E1.length : Nat) : Int) = C →
    bodyRun n V C (pieceAll ((clausesOf L (a : Int) E1).map clauseL) i k) E0 (L.take a) false = .ok (E0 ++ E1, L) := by
  intro E1
  induction E1 with
  | nil =>
    intro E0 a i k ha _ hlast hC
    have hh : (a : Int) = L.length := hlast
    have e : L.take a = L := List.take_of_length_le (by omega)
    simp only [clausesOf, List.map_nil, pieceAll, bodyRun, e, List.append_nil, List.length_nil, Nat.add_zero] at hC ⊢
    rw [if_neg (by simp; omega)]
  | cons e t ih =>
    intro E0 a i k ha hm hlast hC
    simp only [mono, Bool.and_eq_true, decide_eq_true_eq] at hm
    obtain ⟨m1, m2⟩ := hm
    have hlast' : lastOr e t = L.length := hlast
    have hle := mono_le e t m2
    obtain ⟨b, rfl⟩ : ∃ b : Nat, e = (b : Int) := ⟨e.toNat, by omega⟩
    have hab : a ≤ b := by omega
    have hbL : b ≤ L.length := by omega
    simp only [clausesOf, List.map_cons, pieceAll, Int.toNat_natCast]
    have hx : ((L.take b).drop a).length = b - a := by rw [List.length_drop, List.length_take]; omega
    have ht : (L.take a).length = a := by rw [List.length_take]; omega
    rw [run_clause k hV0 hV (by simp only [List.length_cons] at hC; omega) _ _ _ _ (fun x hx => hl x (List.mem_of_mem_take (List.mem_of_mem_drop hx))) (by rw [hx, ht]; omega)]
    have e1 : L.take a ++ (L.take b).drop a = L.take b := by
      have := List.take_append_drop a (L.take b)
      rwa [List.take_take, Nat.min_eq_left hab] at this
    rw [e1, hx, ht, show a + (b - a) = b by omega, ih (E0 ++ [(b : Int)]) b _ _ hbL m2 hlast' (by simp only [List.length_append, List.length_cons, List.length_nil] at hC ⊢; omega)]
    simp

/-- printed and read. -/
theorem parse_print {V : Int} {E L : List Int} (hf : formedB V E L = true) (hlen : (cnfT V E L).length ≤ 1048576) : parseN (cnfT V E L) = .ok (V, E, L) := by
  obtain ⟨⟨v0, v1, n1, n2⟩, hmo, hla, hli⟩ := formed_parts hf
  have hp : piecesFrom (cnfT V E L) 0 0 = pieceL 0 (headL V.toNat E.length) 0 ++ pieceAll ((clausesOf L 0 E).map clauseL) (lineL (headL V.toNat E.length)).length 1 := by
    have := pieces_all (headL V.toNat E.length :: (clausesOf L 0 E).map clauseL) [] 0 (fun ws hws => by
      rcases List.mem_cons.1 hws with rfl | hws
      · exact head_good _ _
      · obtain ⟨xs, _, rfl⟩ := List.mem_map.1 hws
        exact clause_good xs)
    rw [List.nil_append, ← cnf_lines] at this
    simpa [pieceAll] using this
  obtain ⟨h1, h2, h3, h4⟩ := head_fine (cnfT V E L).length V.toNat E.length (by omega) n1 (pieceAll ((clausesOf L 0 E).map clauseL) (lineL (headL V.toNat E.length)).length 1) (line_first _ (fun ws hws => by
    obtain ⟨xs, _, rfl⟩ := List.mem_map.1 hws
    exact (clause_good xs).some_) _ _)
  have hr := run_all (n := (cnfT V E L).length) (C := (E.length : Int)) v0 v1 n2 (fun x hx => by
    obtain ⟨k, hk, rfl⟩ := List.getElem_of_mem hx
    exact hli k hk) E [] 0 (lineL (headL V.toNat E.length)).length 1 (Nat.zero_le _) hmo hla (by simp)
  rw [List.take_zero, List.nil_append] at hr
  unfold parseN
  rw [if_neg (by omega), hp, h1]
  simp only
  rw [h2, h3, h4, Int.toNat_of_nonneg v0]
  have hr' : bodyRun (cnfT V E L).length V (E.length : Int) (pieceAll ((clausesOf L 0 E).map clauseL) (lineL (headL V.toNat E.length)).length 1) [] [] false = .ok (E, L) := hr
  rw [hr']
end PureCnf
