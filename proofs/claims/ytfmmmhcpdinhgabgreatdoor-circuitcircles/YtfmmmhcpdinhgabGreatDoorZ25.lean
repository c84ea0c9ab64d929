import Derived.Test.YtfmmmhcpdinhgabGreatDoorZ24
/-
  Where the names of a circuit's lines stand in its text, and their spots. Pure.
-/
namespace Go.Proofs.YtfmmmhcpdinhgabGreatDoor
open Go.RowKit Go.Deep PureNet PureRd ShfKit
set_option maxRecDepth 100000

theorem join_cons (w : List UInt8) (r : List (List UInt8)) : ∃ x, joinW (w :: r) = w ++ x ∧ (x = [] ∨ ∃ y, x = 32 :: y) := by
  cases r with
  | nil => exact ⟨[], by simp [joinW], .inl rfl⟩
  | cons v r => exact ⟨32 :: joinW (v :: r), rfl, .inr ⟨_, rfl⟩⟩
theorem take_word {w x : List UInt8} (h : ∀ c ∈ w, PlainC c) (hx : x = [] ∨ ∃ y, x = 32 :: y) : (w ++ x).takeWhile (fun c => !blankB c) = w := by
  rw [List.takeWhile_append_of_pos (fun a ha => by rw [(h a ha).2.2]; rfl)]
  rcases hx with rfl | ⟨y, rfl⟩
  · simp
  · rw [List.takeWhile_cons_of_neg (by decide), List.append_nil]
theorem wsp_join : ∀ (ws : List (List UInt8)), (∀ w ∈ ws, PlainW w) → wsp [] (joinW ws) = ws
  | [], _ => rfl
  | [w], h => by
    obtain ⟨h1, h2⟩ := h w (by simp)
    have := wsp_word w [] [] (fun c hc => (h2 c hc).2.2)
    rw [List.append_nil, List.nil_append] at this
    rw [joinW, this, wsp, fl_some h1]
  | w :: v :: r, h => by
    obtain ⟨h1, h2⟩ := h w (by simp)
    rw [joinW, wsp_word w [] _ (fun c hc => (h2 c hc).2.2), List.nil_append, wsp, if_pos (by decide), fl_some h1, wsp_join (v :: r) (fun x hx => h x (List.mem_cons_of_mem _ hx))]
    rfl
theorem join_plain {ws : List (List UInt8)} (h : ∀ w ∈ ws, PlainW w) : ∀ c ∈ joinW ws, c ≠ 10 ∧ c ≠ 35 := join_bytes (P := fun c => c ≠ 10 ∧ c ≠ 35) (by decide) ws (fun w hw c hc => ⟨((h w hw).2 c hc).1, ((h w hw).2 c hc).2.1⟩)
theorem hash_join {ws : List (List UInt8)} (h : ∀ w ∈ ws, PlainW w) : cutHash (joinW ws) = joinW ws := by
  unfold cutHash
  have := List.takeWhile_append_of_pos (p := fun c : UInt8 => c != 35) (l₁ := joinW ws) (l₂ := []) (fun a ha => by simpa using (join_plain h a ha).2)
  simpa using this
theorem wtx_join {ws : List (List UInt8)} (h : ∀ w ∈ ws, PlainW w) (p : Nat) : wtx (wordsOf (joinW ws) p) = ws := by
  have := words_wsp (joinW ws) p
  rw [hash_join h, wsp_join ws h] at this
  exact this
theorem words_two (w0 w1 : List UInt8) (r : List (List UInt8)) (p : Nat) (h : ∀ w ∈ w0 :: w1 :: r, PlainW w) : ∃ tl, wordsOf (joinW (w0 :: w1 :: r)) p = (w0, p) :: (w1, p + (w0.length + 1)) :: tl := by
  obtain ⟨n0, p0⟩ := h w0 (by simp)
  obtain ⟨n1, p1⟩ := h w1 (by simp)
  unfold wordsOf
  rw [hash_join h]
  obtain ⟨x, hx, hx2⟩ := join_cons w1 r
  have e : joinW (w0 :: w1 :: r) = w0 ++ 32 :: joinW (w1 :: r) := rfl
  rw [e]
  have nb : ∀ (w y : List UInt8), w ≠ [] → (∀ c ∈ w, PlainC c) → (w ++ y).dropWhile blankB = w ++ y := fun w y hn hp => by
    cases w with
    | nil => exact absurd rfl hn
    | cons a t => rw [List.cons_append, List.dropWhile_cons_of_neg (by rw [(hp a (by simp)).2.2]; decide)]
  rw [nb w0 _ n0 p0]
  obtain ⟨m, hm⟩ : ∃ m, (w0 ++ 32 :: joinW (w1 :: r)).length = m + 1 := ⟨w0.length + (joinW (w1 :: r)).length, by simp only [List.length_append, List.length_cons]; omega⟩
  rw [hm, wr, if_neg (by simp [n0]), take_word p0 (.inr ⟨_, rfl⟩), List.drop_left, List.dropWhile_cons_of_pos (by decide), hx, nb w1 x n1 p1, wr, if_neg (by simp [n1]), take_word p1 hx2]
  have l1 : (w0 ++ 32 :: (w1 ++ x)).length = m + 1 := by rw [← hx]; exact hm
  have l2 : m + 1 - (w1 ++ x).length = w0.length + 1 := by
    simp only [List.length_append, List.length_cons] at l1 ⊢
    omega
  rw [l1, l2, Nat.sub_self, Nat.add_zero]
  exact ⟨_, rfl⟩
theorem line_step1 (T : Nat → List UInt8) {text pre rest : List UInt8} {ws : List (List UInt8)} (ht : text = pre ++ (joinW ws ++ 10 :: rest)) (h : ∀ w ∈ ws, PlainW w) (f : Nat) (s : Rs) (hs : s.fault = none) :
    linesF T text (f + 1) pre.length s = linesF T text f (pre ++ joinW ws ++ [10]).length (lineF T (wordsOf (joinW ws) pre.length) s) := by
  have hd : text.drop pre.length = joinW ws ++ 10 :: rest := by rw [ht, List.drop_left]
  have hc : cutLine (joinW ws ++ 10 :: rest) = joinW ws := by
    unfold cutLine
    rw [List.takeWhile_append_of_pos (fun a ha => by simpa using (join_plain h a ha).1), List.takeWhile_cons_of_neg (by decide), List.append_nil]
  rw [linesF, if_pos ⟨by rw [ht]; simp only [List.length_append, List.length_cons]; omega, hs⟩, hd, hc]
  congr 1
  simp only [List.length_append, List.length_cons, List.length_nil]
  omega
/-- the front of a circuit's text: its head and its first k lines. -/
def frontU (T : Nat → List UInt8) (gs : List Ga) (cn : List UInt8) (k : Nat) : List UInt8 := joinW [[99, 105, 114, 99, 117, 105, 116], cn] ++ [10] ++ textW ((gs.take k).map fun g => wordsG T gs g g.name.data.toList)
theorem front_step (T : Nat → List UInt8) (gs : List Ga) (cn : List UInt8) (k : Nat) (g : Ga) (h : gs[k]? = some g) : frontU T gs cn (k + 1) = frontU T gs cn k ++ joinW (wordsG T gs g g.name.data.toList) ++ [10] := by
  unfold frontU textW
  rw [List.take_add_one, h]
  simp
theorem front_text (T : Nat → List UInt8) (gs : List Ga) (cn : List UInt8) (os : List Int) (k : Nat) : ∃ rest, textW (wordsN T gs cn os) = frontU T gs cn k ++ rest := by
  refine ⟨textW ((gs.drop k).map fun g => wordsG T gs g g.name.data.toList) ++ textW (os.map (fun a => [[111, 117, 116, 112, 117, 116], nmG gs a.toNat]) ++ [[[101, 110, 100]]]), ?_⟩
  unfold frontU textW wordsN
  rw [List.flatMap_cons, List.flatMap_append]
  have e : gs.map (fun g => wordsG T gs g g.name.data.toList) = (gs.take k).map (fun g => wordsG T gs g g.name.data.toList) ++ (gs.drop k).map (fun g => wordsG T gs g g.name.data.toList) := by rw [← List.map_append, List.take_append_drop]
  rw [e, List.flatMap_append]
  simp
/-- a line's first word. -/
def kwG (k : Int) : List UInt8 := if k = 1 then [105, 110, 112, 117, 116] else if k = 2 then [103, 97, 116, 101] else if k = 3 then [108, 97, 116, 99, 104] else [109, 117, 120]
theorem words_front (T : Nat → List UInt8) (gs : List Ga) (g : Ga) (nm : List UInt8) (hk : 1 ≤ g.kind ∧ g.kind ≤ 4) : ∃ r, wordsG T gs g nm = kwG g.kind :: nm :: r := by
  unfold wordsG kwG
  rcases (show g.kind = 1 ∨ g.kind = 2 ∨ g.kind = 3 ∨ g.kind = 4 by omega) with e | e | e | e <;> simp [e]
theorem kwG_is (k : Int) : kwG k = [105, 110, 112, 117, 116] ∨ kwG k = [103, 97, 116, 101] ∨ kwG k = [108, 97, 116, 99, 104] ∨ kwG k = [109, 117, 120] := by
  unfold kwG
  (repeat' split) <;> simp
set_option maxHeartbeats 1000000 in
theorem walk_names {T : Nat → List UInt8} {c : Net} (h : Named c) (hT : TabOk T) {text : List UInt8} (ht : text = textW (wordsN T c.gates (bl c.name) c.outs)) : ∀ (i : Nat), i ≤ c.gates.length →
    ∃ s G f, f + (i + 1) = text.length + 1 ∧ linesF T text (text.length + 1) 0 PureRd.start = linesF T text f (frontU T c.gates (bl c.name) i).length s ∧ Eqv s G ∧ GS c.gates (bl c.name) i G ∧ ∀ k g, k < i → c.gates[k]? = some g → s.names[k]? = some ((frontU T c.gates (bl c.name) k).length + ((kwG g.kind).length + 1)) := by
  have hp := wordsN_plain (os := c.outs) hT.plain h.name (fun g hg => (h.lnv hT g hg).1) (fun g hg => (h.lnv hT g hg).2) (fun g hg => by
    obtain ⟨i, hi⟩ := List.getElem?_of_mem hg
    exact (h.lines i g hi).1) (fun a ha => h.nmI (h.outs a ha))
  have hpl : ∀ l ∈ wordsN T c.gates (bl c.name) c.outs, ∀ w ∈ l, PlainW w := fun l hl w hw => ((hp l hl).2 w hw).1
  intro i
  induction i with
  | zero =>
    intro _
    have hh : ∀ w ∈ [[99, 105, 114, 99, 117, 105, 116], bl c.name], PlainW w := hpl _ (by unfold wordsN; simp)
    obtain ⟨rest, hrest⟩ := front_text T c.gates (bl c.name) c.outs 0
    have e0 : frontU T c.gates (bl c.name) 0 = joinW [[99, 105, 114, 99, 117, 105, 116], bl c.name] ++ [10] := by unfold frontU textW; simp
    have ht2 : text = [] ++ (joinW [[99, 105, 114, 99, 117, 105, 116], bl c.name] ++ 10 :: rest) := by rw [ht, hrest, e0]; simp
    have hst := line_step1 T ht2 hh text.length PureRd.start rfl
    obtain ⟨tl, htl⟩ := words_two [99, 105, 114, 99, 117, 105, 116] (bl c.name) [] 0 hh
    have hwt := wtx_join hh 0
    have htn : tl = [] := by
      rw [htl] at hwt
      simpa using hwt
    rw [htn] at htl
    obtain ⟨l, el⟩ := line_head T (bl c.name) h.name
    have hE : Eqv (lineF T (wordsOf (joinW [[99, 105, 114, 99, 117, 105, 116], bl c.name]) 0) PureRd.start) (lineF T (bare [[99, 105, 114, 99, 117, 105, 116], bl c.name]) PureRd.start) := (Eqv.refl _).line T _ _ (by rw [wtx_bare]; exact hwt)
    refine ⟨_, _, text.length, rfl, ?_, hE, ?_, fun k g hk => by omega⟩
    · have e1 : (frontU T c.gates (bl c.name) 0).length = ([] ++ joinW [[99, 105, 114, 99, 117, 105, 116], bl c.name] ++ [10]).length := by rw [e0, List.nil_append]
      rw [e1]
      exact hst
    · rw [el]
      exact ⟨⟨rfl, rfl, rfl⟩, rfl, fun p => by simp [PureRd.start], by simp [PureRd.start], rfl, rfl⟩
  | succ i ih =>
    intro hi
    obtain ⟨s, G, f, hf, hl, hE, hG, hn⟩ := ih (by omega)
    have hg : c.gates[i]? = some c.gates[i] := List.getElem?_eq_getElem (by omega)
    obtain ⟨rest, hrest⟩ := front_text T c.gates (bl c.name) c.outs (i + 1)
    have hmem : wordsG T c.gates c.gates[i] c.gates[i].name.data.toList ∈ wordsN T c.gates (bl c.name) c.outs := by
      unfold wordsN
      refine List.mem_cons_of_mem _ (List.mem_append_left _ (List.mem_map.2 ⟨_, List.mem_of_getElem? hg, rfl⟩))
    have hh := hpl _ hmem
    have ht2 : text = frontU T c.gates (bl c.name) i ++ (joinW (wordsG T c.gates c.gates[i] c.gates[i].name.data.toList) ++ 10 :: rest) := by rw [ht, hrest, front_step T _ _ i _ hg]; simp
    have hlen : i + 1 ≤ (frontU T c.gates (bl c.name) i).length := by
      have key : ∀ k, k ≤ c.gates.length → k + 1 ≤ (frontU T c.gates (bl c.name) k).length := by
        intro k
        induction k with
        | zero => intro _; unfold frontU; simp only [List.length_append, List.length_cons, List.length_nil]; omega
        | succ k ihk =>
          intro hk
          have := ihk (by omega)
          rw [front_step T _ _ k _ (List.getElem?_eq_getElem (by omega))]
          simp only [List.length_append, List.length_cons, List.length_nil]
          omega
      exact key i (by omega)
    have htl : (frontU T c.gates (bl c.name) i).length < text.length := by rw [ht2]; simp only [List.length_append, List.length_cons]; omega
    obtain ⟨f', rfl⟩ : ∃ f', f = f' + 1 := ⟨f - 1, by omega⟩
    have hk := (h.fits _ (List.mem_of_getElem? hg)).kind
    obtain ⟨r, hr⟩ := words_front T c.gates c.gates[i] c.gates[i].name.data.toList hk
    have hsf : s.fault = none := hE.none.2 hG.clear.fault
    have hst := line_step1 T ht2 hh f' s hsf
    have hwt := wtx_join hh (frontU T c.gates (bl c.name) i).length
    have hnm : nmG c.gates i = c.gates[i].name.data.toList := nmG_at hg
    have hE2 : Eqv (lineF T (wordsOf (joinW (wordsG T c.gates c.gates[i] c.gates[i].name.data.toList)) (frontU T c.gates (bl c.name) i).length) s) (lineF T (bare (wordsG T c.gates c.gates[i] (nmG c.gates i))) G) := hE.line T _ _ (by rw [wtx_bare, hnm]; exact hwt)
    have hG2 := hG.line h.nmApart hg (h.lnv hT _ (List.mem_of_getElem? hg)).1 (h.nm (by omega)) (by have := h.few; omega)
    refine ⟨_, _, f', by omega, ?_, hE2, hG2, fun k g hk2 hkg => ?_⟩
    · rw [hl, hst, front_step T _ _ i _ hg]
    · rw [hr] at hh ⊢
      obtain ⟨tl, htl2⟩ := words_two (kwG c.gates[i].kind) c.gates[i].name.data.toList r (frontU T c.gates (bl c.name) i).length hh
      rw [htl2, gate_names T _ _ _ s (by rw [hE.mode]; exact hG.clear.mode) (kwG_is _)]
      have hsl : s.names.length = i := by rw [hE.names, hG.names]
      by_cases hki : k < i
      · rw [List.getElem?_append_left (by omega)]
        exact hn k g hki hkg
      · obtain rfl : k = i := by omega
        rw [List.getElem?_append_right (by omega), hsl, Nat.sub_self]
        have : c.gates[k] = g := Option.some.inj (hg.symm.trans hkg)
        rw [this]
        rfl
theorem names_pos {T : Nat → List UInt8} {c : Net} (h : Named c) (hT : TabOk T) {k : Nat} {g : Ga} (hg : c.gates[k]? = some g) : (readLinesF T (textT (tbOf T) c) PureRd.start).names.getD k 0 = (frontU T c.gates (bl c.name) k).length + ((kwG g.kind).length + 1) := by
  obtain ⟨text, ht⟩ : ∃ text, text = textT (tbOf T) c := ⟨_, rfl⟩
  have ht2 : text = textW (wordsN T c.gates (bl c.name) c.outs) := by rw [ht, text_words T c (fun i g hg => (h.lines i g hg).2)]
  obtain ⟨s, G, f, _, hl, _, _, hn⟩ := walk_names h hT ht2 c.gates.length (Nat.le_refl _)
  have hk := hn k g (List.getElem?_eq_some_iff.1 hg).1 hg
  obtain ⟨q, hq⟩ := lines_names T text f (frontU T c.gates (bl c.name) c.gates.length).length s
  have hfin : (readLinesF T text PureRd.start).names = s.names ++ q := by
    unfold readLinesF
    split
    · rw [(refuse_same _ _ _).names, hl, hq]
    · rw [hl, hq]
  rw [← ht, hfin, List.getD_eq_getElem?_getD, List.getElem?_append_left (List.getElem?_eq_some_iff.1 hk).1, hk]
  rfl
theorem spot_plain : ∀ (w a : List UInt8), (∀ c ∈ w, c ≠ 10) → spotN (a ++ w) = ((spotN a).1, (spotN a).2 + w.length)
  | [], a, _ => by simp
  | c :: w, a, h => by
    have hc : ¬ c.toNat = 10 := fun e => h c (by simp) (UInt8.toNat_inj.1 (by rw [e]; rfl))
    have h1 := spot_plain w (a ++ [c]) (fun x hx => h x (List.mem_cons_of_mem _ hx))
    rw [List.append_assoc, spotN_snoc, if_neg hc] at h1
    rw [show a ++ c :: w = a ++ ([c] ++ w) from rfl, h1]
    simp only [List.length_cons]
    congr 1
    omega
theorem spot_front {T : Nat → List UInt8} {c : Net} (h : Named c) (hT : TabOk T) : ∀ k, k ≤ c.gates.length → spotN (frontU T c.gates (bl c.name) k) = (k + 2, 1) := by
  have hp := wordsN_plain (os := c.outs) hT.plain h.name (fun g hg => (h.lnv hT g hg).1) (fun g hg => (h.lnv hT g hg).2) (fun g hg => by
    obtain ⟨i, hi⟩ := List.getElem?_of_mem hg
    exact (h.lines i g hi).1) (fun a ha => h.nmI (h.outs a ha))
  have hpl : ∀ l ∈ wordsN T c.gates (bl c.name) c.outs, ∀ x ∈ joinW l, x ≠ 10 := fun l hl x hx => (join_plain (fun w hw => ((hp l hl).2 w hw).1) x hx).1
  intro k
  induction k with
  | zero =>
    intro _
    have e0 : frontU T c.gates (bl c.name) 0 = [] ++ joinW [[99, 105, 114, 99, 117, 105, 116], bl c.name] ++ [10] := by unfold frontU textW; simp
    rw [e0, spotN_snoc, if_pos (by decide), spot_plain _ [] (hpl _ (by unfold wordsN; simp))]
    rfl
  | succ k ih =>
    intro hk
    have hg : c.gates[k]? = some c.gates[k] := List.getElem?_eq_getElem (by omega)
    rw [front_step T _ _ k _ hg, spotN_snoc, if_pos (by decide), spot_plain _ _ (hpl _ (by
      unfold wordsN
      refine List.mem_cons_of_mem _ (List.mem_append_left _ (List.mem_map.2 ⟨_, List.mem_of_getElem? hg, rfl⟩)))), ih (by omega)]
/-- the spot of a line's name. -/
theorem spot_name {T : Nat → List UInt8} {c : Net} (h : Named c) (hT : TabOk T) {k : Nat} {g : Ga} (hg : c.gates[k]? = some g) : spotN ((textT (tbOf T) c).take ((readLinesF T (textT (tbOf T) c) PureRd.start).names.getD k 0)) = (k + 2, (kwG g.kind).length + 2) := by
  have hk := (List.getElem?_eq_some_iff.1 hg).1
  rw [names_pos h hT hg]
  have hkd := (h.fits _ (List.mem_of_getElem? hg)).kind
  obtain ⟨rest, hrest⟩ := front_text T c.gates (bl c.name) c.outs (k + 1)
  obtain ⟨r, hr⟩ := words_front T c.gates g g.name.data.toList hkd
  have e1 : textT (tbOf T) c = (frontU T c.gates (bl c.name) k ++ (kwG g.kind ++ [32])) ++ (joinW (g.name.data.toList :: r) ++ [10] ++ rest) := by
    rw [text_words T c (fun i g hg => (h.lines i g hg).2), hrest, front_step T _ _ k g hg, hr]
    simp [joinW]
  have e2 : (frontU T c.gates (bl c.name) k).length + ((kwG g.kind).length + 1) = (frontU T c.gates (bl c.name) k ++ (kwG g.kind ++ [32])).length := by simp
  rw [e1, e2, List.take_left, spot_plain _ _ (fun x hx => ?_), spot_front h hT k (by omega)]
  · simp
    omega
  · rcases List.mem_append.1 hx with hx | hx
    · have key : ∀ y ∈ kwG g.kind, y ≠ 10 := by
        rcases kwG_is g.kind with e | e | e | e <;> rw [e] <;> decide
      exact key x hx
    · have : x = 32 := by simpa using hx
      rw [this]
      decide
end Go.Proofs.YtfmmmhcpdinhgabGreatDoor
/-
  A line of a made circuit that is made to lean on another: what becomes of circles. Pure, then Parse.
-/
namespace Go.Proofs.YtfmmmhcpdinhgabGreatDoor
open Go.RowKit Go.Deep PureNet PureRd ShfKit
set_option maxRecDepth 100000

/-- the line at x leans on y. -/
def leanTo (c : Net) (x y : Nat) : Net := { c with gates := c.gates.modify x fun g => { g with a := (y : Int) } }
theorem lean_len (c : Net) (x y : Nat) : (leanTo c x y).gates.length = c.gates.length := by unfold leanTo; simp
theorem lean_at (c : Net) (x y i : Nat) : (leanTo c x y).gates[i]? = if x = i then (c.gates[i]?).map (fun g => { g with a := (y : Int) }) else c.gates[i]? := by
  unfold leanTo
  simp only [List.getElem?_modify]
  split <;> simp_all
theorem lean_other {c : Net} {x y i : Nat} (h : i ≠ x) : (leanTo c x y).gates[i]? = c.gates[i]? := by rw [lean_at, if_neg (fun e => h e.symm)]
theorem lean_same {c : Net} {x y : Nat} {g : Ga} (hg : c.gates[x]? = some g) : (leanTo c x y).gates[x]? = some { g with a := (y : Int) } := by rw [lean_at, if_pos rfl, hg]; rfl
section
variable {c : Net} {x y : Nat} {g : Ga}
theorem lean_named (h : Named c) (hg : c.gates[x]? = some g) (hk : g.kind = 2) (hy : y < c.gates.length) : Named (leanTo c x y) := by
  have one : ∀ (i : Nat) (k : Ga), (leanTo c x y).gates[i]? = some k → ∃ k0, c.gates[i]? = some k0 ∧ k.name = k0.name ∧ (k = k0 ∨ (i = x ∧ k = { g with a := (y : Int) })) := fun i k hk => by
    by_cases hi : i = x
    · subst hi
      rw [lean_same hg] at hk
      obtain rfl := Option.some.inj hk
      exact ⟨g, hg, rfl, .inr ⟨rfl, rfl⟩⟩
    · rw [lean_other hi] at hk
      exact ⟨k, hk, rfl, .inl rfl⟩
  refine ⟨h.name, by rw [lean_len]; exact h.few, h.fewOuts, fun i k hi => ?_, fun i j k m hi hj e => ?_, fun o ho => by rw [lean_len]; exact h.outs o ho⟩
  · obtain ⟨k0, h0, e, h1⟩ := one i k hi
    obtain ⟨n1, n2⟩ := h.lines i k0 h0
    refine ⟨by rw [e]; exact n1, ?_⟩
    rw [lean_len]
    rcases h1 with rfl | ⟨rfl, rfl⟩
    · exact n2
    · rw [hg] at h0
      obtain rfl := Option.some.inj h0
      simp only [lineB, Bool.and_eq_true, decide_eq_true_eq, fieldB, hk] at n2 ⊢
      refine ⟨⟨⟨n2.1.1.1, ?_⟩, n2.1.2⟩, n2.2⟩
      simp
      omega
  · obtain ⟨k0, h0, e0, _⟩ := one i k hi
    obtain ⟨m0, h1, e1, _⟩ := one j m hj
    exact h.apart i j k0 m0 h0 h1 (by rw [← e0, ← e1]; exact e)
theorem lean_leans {i j : Nat} (h : Leans (leanTo c x y).gates i j) : Leans c.gates i j ∨ (i = x ∧ j = y) := by
  obtain ⟨k, hk, hj⟩ := h
  by_cases hi : i = x
  · subst hi
    rw [lean_at, if_pos rfl] at hk
    obtain ⟨k0, h0, rfl⟩ := Option.map_eq_some_iff.1 hk
    unfold leansOn at hj
    by_cases e2 : k0.kind = 2
    · simp [e2] at hj
      rcases hj with e | e
      · exact .inr ⟨rfl, by omega⟩
      · exact .inl ⟨k0, h0, by unfold leansOn; simp [e2, e]⟩
    · by_cases e4 : k0.kind = 4
      · simp [e4] at hj
        rcases hj with e | e | e
        · exact .inr ⟨rfl, by omega⟩
        · exact .inl ⟨k0, h0, by unfold leansOn; simp [e4, e]⟩
        · exact .inl ⟨k0, h0, by unfold leansOn; simp [e4, e]⟩
      · simp [e2, e4] at hj
  · rw [lean_other hi] at hk
    exact .inl ⟨k, hk, hj⟩
theorem lean_keeps {i j : Nat} (hi : i ≠ x) (h : Leans c.gates i j) : Leans (leanTo c x y).gates i j := by
  obtain ⟨k, hk, hj⟩ := h
  exact ⟨k, by rw [lean_other hi]; exact hk, hj⟩
theorem lean_edge (hg : c.gates[x]? = some g) (hk : g.kind = 2) : Leans (leanTo c x y).gates x y := ⟨_, lean_same hg, by unfold leansOn; simp [hk]⟩
/-- what does not lean on x may be leant on. -/
theorem lean_free (h : Made c) (hx : x < c.gates.length) (hy : y < c.gates.length) (hn : ¬ (x = y ∨ PureNet.Way c.gates y x)) : ∀ i, ¬ PureNet.Way (leanTo c x y).gates i i := by
  have hr : ∃ r : Nat → Nat, (∀ j, (j = x ∨ PureNet.Way c.gates j x) → r j = j + c.gates.length) ∧ (∀ j, ¬ (j = x ∨ PureNet.Way c.gates j x) → r j = j) := by
    refine ⟨fun j => open Classical in if (j = x ∨ PureNet.Way c.gates j x) then j + c.gates.length else j, fun j hj => ?_, fun j hj => ?_⟩
    · simp only [if_pos hj]
    · simp only [if_neg hj]
  obtain ⟨r, r1, r2⟩ := hr
  refine (show Ranked (leanTo c x y).gates r from fun i j hl => ?_).free
  rcases lean_leans hl with hl2 | ⟨rfl, rfl⟩
  · have hd := h.above i j hl2
    by_cases hj : j = x ∨ PureNet.Way c.gates j x
    · have hi : i = x ∨ PureNet.Way c.gates i x := by
        rcases hj with rfl | hj
        · exact .inr (.one hl2)
        · exact .inr (.more hl2 hj)
      rw [r1 j hj, r1 i hi]
      omega
    · rw [r2 j hj]
      by_cases hi : i = x ∨ PureNet.Way c.gates i x
      · rw [r1 i hi]; omega
      · rw [r2 i hi]; exact hd
  · have hj : ¬ (j = i ∨ PureNet.Way c.gates j i) := fun e => hn (by
      rcases e with e | e
      · exact .inl e.symm
      · exact .inr e)
    rw [r2 j hj, r1 i (.inl rfl)]
    omega
theorem way_above (h : Made c) {i j : Nat} (hw : PureNet.Way c.gates i j) : j < i := (show Ranked c.gates id from fun a b hl => h.above a b hl).way hw
/-- what leans on x, leant on, makes a circle, and x is the first line in it. -/
theorem lean_circle (h : Made c) (hg : c.gates[x]? = some g) (hk : g.kind = 2) (hn : x = y ∨ PureNet.Way c.gates y x) {r : Int} (hr : CircleIs (leanTo c x y).gates r) : r = (x : Int) := by
  have keep : ∀ i j, PureNet.Way c.gates i j → j = x → PureNet.Way (leanTo c x y).gates i j := fun i j hw => by
    induction hw using PureNet.Way.ind with
    | @one a b hl =>
      intro e
      subst e
      have := h.above a b hl
      exact .one (lean_keeps (by omega) hl)
    | @more a b d hl hw ih =>
      intro e
      subst e
      have h1 := h.above a b hl
      have h2 := way_above h hw
      exact .more (lean_keeps (by omega) hl) (ih rfl)
  have hxx : PureNet.Way (leanTo c x y).gates x x := by
    rcases hn with e | hw
    · have := lean_edge (c := c) (y := y) hg hk
      rw [← e] at this
      rw [← e]
      exact .one this
    · exact .more (lean_edge hg hk) (keep y x hw rfl)
  have up : ∀ i j, PureNet.Way (leanTo c x y).gates i j → i < x → j < i := fun i j hw => by
    induction hw using PureNet.Way.ind with
    | @one a b hl =>
      intro hi
      rcases lean_leans hl with h1 | ⟨e, _⟩
      · exact h.above a b h1
      · omega
    | @more a b d hl hw ih =>
      intro hi
      rcases lean_leans hl with h1 | ⟨e, _⟩
      · have h2 := h.above a b h1
        have := ih (by omega)
        omega
      · omega
  rcases hr with ⟨_, hno⟩ | ⟨i, rfl, _, hw, hmin⟩
  · exact absurd hxx (hno x)
  · have h1 : ¬ i < x := fun hi => Nat.lt_irrefl _ (up i i hw hi)
    have h2 : ¬ x < i := fun hi => hmin x hi hxx
    omega
end
theorem lean_formed {c : Net} {x y : Nat} {g : Ga} (h : Made c) (hg : c.gates[x]? = some g) (hk : g.kind = 2) (hy : y < c.gates.length) (hn : ¬ (x = y ∨ PureNet.Way c.gates y x)) : PureNet.Formed (leanTo c x y) := by
  have hm := lean_named (named_of h.formed) hg hk hy
  exact ⟨hm.name, hm.few, hm.fewOuts, hm.lines, hm.apart, hm.outs, lean_free h (List.getElem?_eq_some_iff.1 hg).1 hy hn⟩
theorem lean_unformed {c : Net} {x y : Nat} {g : Ga} (h : Made c) (hg : c.gates[x]? = some g) (hk : g.kind = 2) (hn : x = y ∨ PureNet.Way c.gates y x) : ¬ PureNet.Formed (leanTo c x y) := fun hf => by
  have := lean_circle h hg hk hn (r := -1) (.inl ⟨rfl, hf.free⟩)
  omega
theorem parse_circle {T : Nat → List UInt8} {c : Net} {x y : Nat} {g : Ga} (hT : TabOk T) (h : Made c) (hg : c.gates[x]? = some g) (hk : g.kind = 2) (hy : y < c.gates.length) (hn : x = y ∨ PureNet.Way c.gates y x) (hl : (textT (tbOf T) (leanTo c x y)).length ≤ 1048576) (w : World) (hops : OpsT w T) (hkd : KindsAt w) :
    Calls Tryz.prog 8 #[str (textT (tbOf T) (leanTo c x y))] w fun e W => e = .returned (.tuple #[.agg #[.string ⟨#[]⟩, .slice none 0 0, .slice none 0 0], .agg #[.int .i64 143, .int .i64 ((x + 2 : Nat) : Int), .int .i64 6]]) ∧ Below w.heap.size w W := by
  have hm := lean_named (named_of h.formed) hg hk hy
  have hd := hm.done hT _ (Resp.refl _)
  refine (parse_any T _ w hl hd.2 hops hkd).mono fun e W ⟨h1, h2⟩ => ⟨?_, h2⟩
  have hc := hm.conn hT _ (Resp.refl (textT (tbOf T) (leanTo c x y)))
  rcases h1 with ⟨p, hp, _⟩ | ⟨_, z, gs, os, hz, _⟩ | ⟨_, gs, os, k, hz, hci, hr⟩
  · rw [hd.1.fault] at hp
    cases hp
  · rw [hc] at hz
    cases hz
  · rw [hc] at hz
    simp only [Prod.mk.injEq, true_and] at hz
    obtain ⟨rfl, rfl⟩ := hz
    obtain rfl := lean_circle h hg hk hn hci
    rcases hr with ⟨_, he⟩ | ⟨h3, _⟩
    · have hs := spot_name hm hT (k := x) (lean_same hg)
      rw [he]
      unfold faultV
      rw [Int.toNat_natCast, hs]
      simp [kwG, hk]
    · omega
end Go.Proofs.YtfmmmhcpdinhgabGreatDoor
/-
  DERIVED: THE SHELF's CONTRACTS AT THIS DUMP, IN PLAIN WORDS (tools/lay-plain.mjs out of 'YtfmmmhcpdinhgabGreatDoorShelf.lean', which tools/lay-shelf.mjs wrote): THE SAME DECLARATIONS UNDER THE SAME NAMES: 'import', 'namespace', 'open', 'def', 'theorem' AND NOTHING ELSE: no command of the shelf's: FOR A HAND-IN. Each laying: the table of numbers ('.._ren') and one theorem, a field a fact of the dump's own or the kernel's comparison; each contract: ONE APPLICATION.
-/
namespace Go.Proofs
open Go.Shelf
def Tryz.lays189_ren : Go.Shelf.Ren := ⟨fun | 189 => 22 | 125 => 40 | 257 => 39 | 128 => 70 | 129 => 71 | 294 => 61 | 295 => 62 | 296 => 63 | 297 => 64 | 298 => 65 | 299 => 66 | 216 => 67 | 300 => 68 | 301 => 69 | 328 => 85 | 329 => 86 | 330 => 87 | 331 => 88 | 332 => 89 | 215 => 90 | 343 => 103 | n => n, fun | 28 => 22 | 3 => 3 | 46 => 85 | 0 => 0 | 51 => 115 | 53 => 117 | 4 => 4 | 183 => 109 | 182 => 108 | 131 => 106 | 5 => 5 | 9 => 9 | 218 => 127 | 222 => 131 | 228 => 145 | 229 => 146 | n => n, fun | n => n⟩
theorem Tryz.lays189 : Go.Proofs.Lays.n189 Tryz.prog Tryz.lays189_ren := {
  mixed := by kernel_rfl
  f125 := Tryz.func40.trans (congrArg some (by kernel_rfl))
  f128 := Tryz.func70.trans (congrArg some (by kernel_rfl))
  f129 := Tryz.func71.trans (congrArg some (by kernel_rfl))
  f189 := Tryz.func22.trans (congrArg some (by kernel_rfl))
  f215 := Tryz.func90.trans (congrArg some (by kernel_rfl))
  f216 := Tryz.func67.trans (congrArg some (by kernel_rfl))
  f257 := Tryz.func39.trans (congrArg some (by kernel_rfl))
  f294 := Tryz.func61.trans (congrArg some (by kernel_rfl))
  f295 := Tryz.func62.trans (congrArg some (by kernel_rfl))
  f296 := Tryz.func63.trans (congrArg some (by kernel_rfl))
  f297 := Tryz.func64.trans (congrArg some (by kernel_rfl))
  f298 := Tryz.func65.trans (congrArg some (by kernel_rfl))
  f299 := Tryz.func66.trans (congrArg some (by kernel_rfl))
  f300 := Tryz.func68.trans (congrArg some (by kernel_rfl))
  f301 := Tryz.func69.trans (congrArg some (by kernel_rfl))
  f328 := Tryz.func85.trans (congrArg some (by kernel_rfl))
  f329 := Tryz.func86.trans (congrArg some (by kernel_rfl))
  f330 := Tryz.func87.trans (congrArg some (by kernel_rfl))
  f331 := Tryz.func88.trans (congrArg some (by kernel_rfl))
  f332 := Tryz.func89.trans (congrArg some (by kernel_rfl))
  f343 := Tryz.func103.trans (congrArg some (by kernel_rfl))
  t0 := Tryz.underlying0
  a0 := Tryz.isAgg0
  z0 := Tryz.sizeOf0
  v0 := Tryz.zeroValue0
  t3 := Tryz.underlying3
  a3 := Tryz.isAgg3
  z3 := Tryz.sizeOf3
  v3 := Tryz.zeroValue3
  t4 := Tryz.underlying4
  a4 := Tryz.isAgg4
  z4 := Tryz.sizeOf4
  v4 := Tryz.zeroValue4
  t5 := Tryz.underlying5
  a5 := Tryz.isAgg5
  z5 := Tryz.sizeOf5
  v5 := Tryz.zeroValue5
  t9 := Tryz.underlying9
  a9 := Tryz.isAgg9
  z9 := Tryz.sizeOf9
  v9 := Tryz.zeroValue9
  t28 := Tryz.underlying22
  a28 := Tryz.isAgg22
  z28 := Tryz.sizeOf22
  v28 := Tryz.zeroValue22
  t46 := Tryz.underlying85
  a46 := Tryz.isAgg85
  z46 := Tryz.sizeOf85
  v46 := Tryz.zeroValue85
  t51 := Tryz.underlying115
  a51 := Tryz.isAgg115
  z51 := Tryz.sizeOf115
  v51 := Tryz.zeroValue115
  t53 := Tryz.underlying117
  a53 := Tryz.isAgg117
  z53 := Tryz.sizeOf117
  v53 := Tryz.zeroValue117
  t131 := Tryz.underlying106
  a131 := Tryz.isAgg106
  z131 := Tryz.sizeOf106
  v131 := Tryz.zeroValue106
  t182 := Tryz.underlying108
  a182 := Tryz.isAgg108
  z182 := Tryz.sizeOf108
  v182 := Tryz.zeroValue108
  t183 := Tryz.underlying109
  a183 := Tryz.isAgg109
  z183 := Tryz.sizeOf109
  v183 := Tryz.zeroValue109
  t218 := Tryz.underlying127
  a218 := Tryz.isAgg127
  z218 := Tryz.sizeOf127
  v218 := Tryz.zeroValue127
  t222 := Tryz.underlying131
  a222 := Tryz.isAgg131
  z222 := Tryz.sizeOf131
  v222 := Tryz.zeroValue131
  t228 := Tryz.underlying145
  a228 := Tryz.isAgg145
  z228 := Tryz.sizeOf145
  v228 := Tryz.zeroValue145
  t229 := Tryz.underlying146
  a229 := Tryz.isAgg146
  z229 := Tryz.sizeOf146
  v229 := Tryz.zeroValue146 }
open Go.Sort Go.RowKit in
theorem Tryz.slices_Sort_int (blk off cap : Nat) (zs : List Int) (w : World) (hH : Holds (Value.int .i64) w blk off zs.toArray) (hblk : blk < w.heap.size) (hsz : zs.length < 4611686018427387904) :
    Calls Tryz.prog 22 #[.slice (some ⟨blk, off, none⟩) zs.length cap] w fun e w' =>
      e = .returned (.tuple #[]) ∧ ∃ n os, w' = grow (putRow (Value.int .i64) (Sort.ahead w n) blk off (zs.mergeSort fun x y => decide (x ≤ y)).toArray) os := Any.slices_Sort_int Tryz.lays189 blk off cap zs w hH hblk hsz
end Go.Proofs
/-
  The program's Cone.
-/
namespace Go.Proofs.YtfmmmhcpdinhgabGreatDoor
open Go.RowKit Go.Deep PureNet ShfKit Go.Sort
set_option maxRecDepth 100000


structure ConeL (c : Net) (p : Nat) (L : List Nat) : Prop where
  up : ∀ i x y, L[i]? = some x → L[i + 1]? = some y → x < y
  mem : ∀ x, x ∈ L ↔ (x = p ∨ PureNet.Way c.gates p x)
  lt : ∀ x ∈ L, x < c.gates.length
  few : L.length ≤ c.gates.length
def nn2 (l : List Nat) : List Value := l.map fun (k : Nat) => .int .i64 (k : Int)
def ConeOk (f : Nat) : Prop := ∀ (c : Net) (sg so : Option Addr) (cg co p : Nat) (w : World), CirAt w c sg so → KindsAt w → Formed c → p < c.gates.length →
  Calls Tryz.prog f #[cirV c sg cg so co, .int .i64 (p : Int)] w fun e w' => (∃ s k L, e = .returned (.tuple #[.slice s L.length k, .int .i64 0]) ∧ CellsAt w' s (nn2 L) ∧ ConeL c p L) ∧ Below w.heap.size w w'
theorem row_read {W : World} {B n c : Nat} {s : Option Addr} {xs : List Value} (h : W.ownsRow B 3 1 (.slice s n c) n xs) : CellsAt W s xs := by
  obtain ⟨sa, k, hv, hc, _⟩ := own_cells h
  simp only [Value.slice.injEq] at hv
  rw [hv.1]
  exact hc

/-- the places that came out, in order. -/
theorem sorted_cone {c : Net} {p : Nat} {out : List Nat} (hnd : out.Nodup) (hmem : ∀ x, x ∈ out ↔ (x = p ∨ PureNet.Way c.gates p x)) (hlt : ∀ x ∈ out, x < c.gates.length) :
    ∃ L : List Nat, ((out.map fun (k : Nat) => (k : Int)).mergeSort fun x y => decide (x ≤ y)) = L.map (fun (k : Nat) => (k : Int)) ∧ L.length = out.length ∧ ConeL c p L := by
  obtain ⟨Z, hZ⟩ : ∃ Z, Z = ((out.map fun (k : Nat) => (k : Int)).mergeSort fun x y => decide (x ≤ y)) := ⟨_, rfl⟩
  have hperm : Z.Perm (out.map fun (k : Nat) => (k : Int)) := by rw [hZ]; exact List.mergeSort_perm _ _
  have hsort : Z.Pairwise fun x y => x ≤ y := by
    have := List.pairwise_mergeSort (le := fun (x y : Int) => decide (x ≤ y)) (fun a b c h1 h2 => by simp at h1 h2 ⊢; omega) (fun a b => by simp; omega) (out.map fun (k : Nat) => (k : Int))
    rw [← hZ] at this
    exact this.imp (fun h => by simpa using h)
  have hback : ∀ x ∈ Z, ∃ k : Nat, x = (k : Int) ∧ k ∈ out := fun x hx => by
    obtain ⟨k, hk, e⟩ := List.mem_map.1 (hperm.mem_iff.1 hx)
    exact ⟨k, e.symm, hk⟩
  have hZL : Z = (Z.map Int.toNat).map (fun (k : Nat) => (k : Int)) := by
    rw [List.map_map]
    conv => lhs; rw [← List.map_id Z]
    refine List.map_congr_left fun x hx => ?_
    obtain ⟨k, rfl, _⟩ := hback x hx
    simp
  have hndZ : Z.Nodup := hperm.nodup_iff.2 (by
    exact List.pairwise_map.2 (hnd.imp fun h e => h (Int.ofNat.inj e)))
  have hlen : (Z.map Int.toNat).length = out.length := by rw [List.length_map, hperm.length_eq, List.length_map]
  refine ⟨Z.map Int.toNat, by rw [← hZ]; exact hZL, hlen, ⟨fun i x y hx hy => ?_, fun x => ?_, fun x hx => ?_, ?_⟩⟩
  · rw [List.getElem?_map, Option.map_eq_some_iff] at hx hy
    obtain ⟨a, ha, rfl⟩ := hx
    obtain ⟨b, hb, rfl⟩ := hy
    obtain ⟨hi, e1⟩ := List.getElem?_eq_some_iff.1 ha
    obtain ⟨hi2, e2⟩ := List.getElem?_eq_some_iff.1 hb
    have hle := List.pairwise_iff_getElem.1 hsort i (i + 1) hi hi2 (by omega)
    have hne : a ≠ b := fun e => by
      have := (List.getElem?_inj hi hndZ).1 (show Z[i]? = Z[i + 1]? by rw [ha, hb, e])
      omega
    rw [e1, e2] at hle
    obtain ⟨k, rfl, _⟩ := hback a (List.mem_of_getElem? ha)
    obtain ⟨m, rfl, _⟩ := hback b (List.mem_of_getElem? hb)
    simp
    omega
  · rw [← hmem x]
    constructor
    · intro hx
      obtain ⟨a, ha, rfl⟩ := List.mem_map.1 hx
      obtain ⟨k, rfl, hk⟩ := hback a ha
      simpa using hk
    · intro hx
      exact List.mem_map.2 ⟨(x : Int), hperm.mem_iff.2 (List.mem_map.2 ⟨x, hx, rfl⟩), by simp⟩
  · obtain ⟨a, ha, rfl⟩ := List.mem_map.1 hx
    obtain ⟨k, rfl, hk⟩ := hback a ha
    simpa using hlt k hk
  · rw [hlen]
    exact few_of_nodup hnd hlt

end Go.Proofs.YtfmmmhcpdinhgabGreatDoor
namespace PureNet
open Go.Proofs.YtfmmmhcpdinhgabGreatDoor
set_option maxRecDepth 100000
theorem Sr.nd_out2 {l : List Ga} {P : Nat → Prop} {S0 : List Nat} {E : Nat → Prop} {s : Ps} (h : Sr l P S0 E s) : s.out.Nodup := (List.nodup_append.1 h.nd).1
end PureNet
namespace Go.Proofs.YtfmmmhcpdinhgabGreatDoor
open Go.RowKit Go.Deep PureNet ShfKit Go.Sort
set_option maxRecDepth 100000
end Go.Proofs.YtfmmmhcpdinhgabGreatDoor
namespace PureNet
open Go.Proofs.YtfmmmhcpdinhgabGreatDoor
set_option maxRecDepth 100000
theorem Sr.lt_out2 {l : List Ga} {P : Nat → Prop} {S0 : List Nat} {E : Nat → Prop} {s : Ps} (h : Sr l P S0 E s) : ∀ x ∈ s.out, x < l.length := fun x hx => h.lt x (List.mem_append_left _ hx)
end PureNet
namespace Go.Proofs.YtfmmmhcpdinhgabGreatDoor
open Go.RowKit Go.Deep PureNet ShfKit Go.Sort
set_option maxRecDepth 100000
theorem cone_in {l : List Ga} {P : Nat → Prop} {S0 : List Nat} {E : Nat → Prop} {s : Ps} (h : Sr l P S0 E s) {p : Nat} (hp : p ∈ s.out) {y : Nat} (hy : y = p ∨ PureNet.Way l p y) : y ∈ s.out := by
  have one : ∀ a b, a ∈ s.out → Leans l a b → b ∈ s.out := fun a b ha hab => by
    obtain ⟨i, hi, e⟩ := List.getElem_of_mem ha
    obtain ⟨j, _, hj⟩ := h.ord i a b (by rw [List.getElem?_eq_getElem hi, e]) hab
    exact List.mem_of_getElem? hj
  rcases hy with rfl | hy
  · exact hp
  · induction hy using PureNet.Way.ind with
    | one h1 => exact one _ _ hp h1
    | more h1 _ ih => exact ih (one _ _ hp h1)
theorem holds_row {W : World} {B g c : Nat} {cur : Array Value} {out : List Nat} (_hr : W.heap[g]? = some (.cells cur 3 (0, 0))) (ho : W.ownsRow B 3 1 (.slice (some ⟨g, 0, none⟩) out.length c) out.length (placesV out)) : Holds (Value.int .i64) W g 0 (out.map fun (k : Nat) => (k : Int)).toArray := fun j hj => by
  have hj2 : j < out.length := by simpa using hj
  obtain ⟨g2, c2, hv, _, _, hc, hf⟩ := own_cell ho (places_at out j out[j] (List.getElem?_eq_getElem hj2))
  cases hv
  rw [Nat.zero_add]
  refine ⟨?_, hf⟩
  rw [hc]
  simp [hj2]

set_option maxHeartbeats 4000000 in
theorem cone_landed : ConeOk 11 := by
  intro c sg so cg co p w hc hkd hf hp
  have hfew := hf.few
  obtain ⟨x, hx⟩ : ∃ x, x = w.alloc (Obj.cells #[Value.string c.name, Value.slice sg c.gates.length cg, Value.slice so c.outs.length co] 25) := ⟨_, rfl⟩
  have RX : Hid (x.heap[w.heap.size]? = some (.cells #[Value.string c.name, Value.slice sg c.gates.length cg, Value.slice so c.outs.length co] 25 (0, 0))) := by rw [hx]; exact heap_alloc_new w _
  have BX : Hid (Below w.heap.size w x) := by rw [hx]; exact (Below.refl _ _).alloc (Nat.le_refl _) _
  have CE : Hid (∀ W, Below x.heap.size x W → (∀ j, W.cell? ⟨w.heap.size, j, none⟩ = (#[Value.string c.name, Value.slice sg c.gates.length cg, Value.slice so c.outs.length co] : Array Value)[j]?) ∧ w.heap.size < W.heap.size) := fun W hW => by
    have h2 := (hW.block _ (Array.getElem?_eq_some_iff.1 RX.out).1).trans RX.out
    exact ⟨fun j => cell_row h2 j, (Array.getElem?_eq_some_iff.1 h2).1⟩
  have C1 := hid (formed_ok c sg so cg co x (hc.below BX.out) (hkd.on BX.out) hf)
  have C2 : Hid (∀ W, _) := fun W => newSearch_any sg cg c.gates.length W hfew
  have hll : ∀ (i : Nat) (g : Ga), c.gates[i]? = some g → ∀ a ∈ leansOn g, 0 ≤ a ∧ a < (c.gates.length : Int) := fun i g hg => (formed_lines hf i g hg).2
  have hI0 := (Sr.start c.gates (fun y => y = p ∨ PureNet.Way c.gates p y)).begin hll rfl hp rfl (.inl rfl)
  have C3 : Hid (∀ W, Below x.heap.size x W → ∀ W2 p1 mv rv pv, Se W W2 p1 (.slice sg c.gates.length cg) c.gates.length s0 mv rv pv (.slice none 0 0) (.slice none 0 0) (.slice none 0 0) [] → _) := fun W hW W2 p1 mv rv pv hs =>
    from_any c.gates sg cg c.gates.length p1 p W W2 s0 mv rv pv (.slice none 0 0) (.slice none 0 0) (.slice none 0 0) [] ((hc.below BX.out).below hW).gates ((hkd.on BX.out).on hW) rfl hfew (formed_lines hf) hf.free (fun y => y = p ∨ PureNet.Way c.gates p y) (fun a b ha hab => by
      rcases ha with rfl | ha
      · exact .inr (.one hab)
      · exact .inr (way_snoc ha hab)) (p :: s0.out) hp hs ⟨fun a ha => by simp [s0] at ha, fun a ha => by simp [s0] at ha, by simp [s0], by simp [s0]⟩ hI0
  have h1 : ¬ (p : Int) < 0 := by omega
  have h2 : ¬ (c.gates.length : Int) ≤ (p : Int) := by omega
  obtain ⟨d0, hb0⟩ := CE.out x (Below.refl _ _)
  have HX := hid hx
  clear hx hc hkd hf hll hI0
  go_enter Tryz.func11, Tryz.ntmps11
  go_wp2_with (first
    | (rw [← HX.out])
    | (have q := SE2; clear q; go_at_call 21; refine Calls.mono (C3.out w1 B1.out w2 p1 mv rv pv SE2.out) ?_; rintro e w3 ⟨⟨u3, rfl⟩, s3, wv3, tv3, ov3, rs3, hsr3, hway3, hse3⟩; have SR3 := hid hsr3; have HW3 := hid hway3; have hpo : p ∈ s3.out := (by have := hsr3.keep p (by simp); rw [hway3] at this; simpa using this); have ho4 := hse3.fam.own 4 (ov3, s3.out.length, placesV s3.out) rfl; obtain ⟨gz, cz, cur, hov, hgz, hgr, hgn, hgm, hgs⟩ : ∃ gz cz cur, ov3 = .slice (some ⟨gz, 0, none⟩) s3.out.length cz ∧ w1.heap.size ≤ gz ∧ w3.heap[gz]? = some (.cells cur 3 (0, 0)) ∧ s3.out.length ≤ cz ∧ cz ≤ maxLen ∧ cur.size = cz * 1 := (by rcases ho4.2 with ⟨_, h0⟩ | ⟨g, cap, cur, hv, hb, hr, hnc, hcm, hcs, _⟩; (· have h0' : s3.out.length = 0 := h0; have := List.length_pos_of_mem hpo; omega); (· exact ⟨g, cap, cur, hv, hb, hr, hnc, hcm, hcs⟩)); subst hov; have hcone : ∀ y, y ∈ s3.out ↔ (y = p ∨ PureNet.Way c.gates p y) := (fun y => ⟨fun hy => hsr3.allow y (List.mem_append_left _ hy), fun hy => cone_in hsr3 hpo hy⟩); obtain ⟨L, hL, hLl, hLc⟩ := sorted_cone hsr3.nd_out2 hcone hsr3.lt_out2; have HL := hid hL; have HLL := hid hLl; have HLC := hid hLc; have GB := hid hgz; have GR := hid hgr; have GN := hid hgn; have GM := hid hgm; have GS := hid hgs; have SE3 := hid hse3; have PG : Hid (p1 ≠ gz) := (fun e => by have h8 := hse3.box; rw [e, hgr] at h8; simp at h8); have hfl := few_of_nodup hsr3.nd_out2 hsr3.lt_out2; have SO := hid (Tryz.slices_Sort_int gz 0 cz (s3.out.map fun (k : Nat) => (k : Int)) w3 (holds_row hgr ho4) (Array.getElem?_eq_some_iff.1 hgr).1 (by simp; omega)); rw [List.length_map] at SO; have k3 := hse3.cell 6; have hp3 := hse3.size; clear hsr3 hway3 hse3 ho4 hcone hL hLl hLc hgz hgr hgn hgm hgs hfl hpo)
    | (go_at_call 20; refine Calls.mono (C2.out w1) ?_; rintro e w2 ⟨p1, mv, rv, pv, rfl, hs2⟩; have SE2 := hid hs2; clear hs2)
    | (go_at_call 7; refine Calls.mono C1.out ?_; rintro e w1 ⟨rfl, b1⟩; have B1 : Hid (Below x.heap.size x w1) := b1; obtain ⟨d1, hb1⟩ := CE.out w1 B1.out; clear b1))
  refine Calls.mono SO.out ?_
  rintro e w4 ⟨rfl, n4, os4, hw4⟩
  dsimp only
  have OW : Hid (w4.ownsRow w1.heap.size 3 1 (.slice (some ⟨gz, 0, none⟩) s3.out.length cz) s3.out.length (nn2 L)) := by
    have h9 := ownsRow_sortedI (n := n4) (os := os4) (ss := s3.out.map fun (k : Nat) => (k : Int)) (ts := L.map fun (k : Nat) => (k : Int)) (by simp [HLL.out]) GB.out GR.out (by simpa using GN.out) GM.out GS.out
    rw [← HL.out, ← hw4, List.length_map, HL.out, List.map_map] at h9
    exact h9
  have GW : Hid (w3.grownBy w4 (some gz)) := by rw [hw4]; exact grownBy_sortedI _
  have k4 : w4.cell? ⟨p1, 6, none⟩ = some (.slice (some ⟨gz, 0, none⟩) s3.out.length cz) := by
    have hbk := (GW.out.block p1 SE3.out.size (fun e => PG.out (by simpa using e))).trans SE3.out.box
    exact cell_row hbk 6
  have hp4 : p1 < w4.heap.size := Nat.lt_of_lt_of_le SE3.out.size GW.out.size
  clear hw4 k3
  go_wp2
  have hB1 : Below w.heap.size w w1 := BX.out.trans (B1.out.mono BX.out.size)
  have hB3 : Below w.heap.size w w3 := hB1.trans (SE3.out.below.mono hB1.size)
  have hB4 := hB3.grown GW.out hB3.size (fun j hj => by cases hj; exact Nat.le_trans hB1.size GB.out)
  have hcl := row_read OW.out
  refine bodyPost_ret (v := .tuple #[.slice (some ⟨gz, 0, none⟩) s3.out.length cz, .int .i64 0]) (by simp [results, Tryz.results11, go_sem]) rfl ⟨⟨some ⟨gz, 0, none⟩, cz, L, ?_, hcl, HLC.out⟩, hB4⟩
  rw [HLL.out]
end Go.Proofs.YtfmmmhcpdinhgabGreatDoor
/-
  Bytes that a call owns, made of a string or grown: the marked stretch lies within the bytes, or behind the block's end. For any program.
-/
namespace BfgKit
open Go Go.RowKit
set_option maxRecDepth 100000

/-- bytes as cells. -/
def cbs (l : List UInt8) : List Value := l.map fun b => Value.int .u8 b.toNat
theorem cbs_length (l : List UInt8) : (cbs l).length = l.length := by simp [cbs]
theorem cbs_append (l m : List UInt8) : cbs (l ++ m) = cbs l ++ cbs m := by simp [cbs]
theorem cbs_one (l : List UInt8) : ∀ u ∈ cbs l, u.oneCell' = true := by
  intro u hu
  simp only [cbs, List.mem_map] at hu
  obtain ⟨b, _, rfl⟩ := hu
  rfl

/-- the bytes T are owned there. -/
def Own (w : World) (B e : Nat) (v : Value) (T : List UInt8) : Prop :=
  ∃ g cap cur fz, v = .slice (some ⟨g, 0, none⟩) T.length cap ∧ B ≤ g ∧ w.heap[g]? = some (.cells cur e fz) ∧ (fz.2 ≤ T.length ∨ cap ≤ fz.1) ∧ T.length ≤ cap ∧ cap ≤ maxLen ∧ cur.size = cap ∧ cur.toList.take T.length = cbs T

theorem store_at (P : Program) (g o : Nat) (t : TypeId) (fz : Nat × Nat) : ∀ (vs : List Value) (i : Nat) (cur : Array Value) (w : World), w.heap[g]? = some (.cells cur t fz) → (fz.2 ≤ o + i ∨ cur.size ≤ fz.1) → o + i + vs.length ≤ cur.size → (∀ v ∈ vs, v.oneCell' = true) →
    (storeCells ⟨g, o, none⟩ vs i).run P w = .ok () (w.setRow g (cur.toList.take (o + i) ++ vs ++ cur.toList.drop (o + i + vs.length)).toArray)
  | [], i, cur, w, hg, _, _, _ => by
    simp only [storeCells, List.append_nil, List.length_nil, Nat.add_zero, List.take_append_drop, Array.toArray_toList]
    rw [setRow_self w g cur t fz hg]
    rfl
  | v :: rest, i, cur, w, hg, hfz, hl, h1 => by
    have hi : o + i < cur.size := by simp at hl; omega
    have hadd : (⟨g, o, none⟩ : Addr).add i = ⟨g, o + i, none⟩ := by unfold Addr.add; split <;> simp_all
    have hcell : w.cell? ⟨g, o + i, none⟩ = some cur[o + i] := by simp [World.cell?, hg, hi]
    have hfro : w.frozen? ⟨g, o + i, none⟩ = false := by
      obtain ⟨lo, hi'⟩ := fz
      simp only [World.frozen?, hg, Bool.and_eq_false_iff, decide_eq_false_iff_not]
      simp only at hfz
      omega
    have hst : (store ((⟨g, o, none⟩ : Addr).add i) v).run P w = .ok () (w.setRow g (cur.setIfInBounds (o + i) v)) := by
      rw [hadd, run_store P w _ v _ (h1 v (by simp)), hcell]
      simp [hfro, setCell_eq_setRow w g (o + i) cur t fz v hg]
    have ih := store_at P g o t fz rest (i + 1) (cur.setIfInBounds (o + i) v) (w.setRow g (cur.setIfInBounds (o + i) v)) (setRow_heap w g cur _ t _ hg) (by rw [Array.size_setIfInBounds]; omega) (by simp at hl ⊢; omega) (fun x hx => h1 x (by simp [hx]))
    simp only [storeCells, Sem.run_bind, hst, Result.andThen_ok, ih, setRow_setRow]
    congr 3
    have e := list_seg_step cur.toList (o + i) v rest (by simp at hl ⊢; omega)
    simpa [Array.toList_setIfInBounds, Nat.add_assoc] using e

section
variable {P : Program} {w w' : World} {B e : Nat} {v : Value} {T : List UInt8}

theorem Own.cells (h : Own w B e v T) (g : Nat) (hb : v.ownBlock = some g) : ∀ j u, (cbs T)[j]? = some u → w.cell? ((⟨g, 0, none⟩ : Addr).add j) = some u := by
  obtain ⟨g', cap, cur, fz, rfl, hB, hg, hf, hc, hm, hs, ht⟩ := h
  simp only [Value.ownBlock, Option.some.injEq] at hb
  subst hb
  intro j u hu
  have hadd : (⟨g', 0, none⟩ : Addr).add j = ⟨g', j, none⟩ := by unfold Addr.add; split <;> simp_all
  rw [hadd, cell_of_row w g' j cur e fz hg]
  rw [← ht, List.getElem?_take] at hu
  split at hu
  · simpa using hu
  · cases hu
theorem Own.kept (h : Own w B e v T) (hk : ∀ g, v.ownBlock = some g → w'.heap[g]? = w.heap[g]?) : Own w' B e v T := by
  obtain ⟨g, cap, cur, fz, hv, hB, hg, r⟩ := h
  exact ⟨g, cap, cur, fz, hv, hB, (hk g (by rw [hv]; rfl)).trans hg, r⟩
theorem Own.block (h : Own w B e v T) {g : Nat} (hg : v.ownBlock = some g) : B ≤ g ∧ g < w.heap.size := by
  obtain ⟨g', cap, cur, fz, rfl, hB, hr, _⟩ := h
  simp only [Value.ownBlock, Option.some.injEq] at hg
  subst hg
  exact ⟨hB, (Array.getElem?_eq_some_iff.1 hr).1⟩

/-- made of a string. -/
theorem own_conv (w : World) (e B : Nat) (s : ByteArray) (hB : B ≤ w.heap.size) (hs : s.size ≤ 140737488355328) : Own (Lib.bytesWorld w e s) B e (.slice (some ⟨w.heap.size, 0, none⟩) s.size (grownCap w s.size 0 e)) s.data.toList := by
  have hge := grownCap_ge w s.size 0 e
  have hcm := grownCap_le_maxLen w s.size 0 e (by unfold maxLen; omega)
  have hsz : (Lib.bytesCells w e s).size = grownCap w s.size 0 e := by
    simp only [Lib.bytesCells, Array.size_append, Array.size_map, Array.size_replicate]
    have : s.data.size = s.size := rfl
    omega
  have hl : s.data.toList.length = s.size := by simp
  refine ⟨w.heap.size, _, _, _, by rw [hl], hB, Lib.bytesWorld_at_new w e s, .inr (by rw [hsz]; exact Nat.le_refl _), by rw [hl]; exact hge, hcm, hsz, ?_⟩
  rw [hl]
  have h2 : (Lib.bytesCells w e s).toList = cbs s.data.toList ++ List.replicate (grownCap w s.size 0 e - s.size) (.int .u8 0) := by
    simp [Lib.bytesCells, cbs]
  rw [h2, ← hl, ← cbs_length]
  exact List.take_left

set_option maxHeartbeats 1000000 in
theorem run_own_text (w : World) (t u ty e : TypeId) (i : TypeInfo) (ht : P.underlying t = some (.slice e)) (hu : P.underlying u = some .string) (hi : P.info? e = some i) (hz : i.zero = some (.int .u8 0)) (hsize : i.size = 1) (hby : i.bytes = 1)
    (hown : Own w B e v T) (D : List UInt8) (hlen : T.length + D.length ≤ 140737488355328) (hbase : B ≤ w.heap.size) :
    ∃ v' w', (Builtin.append_ #[t, u] ty #[v, .string ⟨D.toArray⟩]).run P w = .ok v' w' ∧ Own w' B e v' (T ++ D) ∧ w.grownBy w' v.ownBlock := by
  have hcells := hown.cells
  obtain ⟨g, cap, cur, fz, rfl, hB, hg, hf, hc, hm, hs, htk⟩ := hown
  have hcells := hcells g rfl
  have hD : (⟨D.toArray⟩ : ByteArray).size = D.length := by show D.toArray.size = _; simp
  have hst : Lib.strCells ⟨D.toArray⟩ = cbs D := by simp [Lib.strCells, cbs]
  have hel : (cbs T ++ cbs D).length = T.length + D.length := by rw [List.length_append, cbs_length, cbs_length]
  by_cases hroom : T.length + D.length ≤ cap
  · have hff := Lib.run_firstCells_string (P := P) w 1 ⟨D.toArray⟩
    have hss := store_at P g T.length e fz (cbs D) 0 cur w hg (by rcases hf with h | h; exact .inl h; exact .inr (by omega)) (by rw [cbs_length]; omega) (cbs_one D)
    simp only [Nat.add_zero, cbs_length] at hss
    rw [hst, hD] at hff
    have hr : (Builtin.append_ #[t, u] ty #[.slice (some ⟨g, 0, none⟩) T.length cap, .string ⟨D.toArray⟩]).run P w = .ok (.slice (some ⟨g, 0, none⟩) (T.length + D.length) cap) (w.setRow g (cur.toList.take T.length ++ cbs D ++ cur.toList.drop (T.length + D.length)).toArray) := by
      simp [Builtin.append_, run_underlying ht, run_underlying hu, Go.sizeOf, typeInfo, hi, hsize, Builtin.lenOf, hD, hroom, hff, Addr.add_lit, hss]
    refine ⟨_, _, hr, ⟨g, cap, _, fz, by rw [List.length_append], hB, setRow_heap w g cur _ e _ hg, ?_, by rw [List.length_append]; omega, hm, ?_, ?_⟩, ⟨rfl, rfl, rfl, by simp, fun k _ hk => setRow_other w g k _ (fun e => hk (by simp [Value.ownBlock, e]))⟩⟩
    · rcases hf with h | h
      · exact .inl (by rw [List.length_append]; omega)
      · exact .inr h
    · simp only [List.size_toArray, List.length_append, List.length_take, List.length_drop, Array.length_toList, cbs_length]
      omega
    · rw [htk, List.length_append, cbs_append, ← hel]
      exact List.take_left
  · have hr := Lib.run_append_grow_string (P := P) w t u ty e i (.int .u8 0) ht hu hi hz ⟨g, 0, none⟩ T.length cap (cbs T) (by rw [hsize, cbs_length]; omega) hcells ⟨D.toArray⟩ (by rw [hD]; omega) (by rw [hD]; omega) (by rw [hby, hD]; exact growslice_fits (by omega) (by omega))
    rw [hD, hst] at hr
    have hge := grownCap_ge w (T.length + D.length) cap e
    have hcm2 : grownCap w (T.length + D.length) cap e ≤ maxLen := grownCap_le_maxLen w (T.length + D.length) cap e (by unfold maxLen; omega)
    refine ⟨_, _, hr, ⟨w.heap.size, _, _, (0, 0), by rw [List.length_append], hbase, heap_alloc_new w.drew _, .inl (Nat.zero_le _), by rw [List.length_append]; exact hge, hcm2, ?_, ?_⟩, ⟨rfl, rfl, rfl, by simp, fun k hk _ => Go.Lib.alloc_old w.drew _ k hk⟩⟩
    · have hz1 : (Value.int IntKind.u8 0).cells.size = 1 := rfl
      simp only [Array.size_append, List.size_toArray, size_zeroCells, hz1, cbs_length]
      omega
    · simp only [Array.toList_append, List.append_assoc]
      rw [← List.append_assoc, List.length_append, cbs_append, ← hel]
      exact List.take_left

set_option maxHeartbeats 1000000 in
theorem run_own_bytes (w : World) (t ty e : TypeId) (i : TypeInfo) (ht : P.underlying t = some (.slice e)) (hi : P.info? e = some i) (hz : i.zero = some (.int .u8 0)) (hsize : i.size = 1) (hby : i.bytes = 1)
    (hown : Own w B e v T) (D : List UInt8) (a : Addr) (c : Nat) (hnews : ∀ j u, (cbs D)[j]? = some u → w.cell? (a.add j) = some u) (hlen : T.length + D.length ≤ 140737488355328) (hbase : B ≤ w.heap.size) :
    ∃ v' w', (Builtin.append_ #[t, t] ty #[v, .slice (some a) D.length c]).run P w = .ok v' w' ∧ Own w' B e v' (T ++ D) ∧ w.grownBy w' v.ownBlock := by
  have hcells := hown.cells
  obtain ⟨g, cap, cur, fz, rfl, hB, hg, hf, hc, hm, hs, htk⟩ := hown
  have hcells := hcells g rfl
  have hel : (cbs T ++ cbs D).length = T.length + D.length := by rw [List.length_append, cbs_length, cbs_length]
  have hl1 : (cbs D).length = D.length * i.size := by rw [cbs_length, hsize, Nat.mul_one]
  by_cases hroom : T.length + D.length ≤ cap
  · have hff := run_firstCells_some (P := P) w i.size D.length a D.length c (cbs D) hl1 hnews
    have hss := store_at P g T.length e fz (cbs D) 0 cur w hg (by rcases hf with h | h; exact .inl h; exact .inr (by omega)) (by rw [cbs_length]; omega) (cbs_one D)
    simp only [Nat.add_zero, cbs_length] at hss
    rw [hsize] at hff
    have hr : (Builtin.append_ #[t, t] ty #[.slice (some ⟨g, 0, none⟩) T.length cap, .slice (some a) D.length c]).run P w = .ok (.slice (some ⟨g, 0, none⟩) (T.length + D.length) cap) (w.setRow g (cur.toList.take T.length ++ cbs D ++ cur.toList.drop (T.length + D.length)).toArray) := by
      simp [Builtin.append_, run_underlying ht, Go.sizeOf, typeInfo, hi, hsize, Builtin.lenOf, hroom, hff, Addr.add_lit, hss]
    refine ⟨_, _, hr, ⟨g, cap, _, fz, by rw [List.length_append], hB, setRow_heap w g cur _ e _ hg, ?_, by rw [List.length_append]; omega, hm, ?_, ?_⟩, ⟨rfl, rfl, rfl, by simp, fun k _ hk => setRow_other w g k _ (fun e => hk (by simp [Value.ownBlock, e]))⟩⟩
    · rcases hf with h | h
      · exact .inl (by rw [List.length_append]; omega)
      · exact .inr h
    · simp only [List.size_toArray, List.length_append, List.length_take, List.length_drop, Array.length_toList, cbs_length]
      omega
    · rw [htk, List.length_append, cbs_append, ← hel]
      exact List.take_left
  · have hr := run_append_grow (P := P) w t ty e i (.int .u8 0) ht hi hz ⟨g, 0, none⟩ T.length cap (cbs T) (by rw [hsize, cbs_length]; omega) hcells a D.length c (cbs D) hl1 hnews (by omega) (by omega) (by rw [hby]; exact growslice_fits (by omega) (by omega))
    have hge := grownCap_ge w (T.length + D.length) cap e
    have hcm2 : grownCap w (T.length + D.length) cap e ≤ maxLen := grownCap_le_maxLen w (T.length + D.length) cap e (by unfold maxLen; omega)
    refine ⟨_, _, hr, ⟨w.heap.size, _, _, (0, 0), by rw [List.length_append], hbase, heap_alloc_new w.drew _, .inl (Nat.zero_le _), by rw [List.length_append]; exact hge, hcm2, ?_, ?_⟩, ⟨rfl, rfl, rfl, by simp, fun k hk _ => Go.Lib.alloc_old w.drew _ k hk⟩⟩
    · have hz1 : (Value.int IntKind.u8 0).cells.size = 1 := rfl
      simp only [Array.size_append, List.size_toArray, size_zeroCells, hz1, cbs_length]
      omega
    · simp only [Array.toList_append, List.append_assoc]
      rw [← List.append_assoc, List.length_append, cbs_append, ← hel]
      exact List.take_left
end
end BfgKit
