import Derived.Test.YtfmmmhcpdinhgabGreatDoorZ06
/-
  What a text says does not hang on where its words stand. Pure.
-/
namespace Go.Proofs.YtfmmmhcpdinhgabGreatDoor
open Go.RowKit Go.Deep PureNet PureRd ShfKit
set_option maxRecDepth 100000

abbrev wtx (l : List Wd) : List (List UInt8) := l.map Prod.fst
/-- a line without its places. -/
def unp (l : Ln) : Int × List UInt8 × Int × List (List UInt8) := (l.kind, l.name, l.op, wtx l.uses)
/-- alike but for the places in the text. -/
structure Eqv (s t : Rs) : Prop where
  mode : s.mode = t.mode
  left : wtx s.left = wtx t.left
  lines : s.lines.map unp = t.lines.map unp
  outs : s.outs = t.outs
  places : s.places = t.places
  names : s.names.length = t.names.length
  cname : s.cname = t.cname
  fault : s.fault.isSome = t.fault.isSome
theorem Eqv.refl (s : Rs) : Eqv s s := ⟨rfl, rfl, rfl, rfl, rfl, rfl, rfl, rfl⟩
theorem refuse_some (s : Rs) (c : Int) (a : Nat) : (refuse s c a).fault.isSome = true := by
  have := refuse_fault s c a
  cases h : (refuse s c a).fault with
  | none => exact absurd h this
  | some p => rfl
theorem refuse_left (s : Rs) (c : Int) (a : Nat) : (refuse s c a).left = s.left := by unfold refuse; split <;> rfl
theorem Eqv.refuse {s t : Rs} (h : Eqv s t) (c c' : Int) (a a' : Nat) : Eqv (PureRd.refuse s c a) (PureRd.refuse t c' a') := by
  have e := refuse_same s c a
  have f := refuse_same t c' a'
  exact ⟨by rw [e.mode, f.mode]; exact h.mode, by rw [refuse_left, refuse_left]; exact h.left, by rw [e.lines, f.lines]; exact h.lines, by rw [e.outs, f.outs]; exact h.outs, by rw [e.places, f.places]; exact h.places, by rw [e.names, f.names]; exact h.names, by rw [e.cname, f.cname]; exact h.cname, by rw [refuse_some, refuse_some]⟩
theorem Eqv.ite {s t s' t' : Rs} {c d : Prop} [Decidable c] [Decidable d] (hcd : c ↔ d) (h : Eqv s t) (h' : Eqv s' t') : Eqv (if c then s else s') (if d then t else t') := by
  by_cases hc : c
  · rw [if_pos hc, if_pos (hcd.1 hc)]
    exact h
  · rw [if_neg hc, if_neg (fun hd => hc (hcd.2 hd))]
    exact h'
theorem Eqv.take {s t : Rs} (h : Eqv s t) : (PureRd.take s).1.1 = (PureRd.take t).1.1 ∧ Eqv (PureRd.take s).2 (PureRd.take t).2 := by
  have hl := h.left
  cases hs : s.left with
  | nil =>
    rw [hs] at hl
    have ht : t.left = [] := by simpa using hl.symm
    have e1 : PureRd.take s = (([], 0), PureRd.refuse s 140 (s.last.2 + s.last.1.length)) := by unfold PureRd.take; rw [hs]
    have e2 : PureRd.take t = (([], 0), PureRd.refuse t 140 (t.last.2 + t.last.1.length)) := by unfold PureRd.take; rw [ht]
    rw [e1, e2]
    exact ⟨rfl, h.refuse _ _ _ _⟩
  | cons y r =>
    cases ht : t.left with
    | nil => rw [hs, ht] at hl; simp at hl
    | cons z q =>
      rw [hs, ht] at hl
      simp only [wtx, List.map_cons, List.cons.injEq] at hl
      have e1 : PureRd.take s = (y, { s with last := y, left := r }) := by unfold PureRd.take; rw [hs]
      have e2 : PureRd.take t = (z, { t with last := z, left := q }) := by unfold PureRd.take; rw [ht]
      rw [e1, e2]
      exact ⟨hl.1, h.mode, hl.2, h.lines, h.outs, h.places, h.names, h.cname, h.fault⟩
theorem Eqv.name {s t : Rs} (h : Eqv s t) : (PureRd.name nameL s).1.1 = (PureRd.name nameL t).1.1 ∧ Eqv (PureRd.name nameL s).2 (PureRd.name nameL t).2 := by
  obtain ⟨h1, h2⟩ := h.take
  refine ⟨h1, ?_⟩
  unfold PureRd.name
  dsimp only
  exact Eqv.ite (by rw [h1]) h2 (h2.refuse _ _ _ _)
theorem Eqv.namesOf {s t : Rs} (h : Eqv s t) : ∀ n, wtx (PureRd.namesOf nameL n s).1 = wtx (PureRd.namesOf nameL n t).1 ∧ Eqv (PureRd.namesOf nameL n s).2 (PureRd.namesOf nameL n t).2
  | 0 => ⟨rfl, h⟩
  | n + 1 => by
    obtain ⟨h1, h2⟩ := h.namesOf n
    obtain ⟨h3, h4⟩ := h2.name
    refine ⟨?_, h4⟩
    show wtx ((PureRd.namesOf nameL n s).1 ++ [_]) = wtx ((PureRd.namesOf nameL n t).1 ++ [_])
    simp only [wtx, List.map_append, List.map_cons, List.map_nil]
    rw [h3]
    exact congrArg (· ++ _) h1
theorem Eqv.op {s t : Rs} (h : Eqv s t) (F : List UInt8 → Int) : (PureRd.op F s).1 = (PureRd.op F t).1 ∧ Eqv (PureRd.op F s).2 (PureRd.op F t).2 := by
  obtain ⟨h1, h2⟩ := h.take
  unfold PureRd.op
  dsimp only
  exact ⟨by rw [h1], Eqv.ite (by rw [h1]) (h2.refuse _ _ _ _) h2⟩
theorem Eqv.begin {s t : Rs} (h : Eqv s t) (k : Int) : Eqv (PureRd.begin nameL k s) (PureRd.begin nameL k t) := by
  have h1 : Eqv (if s.names.length = 65536 then PureRd.refuse s 8 s.last.2 else s) (if t.names.length = 65536 then PureRd.refuse t 8 t.last.2 else t) := Eqv.ite (by rw [h.names]) (h.refuse _ _ _ _) h
  obtain ⟨h2, h3⟩ := h1.name
  unfold PureRd.begin
  dsimp only
  revert h2 h3
  generalize PureRd.name nameL (if s.names.length = 65536 then PureRd.refuse s 8 s.last.2 else s) = u
  generalize PureRd.name nameL (if t.names.length = 65536 then PureRd.refuse t 8 t.last.2 else t) = v
  intro h2 h3
  have hp : placeOf u.2 u.1.1 = placeOf v.2 v.1.1 := by unfold placeOf; rw [h3.places, h2]
  have h4 : Eqv (if (placeOf u.2 u.1.1).isSome = true then PureRd.refuse u.2 141 u.1.2 else u.2) (if (placeOf v.2 v.1.1).isSome = true then PureRd.refuse v.2 141 v.1.2 else v.2) := Eqv.ite (by rw [hp]) (h3.refuse _ _ _ _) h3
  refine ⟨h4.mode, h4.left, ?_, h4.outs, ?_, ?_, h4.cname, h4.fault⟩
  · rw [List.map_append, List.map_append, h4.lines]
    simp [unp, h2]
  · show (u.1.1, s.names.length) :: _ = (v.1.1, t.names.length) :: _
    rw [h4.places, h2, h.names]
  · rw [List.length_append, List.length_append, h4.names]
    rfl
theorem map_last {α β : Type} (f : α → β) (l m : List α) (h : l.map f = m.map f) (g g' : α → α) (hg : ∀ a b, f a = f b → f (g a) = f (g' b)) : (l.dropLast ++ (l.getLast?.map g).toList).map f = (m.dropLast ++ (m.getLast?.map g').toList).map f := by
  rw [List.map_append, List.map_append, List.map_dropLast, List.map_dropLast, h]
  congr 1
  have h1 : (l.getLast?).map f = (m.getLast?).map f := by rw [← List.getLast?_map, ← List.getLast?_map, h]
  cases hl : l.getLast? with
  | none =>
    rw [hl] at h1
    cases hm : m.getLast? with
    | none => rfl
    | some b => rw [hm] at h1; cases h1
  | some a =>
    rw [hl] at h1
    cases hm : m.getLast? with
    | none => rw [hm] at h1; cases h1
    | some b =>
      rw [hm] at h1
      have : f a = f b := by simpa using h1
      simp [hg a b this]
theorem Eqv.mapLast {s t : Rs} (h : Eqv s t) (g g' : Ln → Ln) (hg : ∀ a b, unp a = unp b → unp (g a) = unp (g' b)) : Eqv (PureRd.mapLast s g) (PureRd.mapLast t g') :=
  ⟨h.mode, h.left, map_last unp _ _ h.lines g g' hg, h.outs, h.places, h.names, h.cname, h.fault⟩
theorem Eqv.withOp {s t : Rs} (h : Eqv s t) (F : List UInt8 → Int) : Eqv (PureRd.withOp F s) (PureRd.withOp F t) := by
  obtain ⟨h1, h2⟩ := h.op F
  unfold PureRd.withOp
  refine h2.mapLast _ _ (fun a b hab => ?_)
  simp only [unp, Prod.mk.injEq] at hab ⊢
  exact ⟨hab.1, hab.2.1, h1, hab.2.2.2⟩
theorem Eqv.withUses {s t : Rs} (h : Eqv s t) (n : Nat) : Eqv (PureRd.withUses nameL n s) (PureRd.withUses nameL n t) := by
  obtain ⟨h1, h2⟩ := h.namesOf n
  unfold PureRd.withUses
  refine h2.mapLast _ _ (fun a b hab => ?_)
  simp only [unp, Prod.mk.injEq] at hab ⊢
  exact ⟨hab.1, hab.2.1, hab.2.2.1, h1⟩
theorem Eqv.output {s t : Rs} (h : Eqv s t) : Eqv (PureRd.output nameL s) (PureRd.output nameL t) := by
  have h1 : Eqv (if s.outs = 65536 then PureRd.refuse s 8 s.last.2 else s) (if t.outs = 65536 then PureRd.refuse t 8 t.last.2 else t) := Eqv.ite (by rw [h.outs]) (h.refuse _ _ _ _) h
  unfold PureRd.output
  dsimp only
  have h2 : Eqv { (if s.outs = 65536 then PureRd.refuse s 8 s.last.2 else s) with outs := (if s.outs = 65536 then PureRd.refuse s 8 s.last.2 else s).outs + 1 } { (if t.outs = 65536 then PureRd.refuse t 8 t.last.2 else t) with outs := (if t.outs = 65536 then PureRd.refuse t 8 t.last.2 else t).outs + 1 } := ⟨h1.mode, h1.left, h1.lines, by show _ + 1 = _ + 1; rw [h1.outs], h1.places, h1.names, h1.cname, h1.fault⟩
  obtain ⟨h3, h4⟩ := h2.namesOf 1
  refine ⟨h4.mode, h4.left, ?_, h4.outs, h4.places, h4.names, h4.cname, h4.fault⟩
  rw [List.map_append, List.map_append, h4.lines]
  simp only [List.map_cons, List.map_nil, unp, h3]
theorem Eqv.step {s t : Rs} (h : Eqv s t) (T : Nat → List UInt8) (f : Nat) : Eqv (stepF T f s) (stepF T f t) := by
  unfold stepF
  repeat' split
  · obtain ⟨h1, h2⟩ := h.name
    exact ⟨rfl, h2.left, h2.lines, h2.outs, h2.places, h2.names, h1, h2.fault⟩
  · exact h.begin 1
  · exact ((h.begin 2).withOp _).withUses 2
  · exact (h.begin 4).withUses 3
  · exact ((h.begin 3).withOp _).withUses 1
  · exact h.output
  · exact ⟨rfl, h.left, h.lines, h.outs, h.places, h.names, h.cname, h.fault⟩
theorem Eqv.shut {s t : Rs} (h : Eqv s t) : Eqv (Go.Proofs.YtfmmmhcpdinhgabGreatDoor.shut s) (Go.Proofs.YtfmmmhcpdinhgabGreatDoor.shut t) := by
  have hl := h.left
  unfold Go.Proofs.YtfmmmhcpdinhgabGreatDoor.shut
  cases hs : s.left with
  | nil =>
    rw [hs] at hl
    have ht : t.left = [] := by simpa using hl.symm
    rw [ht]
    exact h
  | cons y r =>
    cases ht : t.left with
    | nil => rw [hs, ht] at hl; simp at hl
    | cons z q => exact h.refuse _ _ _ _
/-- a line's words, wherever they stand. -/
theorem Eqv.line {s t : Rs} (h : Eqv s t) (T : Nat → List UInt8) (ws us : List Wd) (hw : wtx ws = wtx us) : Eqv (lineF T ws s) (lineF T us t) := by
  cases ws with
  | nil =>
    have : us = [] := by simpa using hw.symm
    rw [this]
    exact h
  | cons y r =>
    cases us with
    | nil => simp at hw
    | cons z q =>
      simp only [wtx, List.map_cons, List.cons.injEq] at hw
      have h1 : Eqv { s with last := y, left := r } { t with last := z, left := q } := ⟨h.mode, hw.2, h.lines, h.outs, h.places, h.names, h.cname, h.fault⟩
      unfold lineF
      dsimp only
      have hm : fnOf s.mode y.1 = fnOf t.mode z.1 := by rw [h.mode, hw.1]
      rw [hm]
      split
      · exact h1.refuse _ _ _ _
      · exact (h1.step T _).shut
end Go.Proofs.YtfmmmhcpdinhgabGreatDoor
/-
  A text as the words of its lines. Pure.
-/
namespace Go.Proofs.YtfmmmhcpdinhgabGreatDoor
open Go.RowKit Go.Deep PureNet PureRd ShfKit
set_option maxRecDepth 100000

theorem wtx_wr (p n p' n' : Nat) : ∀ (f : Nat) (r : List UInt8), wtx (wr p n f r) = wtx (wr p' n' f r)
  | 0, _ => rfl
  | f + 1, r => by
    rw [wr, wr]
    by_cases h : r.isEmpty = true
    · rw [if_pos h, if_pos h]
    · rw [if_neg h, if_neg h]
      simp only [wtx, List.map_cons]
      exact congrArg (List.cons _) (wtx_wr p n p' n' f _)
theorem wtx_words (l : List UInt8) (p p' : Nat) : wtx (wordsOf l p) = wtx (wordsOf l p') := wtx_wr _ _ _ _ _ _
/-- the words of the lines of a text. -/
def linesW : Nat → List UInt8 → List (List (List UInt8))
  | 0, _ => []
  | f + 1, r => if r = [] then [] else wtx (wordsOf (cutLine r) 0) :: linesW f (r.drop ((cutLine r).length + 1))
/-- words at no place. -/
def bare (ws : List (List UInt8)) : List Wd := ws.map fun x => (x, 0)
theorem wtx_bare (ws : List (List UInt8)) : wtx (bare ws) = ws := by
  induction ws with
  | nil => rfl
  | cons a t ih => exact congrArg (List.cons a) ih
/-- lines of words are read. -/
def foldW (T : Nat → List UInt8) : List (List (List UInt8)) → Rs → Rs
  | [], s => s
  | ws :: r, s => if s.fault = none then foldW T r (lineF T (bare ws) s) else s
theorem Eqv.none {s t : Rs} (h : Eqv s t) : s.fault = none ↔ t.fault = none := by
  have := h.fault
  cases hs : s.fault <;> cases ht : t.fault <;> simp_all
theorem foldW_fault (T : Nat → List UInt8) (l : List (List (List UInt8))) (s : Rs) (h : s.fault ≠ none) : foldW T l s = s := by
  cases l with
  | nil => rfl
  | cons a r => rw [foldW, if_neg h]
theorem lines_fold (T : Nat → List UInt8) (text : List UInt8) : ∀ (f p : Nat) (s t : Rs), Eqv s t → Eqv (linesF T text f p s) (foldW T (linesW f (text.drop p)) t)
  | 0, _, _, _, h => h
  | f + 1, p, s, t, h => by
    rw [linesF, linesW]
    by_cases hp : p < text.length
    · have hne : text.drop p ≠ [] := by
        intro e
        have := congrArg List.length e
        simp at this
        omega
      rw [if_neg hne, foldW]
      by_cases hf : s.fault = none
      · rw [if_pos ⟨hp, hf⟩, if_pos (h.none.1 hf)]
        have h1 : Eqv (lineF T (wordsOf (cutLine (text.drop p)) p) s) (lineF T (bare (wtx (wordsOf (cutLine (text.drop p)) 0))) t) := h.line T _ _ (by rw [wtx_bare]; exact wtx_words _ _ _)
        have h2 := lines_fold T text f (p + ((cutLine (text.drop p)).length + 1)) _ _ h1
        rw [List.drop_drop]
        exact h2
      · rw [if_neg (fun e => hf e.2), if_neg (fun e => hf (h.none.2 e))]
        exact h
    · have he : text.drop p = [] := List.drop_of_length_le (by omega)
      rw [if_neg (fun e => hp e.1), he, if_pos rfl]
      exact h
/-- lines without words say nothing. -/
theorem foldW_empty (T : Nat → List UInt8) : ∀ (l : List (List (List UInt8))) (s : Rs), foldW T l s = foldW T (l.filter fun ws => decide (ws ≠ [])) s
  | [], _ => rfl
  | ws :: r, s => by
    by_cases hw : ws = []
    · subst hw
      simp only [ne_eq, not_true_eq_false, decide_false, Bool.false_eq_true, not_false_eq_true, List.filter_cons_of_neg]
      rw [foldW]
      split
      · exact foldW_empty T r s
      · rename_i h
        rw [foldW_fault T _ s h]
    · rw [List.filter_cons_of_pos (by simpa using hw), foldW, foldW]
      split
      · exact foldW_empty T r _
      · rfl
end Go.Proofs.YtfmmmhcpdinhgabGreatDoor
/-
  Well-formed lines are read. Pure.
-/
namespace Go.Proofs.YtfmmmhcpdinhgabGreatDoor
open Go.RowKit Go.Deep PureNet PureRd ShfKit
set_option maxRecDepth 100000

/-- a line more. -/
def push (s : Rs) (k : Int) (nm : List UInt8) (op : Int) (us : List (List UInt8)) (l : Wd) : Rs := { s with left := [], last := l, places := (nm, s.names.length) :: s.places, names := s.names ++ [0], lines := s.lines ++ [⟨k, nm, op, bare us⟩] }
/-- a reader behind the head, with no fault. -/
structure Clear (s : Rs) : Prop where
  mode : s.mode = 1
  left : s.left = []
  fault : s.fault = none
theorem take_cons {s : Rs} {y : Wd} {t : List Wd} (h : s.left = y :: t) : PureRd.take s = (y, { s with last := y, left := t }) := by unfold PureRd.take; rw [h]
theorem name_cons {s : Rs} {y : Wd} {t : List Wd} (h : s.left = y :: t) (hn : nameL y.1 = true) : PureRd.name nameL s = (y, { s with last := y, left := t }) := by
  unfold PureRd.name
  rw [take_cons h]
  simp only [hn, if_true]
theorem begin_cons {s : Rs} {y : Wd} {t : List Wd} (k : Int) (h : s.left = y :: t) (hn : nameL y.1 = true) (hfew : s.names.length ≠ 65536) (hp : placeOf s y.1 = none) :
    PureRd.begin nameL k s = { s with last := y, left := t, places := (y.1, s.names.length) :: s.places, names := s.names ++ [y.2], lines := s.lines ++ [⟨k, y.1, 0, []⟩] } := by
  unfold PureRd.begin
  rw [if_neg hfew]
  dsimp only
  rw [name_cons h hn]
  have hp2 : placeOf { s with last := y, left := t } y.1 = none := hp
  simp only [hp2, Option.isSome_none, Bool.false_eq_true, if_false]
theorem line_one (T : Nat → List UInt8) (s : Rs) (nm : List UInt8) (h : Clear s) (hn : nameL nm = true) (hfew : s.names.length ≠ 65536) (hp : placeOf s nm = none) :
    ∃ l, lineF T (bare [[105, 110, 112, 117, 116], nm]) s = push s 1 nm 0 [] l := by
  have hf : fnOf s.mode [105, 110, 112, 117, 116] = some 50 := by rw [h.mode]; rfl
  refine ⟨(nm, 0), ?_⟩
  show (match fnOf s.mode [105, 110, 112, 117, 116] with | none => _ | some f => shut (stepF T f { s with last := ([105, 110, 112, 117, 116], 0), left := [(nm, 0)] })) = _
  rw [hf]
  show shut (stepF T 50 { s with last := ([105, 110, 112, 117, 116], 0), left := [(nm, 0)] }) = _
  have e : stepF T 50 { s with last := ([105, 110, 112, 117, 116], 0), left := [(nm, 0)] } = PureRd.begin nameL 1 { s with last := ([105, 110, 112, 117, 116], 0), left := [(nm, 0)] } := rfl
  rw [e, begin_cons (s := { s with last := ([105, 110, 112, 117, 116], 0), left := [(nm, 0)] }) 1 (y := (nm, 0)) (t := []) rfl hn hfew hp]
  rfl
theorem line_end (T : Nat → List UInt8) (s : Rs) (h : Clear s) : ∃ l, lineF T (bare [[101, 110, 100]]) s = { s with mode := 2, left := [], last := l } := by
  have hf : fnOf s.mode [101, 110, 100] = some 55 := by rw [h.mode]; rfl
  refine ⟨([101, 110, 100], 0), ?_⟩
  show (match fnOf s.mode [101, 110, 100] with | none => _ | some f => shut (stepF T f { s with last := ([101, 110, 100], 0), left := [] })) = _
  rw [hf]
  rfl
theorem line_head (T : Nat → List UInt8) (nm : List UInt8) (hn : nameL nm = true) : ∃ l, lineF T (bare [[99, 105, 114, 99, 117, 105, 116], nm]) PureRd.start = { PureRd.start with mode := 1, last := l, cname := nm } := by
  refine ⟨(nm, 0), ?_⟩
  show shut (headed nameL { PureRd.start with last := ([99, 105, 114, 99, 117, 105, 116], 0), left := [(nm, 0)] }) = _
  unfold headed
  rw [name_cons (s := { PureRd.start with last := ([99, 105, 114, 99, 117, 105, 116], 0), left := [(nm, 0)] }) (y := (nm, 0)) (t := []) rfl hn]
  rfl
theorem namesOf_cons {s : Rs} : ∀ (n : Nat) (us : List (List UInt8)) (t : List Wd), us.length = n → (∀ u ∈ us, nameL u = true) → s.left = bare us ++ t → ∃ l, PureRd.namesOf nameL n s = (bare us, { s with last := l, left := t })
  | 0, us, t, hl, _, h => by
    have : us = [] := List.eq_nil_of_length_eq_zero hl
    subst this
    exact ⟨s.last, by show ([], s) = _; rw [show t = s.left by rw [h]; rfl]; rfl⟩
  | n + 1, us, t, hl, hn, h => by
    obtain ⟨vs, u, rfl⟩ : ∃ vs u, us = vs ++ [u] := ⟨us.dropLast, us.getLast (by intro e; rw [e] at hl; simp at hl), (List.dropLast_concat_getLast _).symm⟩
    obtain ⟨l, e⟩ := namesOf_cons n vs ((u, 0) :: t) (by simpa using hl) (fun v hv => hn v (by simp [hv])) (by rw [h]; simp [bare])
    refine ⟨(u, 0), ?_⟩
    have hc := name_cons (s := { s with last := l, left := (u, 0) :: t }) (y := (u, 0)) (t := t) rfl (hn u (by simp))
    have e2 : PureRd.namesOf nameL (n + 1) s = ((PureRd.namesOf nameL n s).1 ++ [(PureRd.name nameL (PureRd.namesOf nameL n s).2).1], (PureRd.name nameL (PureRd.namesOf nameL n s).2).2) := rfl
    rw [e2, e]
    dsimp only
    rw [hc]
    simp [bare]
theorem op_cons {s : Rs} {y : Wd} {t : List Wd} (F : List UInt8 → Int) (h : s.left = y :: t) (hF : F y.1 ≠ -1) : PureRd.op F s = (F y.1, { s with last := y, left := t }) := by
  unfold PureRd.op
  rw [take_cons h]
  dsimp only
  rw [if_neg hF]
/-- a line with names behind its own. -/
theorem uses_cons (s : Rs) (k : Int) (nm : List UInt8) (us : List (List UInt8)) (hl : s.left = (nm, 0) :: bare us) (hn : nameL nm = true) (hus : ∀ u ∈ us, nameL u = true) (hfew : s.names.length ≠ 65536) (hp : placeOf s nm = none) :
    ∃ l, withUses nameL us.length (PureRd.begin nameL k s) = push s k nm 0 us l := by
  rw [begin_cons k hl hn hfew hp]
  obtain ⟨l, e⟩ := namesOf_cons (s := { s with last := (nm, 0), left := bare us, places := (nm, s.names.length) :: s.places, names := s.names ++ [0], lines := s.lines ++ [⟨k, nm, 0, []⟩] }) us.length us [] rfl hus (by simp)
  refine ⟨l, ?_⟩
  unfold withUses
  rw [e]
  dsimp only
  rw [mapLast_of (l0 := s.lines) (y := ⟨k, nm, 0, []⟩) rfl]
  rfl
theorem opuses_cons (s : Rs) (F : List UInt8 → Int) (k : Int) (nm ow : List UInt8) (us : List (List UInt8)) (hl : s.left = (nm, 0) :: (ow, 0) :: bare us) (hn : nameL nm = true) (hF : F ow ≠ -1) (hus : ∀ u ∈ us, nameL u = true) (hfew : s.names.length ≠ 65536) (hp : placeOf s nm = none) :
    ∃ l, withUses nameL us.length (withOp F (PureRd.begin nameL k s)) = push s k nm (F ow) us l := by
  rw [begin_cons k hl hn hfew hp]
  have e1 := op_cons (s := { s with last := (nm, 0), left := (ow, 0) :: bare us, places := (nm, s.names.length) :: s.places, names := s.names ++ [0], lines := s.lines ++ [⟨k, nm, 0, []⟩] }) F (y := (ow, 0)) (t := bare us) rfl hF
  have e2 : withOp F { s with last := (nm, 0), left := (ow, 0) :: bare us, places := (nm, s.names.length) :: s.places, names := s.names ++ [0], lines := s.lines ++ [⟨k, nm, 0, []⟩] } = { s with last := (ow, 0), left := bare us, places := (nm, s.names.length) :: s.places, names := s.names ++ [0], lines := s.lines ++ [⟨k, nm, F ow, []⟩] } := by
    unfold withOp
    rw [e1]
    dsimp only
    rw [mapLast_of (l0 := s.lines) (y := ⟨k, nm, 0, []⟩) rfl]
  rw [e2]
  obtain ⟨l, e⟩ := namesOf_cons (s := { s with last := (ow, 0), left := bare us, places := (nm, s.names.length) :: s.places, names := s.names ++ [0], lines := s.lines ++ [⟨k, nm, F ow, []⟩] }) us.length us [] rfl hus (by simp)
  refine ⟨l, ?_⟩
  unfold withUses
  rw [e]
  dsimp only
  rw [mapLast_of (l0 := s.lines) (y := ⟨k, nm, F ow, []⟩) rfl]
  rfl
end Go.Proofs.YtfmmmhcpdinhgabGreatDoor
/-
  Well-formed lines are read, kind by kind. Pure.
-/
namespace Go.Proofs.YtfmmmhcpdinhgabGreatDoor
open Go.RowKit Go.Deep PureNet PureRd ShfKit
set_option maxRecDepth 100000

theorem line_fn (T : Nat → List UInt8) (s : Rs) (w : List UInt8) (ws : List (List UInt8)) (f : Nat) (hf : fnOf s.mode w = some f) : lineF T (bare (w :: ws)) s = shut (stepF T f { s with last := (w, 0), left := bare ws }) := by
  show (match fnOf s.mode w with | none => _ | some f => shut (stepF T f { s with last := (w, 0), left := bare ws })) = _
  rw [hf]
theorem line_two (T : Nat → List UInt8) (s : Rs) (nm ow a b : List UInt8) (h : Clear s) (hn : nameL nm = true) (hF : opF T ow ≠ -1) (ha : nameL a = true) (hb : nameL b = true) (hfew : s.names.length ≠ 65536) (hp : placeOf s nm = none) :
    ∃ l, lineF T (bare [[103, 97, 116, 101], nm, ow, a, b]) s = push s 2 nm (opF T ow) [a, b] l := by
  have hf : fnOf s.mode [103, 97, 116, 101] = some 51 := by rw [h.mode]; rfl
  rw [line_fn T s _ _ 51 hf]
  obtain ⟨l, e⟩ := opuses_cons { s with last := ([103, 97, 116, 101], 0), left := bare [nm, ow, a, b] } (opF T) 2 nm ow [a, b] rfl hn hF (fun u hu => by simp at hu; rcases hu with rfl | rfl <;> assumption) hfew hp
  exact ⟨l, congrArg shut e⟩
theorem line_three (T : Nat → List UInt8) (s : Rs) (nm ow a : List UInt8) (h : Clear s) (hn : nameL nm = true) (hF : fvF ow ≠ -1) (ha : nameL a = true) (hfew : s.names.length ≠ 65536) (hp : placeOf s nm = none) :
    ∃ l, lineF T (bare [[108, 97, 116, 99, 104], nm, ow, a]) s = push s 3 nm (fvF ow) [a] l := by
  have hf : fnOf s.mode [108, 97, 116, 99, 104] = some 53 := by rw [h.mode]; rfl
  rw [line_fn T s _ _ 53 hf]
  obtain ⟨l, e⟩ := opuses_cons { s with last := ([108, 97, 116, 99, 104], 0), left := bare [nm, ow, a] } fvF 3 nm ow [a] rfl hn hF (fun u hu => by simp at hu; rw [hu]; exact ha) hfew hp
  exact ⟨l, congrArg shut e⟩
theorem line_four (T : Nat → List UInt8) (s : Rs) (nm a b c : List UInt8) (h : Clear s) (hn : nameL nm = true) (ha : nameL a = true) (hb : nameL b = true) (hc : nameL c = true) (hfew : s.names.length ≠ 65536) (hp : placeOf s nm = none) :
    ∃ l, lineF T (bare [[109, 117, 120], nm, a, b, c]) s = push s 4 nm 0 [a, b, c] l := by
  have hf : fnOf s.mode [109, 117, 120] = some 52 := by rw [h.mode]; rfl
  rw [line_fn T s _ _ 52 hf]
  obtain ⟨l, e⟩ := uses_cons { s with last := ([109, 117, 120], 0), left := bare [nm, a, b, c] } 4 nm [a, b, c] rfl hn (fun u hu => by simp at hu; rcases hu with rfl | rfl | rfl <;> assumption) hfew hp
  exact ⟨l, congrArg shut e⟩
theorem line_out (T : Nat → List UInt8) (s : Rs) (a : List UInt8) (h : Clear s) (ha : nameL a = true) (hfew : s.outs ≠ 65536) :
    ∃ l, lineF T (bare [[111, 117, 116, 112, 117, 116], a]) s = { s with left := [], last := l, outs := s.outs + 1, lines := s.lines ++ [⟨0, [], 0, bare [a]⟩] } := by
  have hf : fnOf s.mode [111, 117, 116, 112, 117, 116] = some 54 := by rw [h.mode]; rfl
  rw [line_fn T s _ _ 54 hf]
  obtain ⟨l, e⟩ := namesOf_cons (s := { s with last := ([111, 117, 116, 112, 117, 116], 0), left := bare [a], outs := s.outs + 1 }) 1 [a] [] rfl (fun u hu => by simp at hu; rw [hu]; exact ha) (by simp)
  refine ⟨l, ?_⟩
  have e2 : stepF T 54 { s with last := ([111, 117, 116, 112, 117, 116], 0), left := bare [a] } = PureRd.output nameL { s with last := ([111, 117, 116, 112, 117, 116], 0), left := bare [a] } := rfl
  rw [e2]
  unfold PureRd.output
  dsimp only
  rw [if_neg hfew, e]
  rfl
theorem Clear.push {s : Rs} (h : Clear s) (k : Int) (nm : List UInt8) (op : Int) (us : List (List UInt8)) (l : Wd) : Clear (Go.Proofs.YtfmmmhcpdinhgabGreatDoor.push s k nm op us l) := ⟨h.mode, rfl, h.fault⟩
end Go.Proofs.YtfmmmhcpdinhgabGreatDoor
/-
  The lines of a circuit are read, one behind another. Pure.
-/
namespace Go.Proofs.YtfmmmhcpdinhgabGreatDoor
open Go.RowKit Go.Deep PureNet PureRd ShfKit
set_option maxRecDepth 100000

/-- a line's name, by its place. -/
def nmG (gs : List Ga) (k : Nat) : List UInt8 := ((gs[k]?).map fun g => g.name.data.toList).getD []
theorem nmG_at {gs : List Ga} {k : Nat} {g : Ga} (h : gs[k]? = some g) : nmG gs k = g.name.data.toList := by unfold nmG; rw [h]; rfl
/-- the names that a line uses. -/
def usesG (gs : List Ga) (g : Ga) : List (List UInt8) := if g.kind = 1 then [] else if g.kind = 2 then [nmG gs g.a.toNat, nmG gs g.b.toNat] else if g.kind = 3 then [nmG gs g.a.toNat] else [nmG gs g.a.toNat, nmG gs g.b.toNat, nmG gs g.c.toNat]
def unpG (gs : List Ga) (g : Ga) : Int × List UInt8 × Int × List (List UInt8) := (g.kind, g.name.data.toList, g.op, usesG gs g)
/-- names apart. -/
def NmApart (gs : List Ga) : Prop := ∀ j k, j < gs.length → k < gs.length → nmG gs j = nmG gs k → j = k
/-- behind the first i lines. -/
structure GS (gs : List Ga) (cn : List UInt8) (i : Nat) (s : Rs) : Prop where
  clear : Clear s
  names : s.names.length = i
  places : ∀ p, p ∈ s.places ↔ ∃ k, k < i ∧ p = (nmG gs k, k)
  lines : s.lines.map unp = (gs.take i).map (unpG gs)
  outs : s.outs = 0
  cname : s.cname = cn
theorem GS.fresh {gs : List Ga} {cn : List UInt8} {i : Nat} {s : Rs} (h : GS gs cn i s) (ha : NmApart gs) (hi : i < gs.length) : placeOf s (nmG gs i) = none := by
  unfold placeOf
  have : s.places.find? (fun p => p.1 == nmG gs i) = none := by
    rw [List.find?_eq_none]
    intro p hp he
    obtain ⟨k, hk, rfl⟩ := (h.places p).1 hp
    have := ha k i (by omega) hi (by simpa using he)
    omega
  rw [this]
  rfl
theorem GS.push {gs : List Ga} {cn : List UInt8} {i : Nat} {s : Rs} {g : Ga} (h : GS gs cn i s) (hg : gs[i]? = some g) (op : Int) (us : List (List UInt8)) (l : Wd) (ho : op = g.op) (hu : us = usesG gs g) : GS gs cn (i + 1) (Go.Proofs.YtfmmmhcpdinhgabGreatDoor.push s g.kind (nmG gs i) op us l) := by
  refine ⟨h.clear.push _ _ _ _ _, by show (s.names ++ [0]).length = i + 1; rw [List.length_append, h.names]; rfl, fun p => ?_, ?_, h.outs, h.cname⟩
  · show p ∈ (nmG gs i, s.names.length) :: s.places ↔ _
    rw [List.mem_cons, h.places p, h.names]
    constructor
    · rintro (rfl | ⟨k, hk, rfl⟩)
      · exact ⟨i, by omega, rfl⟩
      · exact ⟨k, by omega, rfl⟩
    · rintro ⟨k, hk, rfl⟩
      by_cases hki : k = i
      · left; rw [hki]
      · right; exact ⟨k, by omega, rfl⟩
  · show (s.lines ++ [(⟨g.kind, nmG gs i, op, bare us⟩ : Ln)]).map unp = _
    rw [List.map_append, h.lines, List.take_add_one, hg, List.map_append]
    simp only [List.map_cons, List.map_nil, Option.toList, unp, unpG]
    rw [wtx_bare, nmG_at hg, ho, hu]
end Go.Proofs.YtfmmmhcpdinhgabGreatDoor
/-
  The lines of a circuit are read. Pure.
-/
namespace Go.Proofs.YtfmmmhcpdinhgabGreatDoor
open Go.RowKit Go.Deep PureNet PureRd ShfKit
set_option maxRecDepth 100000

def fvW (op : Int) : List UInt8 := if op = 0 then [48] else [49]
/-- the words of a line. -/
def wordsG (T : Nat → List UInt8) (gs : List Ga) (g : Ga) (nm : List UInt8) : List (List UInt8) :=
  if g.kind = 1 then [[105, 110, 112, 117, 116], nm]
  else if g.kind = 2 then [[103, 97, 116, 101], nm, T g.op.toNat] ++ usesG gs g
  else if g.kind = 3 then [[108, 97, 116, 99, 104], nm, fvW g.op] ++ usesG gs g
  else [[109, 117, 120], nm] ++ usesG gs g
/-- a line as it should be. -/
structure LnV (T : Nat → List UInt8) (gs : List Ga) (g : Ga) : Prop where
  kind : 1 ≤ g.kind ∧ g.kind ≤ 4
  op1 : g.kind = 1 ∨ g.kind = 4 → g.op = 0
  op2 : g.kind = 2 → opF T (T g.op.toNat) = g.op ∧ g.op ≠ -1
  op3 : g.kind = 3 → g.op = 0 ∨ g.op = 1
  uses : ∀ u ∈ usesG gs g, nameL u = true
theorem GS.line {T : Nat → List UInt8} {gs : List Ga} {cn : List UInt8} {i : Nat} {s : Rs} {g : Ga} (h : GS gs cn i s) (ha : NmApart gs) (hg : gs[i]? = some g) (hv : LnV T gs g) (hnm : nameL (nmG gs i) = true) (hfew : i ≠ 65536) : GS gs cn (i + 1) (lineF T (bare (wordsG T gs g (nmG gs i))) s) := by
  have hi := (List.getElem?_eq_some_iff.1 hg).1
  have hp := h.fresh ha hi
  have hf : s.names.length ≠ 65536 := by rw [h.names]; exact hfew
  have hu := hv.uses
  have hk := hv.kind
  rcases (show g.kind = 1 ∨ g.kind = 2 ∨ g.kind = 3 ∨ g.kind = 4 by omega) with e | e | e | e
  · obtain ⟨l, el⟩ := line_one T s (nmG gs i) h.clear hnm hf hp
    unfold wordsG
    rw [if_pos e, el]
    have := h.push hg 0 [] l (hv.op1 (.inl e)).symm (by unfold usesG; rw [if_pos e])
    rw [e] at this
    exact this
  · have eu : usesG gs g = [nmG gs g.a.toNat, nmG gs g.b.toNat] := by unfold usesG; rw [if_neg (by omega), if_pos e]
    rw [eu] at hu
    obtain ⟨h1, h2⟩ := hv.op2 e
    obtain ⟨l, el⟩ := line_two T s (nmG gs i) (T g.op.toNat) (nmG gs g.a.toNat) (nmG gs g.b.toNat) h.clear hnm (by rw [h1]; exact h2) (hu _ (by simp)) (hu _ (by simp)) hf hp
    unfold wordsG
    rw [if_neg (by omega), if_pos e, eu]
    show GS gs cn (i + 1) (lineF T (bare [[103, 97, 116, 101], nmG gs i, T g.op.toNat, nmG gs g.a.toNat, nmG gs g.b.toNat]) s)
    rw [el]
    have := h.push hg (opF T (T g.op.toNat)) [nmG gs g.a.toNat, nmG gs g.b.toNat] l h1 eu.symm
    rw [e] at this
    exact this
  · have eu : usesG gs g = [nmG gs g.a.toNat] := by unfold usesG; rw [if_neg (by omega), if_neg (by omega), if_pos e]
    rw [eu] at hu
    have h1 : fvF (fvW g.op) = g.op := by
      rcases hv.op3 e with q | q
      · rw [q]; rfl
      · rw [q]; rfl
    obtain ⟨l, el⟩ := line_three T s (nmG gs i) (fvW g.op) (nmG gs g.a.toNat) h.clear hnm (by rw [h1]; rcases hv.op3 e with q | q <;> rw [q] <;> decide) (hu _ (by simp)) hf hp
    unfold wordsG
    rw [if_neg (by omega), if_neg (by omega), if_pos e, eu]
    show GS gs cn (i + 1) (lineF T (bare [[108, 97, 116, 99, 104], nmG gs i, fvW g.op, nmG gs g.a.toNat]) s)
    rw [el]
    have := h.push hg (fvF (fvW g.op)) [nmG gs g.a.toNat] l h1 eu.symm
    rw [e] at this
    exact this
  · have eu : usesG gs g = [nmG gs g.a.toNat, nmG gs g.b.toNat, nmG gs g.c.toNat] := by unfold usesG; rw [if_neg (by omega), if_neg (by omega), if_neg (by omega)]
    rw [eu] at hu
    obtain ⟨l, el⟩ := line_four T s (nmG gs i) (nmG gs g.a.toNat) (nmG gs g.b.toNat) (nmG gs g.c.toNat) h.clear hnm (hu _ (by simp)) (hu _ (by simp)) (hu _ (by simp)) hf hp
    unfold wordsG
    rw [if_neg (by omega), if_neg (by omega), if_neg (by omega), eu]
    show GS gs cn (i + 1) (lineF T (bare [[109, 117, 120], nmG gs i, nmG gs g.a.toNat, nmG gs g.b.toNat, nmG gs g.c.toNat]) s)
    rw [el]
    have := h.push hg 0 [nmG gs g.a.toNat, nmG gs g.b.toNat, nmG gs g.c.toNat] l (hv.op1 (.inr e)).symm eu.symm
    rw [e] at this
    exact this
end Go.Proofs.YtfmmmhcpdinhgabGreatDoor
/-
  All lines of a circuit are read. Pure.
-/
namespace Go.Proofs.YtfmmmhcpdinhgabGreatDoor
open Go.RowKit Go.Deep PureNet PureRd ShfKit
set_option maxRecDepth 100000

theorem fold_gates {T : Nat → List UInt8} {gs : List Ga} {cn : List UInt8} (ha : NmApart gs) (hv : ∀ g ∈ gs, LnV T gs g) (hnm : ∀ g ∈ gs, nameL g.name.data.toList = true) (hfew : gs.length ≤ 65536) (rest : List (List (List UInt8))) :
    ∀ (l : List Ga) (i : Nat) (s : Rs), gs.drop i = l → i ≤ gs.length → GS gs cn i s → ∃ s', GS gs cn gs.length s' ∧ foldW T (l.map (fun g => wordsG T gs g g.name.data.toList) ++ rest) s = foldW T rest s'
  | [], i, s, hd, hi, h => by
    have : gs.length ≤ i := by
      have := congrArg List.length hd
      simp at this
      omega
    have e : i = gs.length := by omega
    subst e
    exact ⟨s, h, rfl⟩
  | g :: t, i, s, hd, hi, h => by
    have hg : gs[i]? = some g := by
      have := congrArg (fun l => l[0]?) hd
      simpa using this
    have hlt := (List.getElem?_eq_some_iff.1 hg).1
    have hm := List.mem_of_getElem? hg
    have hn : nameL (nmG gs i) = true := by rw [nmG_at hg]; exact hnm g hm
    have h1 := h.line ha hg (hv g hm) hn (by omega)
    have hd2 : gs.drop (i + 1) = t := by
      have := congrArg List.tail hd
      simpa using this
    obtain ⟨s', h2, e2⟩ := fold_gates ha hv hnm hfew rest t (i + 1) _ hd2 (by omega) h1
    refine ⟨s', h2, ?_⟩
    rw [List.map_cons, List.cons_append, foldW, if_pos h.clear.fault, ← nmG_at hg]
    exact e2
/-- behind all lines and the first j outs. -/
structure OS (gs : List Ga) (cn : List UInt8) (os : List Int) (j : Nat) (s : Rs) : Prop where
  clear : Clear s
  names : s.names.length = gs.length
  places : ∀ p, p ∈ s.places ↔ ∃ k, k < gs.length ∧ p = (nmG gs k, k)
  lines : s.lines.map unp = gs.map (unpG gs) ++ (os.take j).map fun a => ((0 : Int), ([] : List UInt8), (0 : Int), [nmG gs a.toNat])
  outs : s.outs = j
  cname : s.cname = cn
theorem GS.all {gs : List Ga} {cn : List UInt8} {s : Rs} (h : GS gs cn gs.length s) (os : List Int) : OS gs cn os 0 s :=
  ⟨h.clear, h.names, h.places, by rw [h.lines]; simp, h.outs, h.cname⟩
theorem fold_outs {T : Nat → List UInt8} {gs : List Ga} {cn : List UInt8} {os : List Int} (hnm : ∀ a ∈ os, nameL (nmG gs a.toNat) = true) (hfew : os.length ≤ 65536) (rest : List (List (List UInt8))) :
    ∀ (l : List Int) (j : Nat) (s : Rs), os.drop j = l → j ≤ os.length → OS gs cn os j s → ∃ s', OS gs cn os os.length s' ∧ foldW T (l.map (fun a => [[111, 117, 116, 112, 117, 116], nmG gs a.toNat]) ++ rest) s = foldW T rest s'
  | [], j, s, hd, hj, h => by
    have : os.length ≤ j := by
      have := congrArg List.length hd
      simp at this
      omega
    have e : j = os.length := by omega
    subst e
    exact ⟨s, h, rfl⟩
  | a :: t, j, s, hd, hj, h => by
    have hg : os[j]? = some a := by
      have := congrArg (fun l => l[0]?) hd
      simpa using this
    have hlt := (List.getElem?_eq_some_iff.1 hg).1
    obtain ⟨l, e⟩ := line_out T s (nmG gs a.toNat) h.clear (hnm a (List.mem_of_getElem? hg)) (by rw [h.outs]; omega)
    have hd2 : os.drop (j + 1) = t := by
      have := congrArg List.tail hd
      simpa using this
    have h1 : OS gs cn os (j + 1) (lineF T (bare [[111, 117, 116, 112, 117, 116], nmG gs a.toNat]) s) := by
      rw [e]
      refine ⟨⟨h.clear.mode, rfl, h.clear.fault⟩, h.names, h.places, ?_, by show s.outs + 1 = j + 1; rw [h.outs], h.cname⟩
      show (s.lines ++ [(⟨0, [], 0, bare [nmG gs a.toNat]⟩ : Ln)]).map unp = _
      rw [List.map_append, h.lines, List.take_add_one, hg, List.map_append, List.append_assoc]
      rfl
    obtain ⟨s', h2, e2⟩ := fold_outs hnm hfew rest t (j + 1) _ hd2 (by omega) h1
    refine ⟨s', h2, ?_⟩
    rw [List.map_cons, List.cons_append, foldW, if_pos h.clear.fault]
    exact e2
end Go.Proofs.YtfmmmhcpdinhgabGreatDoor
/-
  The words of a circuit are read to the circuit. Pure.
-/
namespace Go.Proofs.YtfmmmhcpdinhgabGreatDoor
open Go.RowKit Go.Deep PureNet PureRd ShfKit
set_option maxRecDepth 100000

/-- all is read. -/
structure Done (gs : List Ga) (cn : List UInt8) (os : List Int) (s : Rs) : Prop where
  mode : s.mode = 2
  fault : s.fault = none
  places : ∀ p, p ∈ s.places ↔ ∃ k, k < gs.length ∧ p = (nmG gs k, k)
  lines : s.lines.map unp = gs.map (unpG gs) ++ os.map fun a => ((0 : Int), ([] : List UInt8), (0 : Int), [nmG gs a.toNat])
  cname : s.cname = cn
/-- the words of a circuit's lines. -/
def wordsN (T : Nat → List UInt8) (gs : List Ga) (cn : List UInt8) (os : List Int) : List (List (List UInt8)) :=
  [[99, 105, 114, 99, 117, 105, 116], cn] :: (gs.map (fun g => wordsG T gs g g.name.data.toList) ++ (os.map (fun a => [[111, 117, 116, 112, 117, 116], nmG gs a.toNat]) ++ [[[101, 110, 100]]]))
theorem fold_all {T : Nat → List UInt8} {gs : List Ga} {cn : List UInt8} {os : List Int} (hcn : nameL cn = true) (ha : NmApart gs) (hv : ∀ g ∈ gs, LnV T gs g) (hnm : ∀ g ∈ gs, nameL g.name.data.toList = true) (hfew : gs.length ≤ 65536) (hno : ∀ a ∈ os, nameL (nmG gs a.toNat) = true) (hfo : os.length ≤ 65536) : Done gs cn os (foldW T (wordsN T gs cn os) PureRd.start) := by
  obtain ⟨l, e⟩ := line_head T cn hcn
  unfold wordsN
  rw [foldW, if_pos (show PureRd.start.fault = none from rfl), e]
  have h0 : GS gs cn 0 { PureRd.start with mode := 1, last := l, cname := cn } := ⟨⟨rfl, rfl, rfl⟩, rfl, fun p => by simp [PureRd.start], by simp [PureRd.start], rfl, rfl⟩
  obtain ⟨s1, h1, e1⟩ := fold_gates ha hv hnm hfew (os.map (fun a => [[111, 117, 116, 112, 117, 116], nmG gs a.toNat]) ++ [[[101, 110, 100]]]) gs 0 _ rfl (Nat.zero_le _) h0
  rw [e1]
  obtain ⟨s2, h2, e2⟩ := fold_outs (T := T) hno hfo [[[101, 110, 100]]] os 0 _ rfl (Nat.zero_le _) (h1.all os)
  rw [e2, foldW, if_pos h2.clear.fault, foldW]
  obtain ⟨l3, e3⟩ := line_end T s2 h2.clear
  rw [e3]
  exact ⟨rfl, h2.clear.fault, h2.places, by show s2.lines.map unp = _; rw [h2.lines, List.take_length], h2.cname⟩
theorem Done.old {gs : List Ga} {cn : List UInt8} {os : List Int} {s : Rs} (h : Done gs cn os s) (ha : NmApart gs) {k : Nat} (hk : k < gs.length) : placeOf s (nmG gs k) = some k := by
  unfold placeOf
  cases hf : s.places.find? (fun p => p.1 == nmG gs k) with
  | none =>
    rw [List.find?_eq_none] at hf
    exact absurd (by simp) (hf (nmG gs k, k) ((h.places _).2 ⟨k, hk, rfl⟩))
  | some p =>
    have h1 := List.find?_some hf
    obtain ⟨j, hj, rfl⟩ := (h.places p).1 (List.mem_of_find?_eq_some hf)
    have := ha j k (by omega) (by omega) (by simpa using h1)
    simp [this]
theorem plcI_w {s : Rs} {ws : List Wd} {i k : Nat} {w : List UInt8} (h : (wtx ws)[i]? = some w) (hp : placeOf s w = some k) : plcI s ws i = (k : Int) := by
  unfold plcI
  cases hw : ws[i]? with
  | none => simp [wtx, hw] at h
  | some y =>
    have : y.1 = w := by simpa [wtx, hw] using h
    show (((placeOf s y.1).getD 0 : Nat) : Int) = _
    rw [this, hp]
    rfl
theorem plcI_none {s : Rs} {ws : List Wd} {i : Nat} (h : (wtx ws)[i]? = none) : plcI s ws i = 0 := by
  unfold plcI
  cases hw : ws[i]? with
  | none => rfl
  | some y => simp [wtx, hw] at h
theorem unk_w {s : Rs} {ws : List Wd} (h : ∀ w ∈ wtx ws, (placeOf s w).isSome = true) : unk s ws = none := by
  unfold unk
  rw [List.find?_eq_none]
  intro y hy
  have := h y.1 (List.mem_map.2 ⟨y, hy, rfl⟩)
  cases hp : placeOf s y.1 with
  | none => rw [hp] at this; cases this
  | some p => simp
/-- a line's fields. -/
def InR (gs : List Ga) (v : Int) : Prop := 0 ≤ v ∧ v < (gs.length : Int)
structure FitsG (gs : List Ga) (g : Ga) : Prop where
  kind : 1 ≤ g.kind ∧ g.kind ≤ 4
  one : g.kind = 1 → g.a = 0 ∧ g.b = 0 ∧ g.c = 0
  two : g.kind = 2 → InR gs g.a ∧ InR gs g.b ∧ g.c = 0
  three : g.kind = 3 → InR gs g.a ∧ g.b = 0 ∧ g.c = 0
  four : g.kind = 4 → InR gs g.a ∧ InR gs g.b ∧ InR gs g.c
theorem Done.ga {gs : List Ga} {cn : List UInt8} {os : List Int} {s : Rs} (h : Done gs cn os s) (ha : NmApart gs) {g : Ga} (hf : FitsG gs g) {l : Ln} (hl : unp l = unpG gs g) : unk s l.uses = none ∧ gaOf s l = g := by
  simp only [unp, unpG, Prod.mk.injEq] at hl
  obtain ⟨l1, l2, l3, l4⟩ := hl
  have old : ∀ v, InR gs v → placeOf s (nmG gs v.toNat) = some v.toNat := fun v hv => h.old ha (by have := hv.1; have := hv.2; omega)
  have olds : ∀ v, InR gs v → (placeOf s (nmG gs v.toNat)).isSome = true := fun v hv => by rw [old v hv]; rfl
  have nat : ∀ v, InR gs v → ((v.toNat : Nat) : Int) = v := fun v hv => by have := hv.1; omega
  have nm : (⟨l.name.toArray⟩ : ByteArray) = g.name := by rw [l2]
  obtain ⟨gk, gn, go, g_a, g_b, g_c⟩ := g
  simp only at l1 l2 l3 nm
  have hk := hf.kind
  have fin : ∀ a b c, plcI s l.uses 0 = a → plcI s l.uses 1 = b → plcI s l.uses 2 = c → a = g_a → b = g_b → c = g_c → gaOf s l = ⟨gk, gn, go, g_a, g_b, g_c⟩ := fun a b c e1 e2 e3 q1 q2 q3 => by
    unfold gaOf
    rw [e1, e2, e3, q1, q2, q3, nm, l1, l3]
  rcases (show gk = 1 ∨ gk = 2 ∨ gk = 3 ∨ gk = 4 by simp only at hk; omega) with e | e | e | e
  · have eu : usesG gs ⟨gk, gn, go, g_a, g_b, g_c⟩ = [] := by unfold usesG; rw [if_pos e]
    rw [eu] at l4
    obtain ⟨z1, z2, z3⟩ := hf.one e
    refine ⟨unk_w (fun w hw => by rw [l4] at hw; simp at hw), fin 0 0 0 (plcI_none (by rw [l4]; rfl)) (plcI_none (by rw [l4]; rfl)) (plcI_none (by rw [l4]; rfl)) z1.symm z2.symm z3.symm⟩
  · have eu : usesG gs ⟨gk, gn, go, g_a, g_b, g_c⟩ = [nmG gs g_a.toNat, nmG gs g_b.toNat] := by unfold usesG; rw [if_neg (by simp only; omega), if_pos e]
    rw [eu] at l4
    obtain ⟨z1, z2, z3⟩ := hf.two e
    refine ⟨unk_w (fun w hw => by rw [l4] at hw; simp at hw; rcases hw with rfl | rfl; exact olds _ z1; exact olds _ z2), fin _ _ 0 (plcI_w (by rw [l4]; rfl) (old _ z1)) (plcI_w (by rw [l4]; rfl) (old _ z2)) (plcI_none (by rw [l4]; rfl)) (nat _ z1) (nat _ z2) z3.symm⟩
  · have eu : usesG gs ⟨gk, gn, go, g_a, g_b, g_c⟩ = [nmG gs g_a.toNat] := by unfold usesG; rw [if_neg (by simp only; omega), if_neg (by simp only; omega), if_pos e]
    rw [eu] at l4
    obtain ⟨z1, z2, z3⟩ := hf.three e
    refine ⟨unk_w (fun w hw => by rw [l4] at hw; simp at hw; rw [hw]; exact olds _ z1), fin _ 0 0 (plcI_w (by rw [l4]; rfl) (old _ z1)) (plcI_none (by rw [l4]; rfl)) (plcI_none (by rw [l4]; rfl)) (nat _ z1) z2.symm z3.symm⟩
  · have eu : usesG gs ⟨gk, gn, go, g_a, g_b, g_c⟩ = [nmG gs g_a.toNat, nmG gs g_b.toNat, nmG gs g_c.toNat] := by unfold usesG; rw [if_neg (by simp only; omega), if_neg (by simp only; omega), if_neg (by simp only; omega)]
    rw [eu] at l4
    obtain ⟨z1, z2, z3⟩ := hf.four e
    refine ⟨unk_w (fun w hw => by rw [l4] at hw; simp at hw; rcases hw with rfl | rfl | rfl; exact olds _ z1; exact olds _ z2; exact olds _ z3), fin _ _ _ (plcI_w (by rw [l4]; rfl) (old _ z1)) (plcI_w (by rw [l4]; rfl) (old _ z2)) (plcI_w (by rw [l4]; rfl) (old _ z3)) (nat _ z1) (nat _ z2) (nat _ z3)⟩
end Go.Proofs.YtfmmmhcpdinhgabGreatDoor
/-
  A circuit's words, connected, are the circuit. Pure.
-/
namespace Go.Proofs.YtfmmmhcpdinhgabGreatDoor
open Go.RowKit Go.Deep PureNet PureRd ShfKit
set_option maxRecDepth 100000

theorem Done.alike {gs : List Ga} {cn : List UInt8} {os : List Int} {s t : Rs} (h : Done gs cn os t) (e : Eqv s t) : Done gs cn os s :=
  ⟨by rw [e.mode]; exact h.mode, e.none.2 h.fault, by rw [e.places]; exact h.places, by rw [e.lines]; exact h.lines, by rw [e.cname]; exact h.cname⟩
theorem conn_gates {gs : List Ga} {cn : List UInt8} {os : List Int} {s : Rs} (h : Done gs cn os s) (ha : NmApart gs) (O : List (Int × List UInt8 × Int × List (List UInt8))) :
    ∀ (r : List Ga) (ls : List Ln) (acc : List Ga), (∀ g ∈ r, FitsG gs g) → ls.map unp = r.map (unpG gs) ++ O → ∃ ls', ls'.map unp = O ∧ connF s ls acc [] = connF s ls' (acc ++ r) []
  | [], ls, acc, _, hl => ⟨ls, by simpa using hl, by rw [List.append_nil]⟩
  | g :: r, [], acc, _, hl => by simp at hl
  | g :: r, l :: ls, acc, hf, hl => by
    simp only [List.map_cons, List.cons_append, List.cons.injEq] at hl
    obtain ⟨h1, h2⟩ := h.ga ha (hf g (by simp)) hl.1
    obtain ⟨ls', h3, h4⟩ := conn_gates h ha O r ls (acc ++ [g]) (fun x hx => hf x (by simp [hx])) hl.2
    refine ⟨ls', h3, ?_⟩
    have hk : l.kind ≠ 0 := by
      have e := hl.1
      simp only [unp, unpG, Prod.mk.injEq] at e
      have := (hf g (by simp)).kind
      omega
    rw [connF, h1]
    simp only
    rw [if_neg hk, h2, h4, List.append_assoc]
    rfl
theorem conn_outs {gs : List Ga} {cn : List UInt8} {os : List Int} {s : Rs} (h : Done gs cn os s) (ha : NmApart gs) :
    ∀ (r : List Int) (ls : List Ln) (acc : List Int), (∀ a ∈ r, InR gs a) → (ls.map unp = r.map fun a => ((0 : Int), ([] : List UInt8), (0 : Int), [nmG gs a.toNat])) → connF s ls gs acc = (none, gs, acc ++ r)
  | [], ls, acc, _, hl => by
    have : ls = [] := by simpa using hl
    rw [this, connF, List.append_nil]
  | a :: r, [], acc, _, hl => by simp at hl
  | a :: r, l :: ls, acc, hf, hl => by
    simp only [List.map_cons, List.cons.injEq] at hl
    have e := hl.1
    simp only [unp, Prod.mk.injEq] at e
    obtain ⟨e1, e2, e3, e4⟩ := e
    have hr := hf a (by simp)
    have hp : placeOf s (nmG gs a.toNat) = some a.toNat := h.old ha (by have := hr.1; have := hr.2; omega)
    have h1 : unk s l.uses = none := unk_w (fun w hw => by rw [e4] at hw; simp at hw; rw [hw, hp]; rfl)
    have h2 : plcI s l.uses 0 = a := by
      rw [plcI_w (k := a.toNat) (by rw [e4]; rfl) hp]
      have := hr.1
      omega
    have h3 := conn_outs h ha r ls (acc ++ [a]) (fun x hx => hf x (by simp [hx])) hl.2
    rw [connF, h1]
    simp only
    rw [if_pos e1, h2, h3, List.append_assoc]
    rfl
theorem Done.conn {gs : List Ga} {cn : List UInt8} {os : List Int} {s : Rs} (h : Done gs cn os s) (ha : NmApart gs) (hf : ∀ g ∈ gs, FitsG gs g) (ho : ∀ a ∈ os, InR gs a) : connF s s.lines [] [] = (none, gs, os) := by
  obtain ⟨ls, h1, h2⟩ := conn_gates h ha _ gs s.lines [] hf h.lines
  rw [h2, List.nil_append, conn_outs h ha os ls [] ho h1, List.nil_append]
/-- a text whose lines' words are a circuit's is read to it. -/
theorem text_done {T : Nat → List UInt8} {gs : List Ga} {cn : List UInt8} {os : List Int} (text : List UInt8) (hw : (linesW (text.length + 1) text).filter (fun ws => decide (ws ≠ [])) = wordsN T gs cn os) (hcn : nameL cn = true) (ha : NmApart gs) (hv : ∀ g ∈ gs, LnV T gs g) (hnm : ∀ g ∈ gs, nameL g.name.data.toList = true) (hfew : gs.length ≤ 65536) (hno : ∀ a ∈ os, nameL (nmG gs a.toNat) = true) (hfo : os.length ≤ 65536) : Done gs cn os (readLinesF T text PureRd.start) := by
  have e := lines_fold T text (text.length + 1) 0 PureRd.start PureRd.start (Eqv.refl _)
  rw [List.drop_zero, foldW_empty, hw] at e
  have h := (fold_all (T := T) hcn ha hv hnm hfew hno hfo).alike e
  unfold readLinesF
  rw [if_neg (by rw [h.mode]; decide)]
  exact h
end Go.Proofs.YtfmmmhcpdinhgabGreatDoor
/-
  A text's words, byte by byte; what respelling leaves as it was. Pure.
-/
namespace PureRd
set_option maxRecDepth 100000
/-- a word that may be. -/
def fl (cur : List UInt8) : List (List UInt8) := if cur = [] then [] else [cur]
def emit (ws : List (List UInt8)) : List (List (List UInt8)) := if ws = [] then [] else [ws]
theorem fl_nil : fl [] = [] := rfl
theorem fl_some {w : List UInt8} (h : w ≠ []) : fl w = [w] := if_neg h
theorem emit_some {w : List (List UInt8)} (h : w ≠ []) : emit w = [w] := if_neg h
/-- the words of a line without remark. -/
def wsp : List UInt8 → List UInt8 → List (List UInt8)
  | cur, [] => fl cur
  | cur, c :: r => if blankB c then fl cur ++ wsp [] r else wsp (cur ++ [c]) r
theorem wsp_word : ∀ (w cur r : List UInt8), (∀ c ∈ w, blankB c = false) → wsp cur (w ++ r) = wsp (cur ++ w) r
  | [], cur, r, _ => by simp
  | c :: w, cur, r, h => by
    rw [List.cons_append, wsp, if_neg (by rw [h c (by simp)]; decide), wsp_word w _ r (fun x hx => h x (by simp [hx]))]
    simp
theorem wsp_drop : ∀ (r : List UInt8), wsp [] (r.dropWhile blankB) = wsp [] r
  | [] => rfl
  | c :: r => by
    by_cases h : blankB c = true
    · rw [List.dropWhile_cons_of_pos h, wsp_drop r, wsp, if_pos h]
      rfl
    · rw [List.dropWhile_cons_of_neg h]
theorem wsp_break (cur : List UInt8) : ∀ (r : List UInt8), (∀ a, r.head? = some a → blankB a = true) → wsp cur r = fl cur ++ wsp [] r
  | [], _ => by simp [wsp, fl]
  | c :: r, h => by
    have hb := h c rfl
    rw [wsp, if_pos hb, wsp, if_pos hb]
    rfl
theorem take_all (r : List UInt8) : ∀ c ∈ r.takeWhile (fun c => !blankB c), blankB c = false := by
  induction r with
  | nil => simp
  | cons a t ih =>
    intro c hc
    by_cases h : blankB a = true
    · rw [List.takeWhile_cons_of_neg (by simp [h])] at hc
      simp at hc
    · rw [List.takeWhile_cons_of_pos (by simpa using h)] at hc
      rcases List.mem_cons.1 hc with rfl | hc
      · simpa using h
      · exact ih c hc
theorem drop_head (r : List UInt8) : ∀ a, (r.drop (r.takeWhile (fun c => !blankB c)).length).head? = some a → blankB a = true := by
  induction r with
  | nil => simp
  | cons b t ih =>
    intro a ha
    by_cases h : blankB b = true
    · rw [List.takeWhile_cons_of_neg (by simp [h])] at ha
      simp at ha
      rw [← ha]
      exact h
    · rw [List.takeWhile_cons_of_pos (by simpa using h)] at ha
      simp only [List.length_cons, List.drop_succ_cons] at ha
      exact ih a ha
theorem wr_wsp (p n : Nat) : ∀ (f : Nat) (r : List UInt8), r.length < f → (∀ a, r.head? = some a → blankB a = false) → (wr p n f r).map Prod.fst = wsp [] r
  | 0, _, h, _ => by omega
  | f + 1, [], _, _ => rfl
  | f + 1, a :: t, h, hh => by
    have ha := hh a rfl
    rw [wr, if_neg (by simp)]
    have e0 : (a :: t) = (a :: t).takeWhile (fun c => !blankB c) ++ (a :: t).drop ((a :: t).takeWhile (fun c => !blankB c)).length := by
      have h1 := (List.takeWhile_prefix (fun c => !blankB c) (l := a :: t))
      obtain ⟨s, hs⟩ := h1
      conv => lhs; rw [← hs]
      have : (a :: t).drop ((a :: t).takeWhile (fun c => !blankB c)).length = s := by
        conv => lhs; arg 2; rw [← hs]
        rw [List.drop_left]
      rw [this]
    have hne : (a :: t).takeWhile (fun c => !blankB c) ≠ [] := by
      rw [List.takeWhile_cons_of_pos (by simp [ha])]
      simp
    have hall := take_all (a :: t)
    have hhd := drop_head (a :: t)
    have hlen := congrArg List.length e0
    generalize hw : (a :: t).takeWhile (fun c => !blankB c) = w at *
    generalize hr : (a :: t).drop w.length = r' at *
    rw [e0, wsp_word w [] r' hall, List.nil_append, wsp_break w r' hhd, fl_some hne, ← wsp_drop r']
    simp only [List.map_cons, List.cons_append, List.nil_append]
    refine congrArg _ (wr_wsp p n f _ ?_ ?_)
    · have h2 := drop_len r' blankB
      have h3 : 0 < w.length := List.length_pos_iff.2 hne
      rw [List.length_append] at hlen
      omega
    · intro b hb
      have := List.head?_dropWhile_not blankB r'
      rw [hb] at this
      simpa using this
theorem words_wsp (l : List UInt8) (p : Nat) : (wordsOf l p).map Prod.fst = wsp [] (cutHash l) := by
  unfold wordsOf
  rw [wr_wsp _ _ _ _ (by have := drop_len (cutHash l) blankB; omega) (fun a ha => by
    have := List.head?_dropWhile_not blankB (cutHash l)
    rw [ha] at this
    simpa using this), wsp_drop]
/-- the lines' words, byte by byte: in a remark or not, the words of this line so far, the word so far. Lines without words are left out. -/
def scan : Bool → List (List UInt8) → List UInt8 → List UInt8 → List (List (List UInt8))
  | _, ws, cur, [] => emit (ws ++ fl cur)
  | rem, ws, cur, c :: r =>
    if c = 10 then emit (ws ++ fl cur) ++ scan false [] [] r
    else if rem = true then scan true ws cur r
    else if c = 35 then scan true (ws ++ fl cur) [] r
    else if blankB c = true then scan false (ws ++ fl cur) [] r
    else scan false ws (cur ++ [c]) r
theorem cutLine_ne {c : UInt8} {r : List UInt8} (h : c ≠ 10) : cutLine (c :: r) = c :: cutLine r := List.takeWhile_cons_of_pos (by simpa using h)
theorem cutLine_nl (r : List UInt8) : cutLine (10 :: r) = [] := rfl
theorem cutHash_ne {c : UInt8} {r : List UInt8} (h : c ≠ 35) : cutHash (c :: r) = c :: cutHash r := List.takeWhile_cons_of_pos (by simpa using h)
theorem cutHash_hash (r : List UInt8) : cutHash (35 :: r) = [] := rfl
theorem scan_line : ∀ (t : List UInt8), (∀ ws cur, scan false ws cur t = emit (ws ++ wsp cur (cutHash (cutLine t))) ++ scan false [] [] (t.drop ((cutLine t).length + 1))) ∧ (∀ ws, scan true ws [] t = emit ws ++ scan false [] [] (t.drop ((cutLine t).length + 1)))
  | [] => by
    constructor
    · intro ws cur
      simp [scan, cutLine, cutHash, wsp, emit, fl]
    · intro ws
      simp [scan, emit, fl]
  | c :: r => by
    obtain ⟨i1, i2⟩ := scan_line r
    by_cases h : c = 10
    · subst h
      rw [cutLine_nl]
      constructor
      · intro ws cur
        rw [scan, if_pos rfl]
        rfl
      · intro ws
        rw [scan, if_pos rfl, fl_nil, List.append_nil]
        rfl
    · rw [cutLine_ne h]
      simp only [List.length_cons, List.drop_succ_cons]
      constructor
      · intro ws cur
        rw [scan, if_neg h, if_neg (by decide)]
        by_cases h35 : c = 35
        · subst h35
          rw [if_pos rfl, i2, cutHash_hash, wsp]
        · rw [if_neg h35, cutHash_ne h35, wsp]
          by_cases hb : blankB c = true
          · rw [if_pos hb, if_pos hb, i1, List.append_assoc]
          · rw [if_neg hb, if_neg hb, i1]
      · intro ws
        rw [scan, if_neg h, if_pos rfl, i2]
/-- a plain byte. -/
def PlainC (c : UInt8) : Prop := c ≠ 10 ∧ c ≠ 35 ∧ blankB c = false
def PlainW (w : List UInt8) : Prop := w ≠ [] ∧ ∀ c ∈ w, PlainC c
theorem scan_word : ∀ (w : List UInt8) (ws : List (List UInt8)) (cur r : List UInt8), (∀ c ∈ w, PlainC c) → scan false ws cur (w ++ r) = scan false ws (cur ++ w) r
  | [], ws, cur, r, _ => by simp
  | c :: w, ws, cur, r, h => by
    obtain ⟨h1, h2, h3⟩ := h c (by simp)
    rw [List.cons_append, scan, if_neg h1, if_neg (by decide), if_neg h2, if_neg (by rw [h3]; decide), scan_word w _ _ r (fun x hx => h x (by simp [hx]))]
    simp
/-- words with a blank between. -/
def joinW : List (List UInt8) → List UInt8
  | [] => []
  | [w] => w
  | w :: v :: r => w ++ 32 :: joinW (v :: r)
theorem scan_join : ∀ (l ws : List (List UInt8)) (r : List UInt8), l ≠ [] → (∀ w ∈ l, PlainW w) → scan false ws [] (joinW l ++ 10 :: r) = (ws ++ l) :: scan false [] [] r
  | [], _, _, h, _ => absurd rfl h
  | [w], ws, r, _, h => by
    obtain ⟨h1, h2⟩ := h w (by simp)
    rw [joinW, scan_word w _ _ _ h2, List.nil_append, scan, if_pos rfl, fl_some h1, emit_some (by simp)]
    rfl
  | w :: v :: l, ws, r, _, h => by
    obtain ⟨h1, h2⟩ := h w (by simp)
    rw [joinW, List.append_assoc, scan_word w _ _ _ h2, List.nil_append, List.cons_append, scan, if_neg (by decide), if_neg (by decide), if_neg (by decide), if_pos (by decide), fl_some h1, scan_join (v :: l) _ r (by simp) (fun x hx => h x (List.mem_cons_of_mem _ hx))]
    simp
theorem scan_lines : ∀ (ls : List (List (List UInt8))), (∀ l ∈ ls, l ≠ [] ∧ ∀ w ∈ l, PlainW w) → scan false [] [] (ls.flatMap fun l => joinW l ++ [10]) = ls
  | [], _ => rfl
  | l :: ls, h => by
    obtain ⟨h1, h2⟩ := h l (by simp)
    rw [List.flatMap_cons, List.append_assoc]
    show scan false [] [] (joinW l ++ 10 :: (ls.flatMap fun l => joinW l ++ [10])) = _
    rw [scan_join l [] _ h1 h2, scan_lines ls (fun x hx => h x (List.mem_cons_of_mem _ hx))]
    rfl
/-- the remark that may be put in. -/
def remB : List UInt8 := [32, 35, 32, 103, 97, 116, 101, 32, 101, 110, 100, 32, 105, 110, 112, 117, 116, 10, 13]
/-- what may be put in before a blank or a line's end. -/
def Ins (c : UInt8) (ins : List UInt8) : Prop := ins = [] ∨ ((c = 32 ∨ c = 10) ∧ ins = [32, 9]) ∨ (c = 10 ∧ ins = remB) ∨ (c = 10 ∧ ins = [10, 10, 32]) ∨ ((c = 32 ∨ c = 10) ∧ ins = [13])
theorem Ins.none (c : UInt8) : Ins c [] := .inl rfl
theorem scan_ins {c : UInt8} {ins : List UInt8} (h : Ins c ins) (ws : List (List UInt8)) (cur r : List UInt8) : scan false ws cur (ins ++ c :: r) = scan false ws cur (c :: r) := by
  rcases h with rfl | ⟨rfl | rfl, rfl⟩ | ⟨rfl, rfl⟩ | ⟨rfl, rfl⟩ | ⟨rfl | rfl, rfl⟩
  · rfl
  · simp [scan, blankB, fl]
  · simp [scan, blankB, fl]
  · simp [remB, scan, blankB, fl, emit]
  · simp [scan, blankB, fl, emit]
  · simp [scan, blankB, fl]
  · simp [scan, blankB, fl]
/-- a text, respelt: each byte with what is put in before it. -/
def Resp (s b : List UInt8) : Prop := ∃ l : List (UInt8 × List UInt8), (∀ p ∈ l, Ins p.1 p.2) ∧ s = l.map Prod.fst ∧ b = l.flatMap fun p => p.2 ++ [p.1]
theorem Resp.nil : Resp [] [] := ⟨[], fun _ h => (by cases h), rfl, rfl⟩
theorem Resp.snoc {s b : List UInt8} {c : UInt8} {ins : List UInt8} (h : Resp s b) (hi : Ins c ins) : Resp (s ++ [c]) (b ++ ins ++ [c]) := by
  obtain ⟨l, h1, rfl, rfl⟩ := h
  refine ⟨l ++ [(c, ins)], fun p hp => ?_, by simp, by simp⟩
  rcases List.mem_append.1 hp with hp | hp
  · exact h1 p hp
  · have : p = (c, ins) := by simpa using hp
    rw [this]
    exact hi
theorem scan_same : ∀ (s : List UInt8) (r r' : List UInt8), (∀ c ∈ s, c ≠ 35) → (∀ ws cur, scan false ws cur r = scan false ws cur r') → ∀ ws cur, scan false ws cur (s ++ r) = scan false ws cur (s ++ r')
  | [], _, _, _, h, ws, cur => h ws cur
  | c :: s, r, r', hs, h, ws, cur => by
    have ih := scan_same s r r' (fun x hx => hs x (List.mem_cons_of_mem _ hx)) h
    have h35 := hs c (by simp)
    simp only [List.cons_append, scan, if_neg h35]
    rw [ih [] [], ih (ws ++ fl cur) [], ih ws (cur ++ [c])]
    simp
theorem resp_scan : ∀ (l : List (UInt8 × List UInt8)), (∀ p ∈ l, Ins p.1 p.2) → (∀ p ∈ l, p.1 ≠ 35) → ∀ r ws cur, scan false ws cur ((l.flatMap fun p => p.2 ++ [p.1]) ++ r) = scan false ws cur (l.map Prod.fst ++ r)
  | [], _, _, _, _, _ => rfl
  | p :: l, h1, h2, r, ws, cur => by
    have ih := resp_scan l (fun q hq => h1 q (List.mem_cons_of_mem _ hq)) (fun q hq => h2 q (List.mem_cons_of_mem _ hq)) r
    have e1 : (List.flatMap (fun p => p.2 ++ [p.1]) (p :: l)) ++ r = p.2 ++ p.1 :: ((l.flatMap fun p => p.2 ++ [p.1]) ++ r) := by simp
    have e2 : (List.map Prod.fst (p :: l)) ++ r = [p.1] ++ (l.map Prod.fst ++ r) := by simp
    rw [e1, e2, scan_ins (h1 p (by simp))]
    exact scan_same [p.1] _ _ (fun x hx => by have : x = p.1 := by simpa using hx
                                              rw [this]
                                              exact h2 p (by simp)) (fun ws cur => ih ws cur) ws cur
theorem Resp.scan {s b : List UInt8} (h : Resp s b) (hs : ∀ c ∈ s, c ≠ 35) (r : List UInt8) (ws : List (List UInt8)) (cur : List UInt8) : PureRd.scan false ws cur (b ++ r) = PureRd.scan false ws cur (s ++ r) := by
  obtain ⟨l, h1, rfl, rfl⟩ := h
  exact resp_scan l h1 (fun p hp => hs p.1 (List.mem_map.2 ⟨p, hp, rfl⟩)) r ws cur
theorem Ins.ascii {c : UInt8} {ins : List UInt8} (h : Ins c ins) : ∀ x ∈ ins, x.toNat < 128 := by
  rcases h with rfl | ⟨_, rfl⟩ | ⟨_, rfl⟩ | ⟨_, rfl⟩ | ⟨_, rfl⟩
  · decide
  · decide
  · unfold remB; decide
  · decide
  · decide
theorem Resp.ascii {s b : List UInt8} (h : Resp s b) (hs : ∀ c ∈ s, c.toNat < 128) : ∀ c ∈ b, c.toNat < 128 := by
  obtain ⟨l, h1, rfl, rfl⟩ := h
  intro x hx
  obtain ⟨p, hp, hx⟩ := List.mem_flatMap.1 hx
  rcases List.mem_append.1 hx with hx | hx
  · exact (h1 p hp).ascii x hx
  · have : x = p.1 := by simpa using hx
    rw [this]
    exact hs _ (List.mem_map.2 ⟨p, hp, rfl⟩)
end PureRd
