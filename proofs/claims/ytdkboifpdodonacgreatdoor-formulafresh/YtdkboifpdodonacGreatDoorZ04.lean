import Derived.Test.YtdkboifpdodonacGreatDoorZ03
set_option linter.unusedSimpArgs false
/-
 The words of clauses' text: plain mathematics.
-/
namespace PureCnf

/-- the first place from i on (up to e) at which p does not hold. -/
def runW (p : UInt8 → Bool) (l : List UInt8) (i e : Nat) : Nat := i + (((l.take e).drop i).takeWhile p).length

theorem runW_ge (p : UInt8 → Bool) (l : List UInt8) (i e : Nat) : i ≤ runW p l i e := by unfold runW; omega
theorem runW_le {p : UInt8 → Bool} {l : List UInt8} {i e : Nat} (h : i ≤ e) : runW p l i e ≤ e := by
 unfold runW
 have h1 := (List.takeWhile_prefix p (l := (l.take e).drop i)).length_le
 rw [List.length_drop, List.length_take] at h1
 omega
theorem runW_end {p : UInt8 → Bool} {l : List UInt8} {i e : Nat} (h : e ≤ i) : runW p l i e = i := by
 have : (l.take e).drop i = [] := List.drop_eq_nil_of_le (by rw [List.length_take]; omega)
 unfold runW; rw [this]; simp
theorem drop_take {l : List UInt8} {i e : Nat} (h : i < e) (he : e ≤ l.length) : (l.take e).drop i = l[i] :: (l.take e).drop (i + 1) := by
 rw [List.drop_eq_getElem_cons (by rw [List.length_take]; omega)]
 simp [List.getElem_take]
theorem runW_on {p : UInt8 → Bool} {l : List UInt8} {i e : Nat} (h : i < e) (he : e ≤ l.length) (hp : p l[i] = true) : runW p l i e = runW p l (i + 1) e := by
 unfold runW
 rw [drop_take h he, List.takeWhile_cons, if_pos hp]
 simp; omega
theorem runW_off {p : UInt8 → Bool} {l : List UInt8} {i e : Nat} (h : i < e) (he : e ≤ l.length) (hp : p l[i] = false) : runW p l i e = i := by
 unfold runW
 rw [drop_take h he, List.takeWhile_cons, if_neg (by rw [hp]; decide)]
 simp

def whB (c : UInt8) : Bool := decide (c.toNat = 32 ∨ c.toNat = 9 ∨ c.toNat = 13)
def inkB (c : UInt8) : Bool := !whB c
def lineB (c : UInt8) : Bool := decide (c.toNat ≠ 10)

structure Piece where
 w : List UInt8
 at_ : Nat
 line : Nat

/-- the words from k on, up to the line's end e, f of them at most. -/
def wordsF (l : List UInt8) (e line : Nat) : Nat → Nat → List Piece
 | 0, _ => []
 | f + 1, k => if _h : k < runW inkB l k e ∧ k < e then ⟨(l.take (runW inkB l k e)).drop k, k, line⟩ :: wordsF l e line f (runW whB l (runW inkB l k e) e) else []
theorem wordsF_none (l : List UInt8) (e line : Nat) {k : Nat} (h : ¬ k < e) : ∀ f, wordsF l e line f k = []
 | 0 => rfl
 | f + 1 => by rw [wordsF, dif_neg (fun c => h c.2)]
theorem wordsF_fuel (l : List UInt8) (e line : Nat) : ∀ (f g k : Nat), e < k + f → e < k + g → wordsF l e line f k = wordsF l e line g k
 | 0, g, k, h, _ => by rw [wordsF_none l e line (by omega) 0, wordsF_none l e line (by omega) g]
 | f + 1, 0, k, _, h => by rw [wordsF_none l e line (by omega) (f + 1), wordsF_none l e line (by omega) 0]
 | f + 1, g + 1, k, h1, h2 => by
  rw [wordsF, wordsF]
  by_cases hc : k < runW inkB l k e ∧ k < e
  ·rw [dif_pos hc, dif_pos hc]
   have h3 := runW_ge whB l (runW inkB l k e) e
   rw [wordsF_fuel l e line f g _ (by omega) (by omega)]
  ·rw [dif_neg hc, dif_neg hc]
/-- the words from k on, up to the line's end e. -/
def wordsFrom (l : List UInt8) (e line : Nat) (k : Nat) : List Piece := wordsF l e line (e + 1) k
theorem wordsFrom_eq (l : List UInt8) (e line : Nat) (k : Nat) : wordsFrom l e line k = if _h : k < runW inkB l k e ∧ k < e then ⟨(l.take (runW inkB l k e)).drop k, k, line⟩ :: wordsFrom l e line (runW whB l (runW inkB l k e) e) else [] := by
 show wordsF l e line (e + 1) k = _
 rw [wordsF]
 by_cases hc : k < runW inkB l k e ∧ k < e
 ·rw [dif_pos hc, dif_pos hc]
  have h3 := runW_ge whB l (runW inkB l k e) e
  show _ :: wordsF l e line e _ = _ :: wordsF l e line (e + 1) _
  rw [wordsF_fuel l e line e (e + 1) _ (by omega) (by omega)]
 ·rw [dif_neg hc, dif_neg hc]

/-- the words of a line from i to e. -/
def lineWords (l : List UInt8) (i e line : Nat) : List Piece :=
 if runW whB l i e < e ∧ (l[runW whB l i e]?) = some 99 then [] else wordsFrom l e line (runW whB l i e)

/-- the words from the line on that begins at i, of f lines at most. -/
def piecesF (l : List UInt8) : Nat → Nat → Nat → List Piece
 | 0, _, _ => []
 | f + 1, i, line => if _h : i < l.length then lineWords l i (runW lineB l i l.length) line ++ piecesF l f (runW lineB l i l.length + 1) (line + 1) else []
theorem piecesF_none (l : List UInt8) {i : Nat} (h : ¬ i < l.length) (line : Nat) : ∀ f, piecesF l f i line = []
 | 0 => rfl
 | f + 1 => by rw [piecesF, dif_neg h]
theorem piecesF_fuel (l : List UInt8) : ∀ (f g i line : Nat), l.length ≤ i + f → l.length ≤ i + g → piecesF l f i line = piecesF l g i line
 | 0, g, i, line, h, _ => by rw [piecesF_none l (by omega) line 0, piecesF_none l (by omega) line g]
 | f + 1, 0, i, line, _, h => by rw [piecesF_none l (by omega) line (f + 1), piecesF_none l (by omega) line 0]
 | f + 1, g + 1, i, line, h1, h2 => by
  rw [piecesF, piecesF]
  by_cases hc : i < l.length
  ·rw [dif_pos hc, dif_pos hc]
   have h3 := runW_ge lineB l i l.length
   rw [piecesF_fuel l f g _ _ (by omega) (by omega)]
  ·rw [dif_neg hc, dif_neg hc]
/-- the words from the line on that begins at i. -/
def piecesFrom (l : List UInt8) (i line : Nat) : List Piece := piecesF l (l.length + 1) i line
theorem piecesFrom_eq (l : List UInt8) (i line : Nat) : piecesFrom l i line = if _h : i < l.length then lineWords l i (runW lineB l i l.length) line ++ piecesFrom l (runW lineB l i l.length + 1) (line + 1) else [] := by
 show piecesF l (l.length + 1) i line = _
 rw [piecesF]
 by_cases hc : i < l.length
 ·rw [dif_pos hc, dif_pos hc]
  have h3 := runW_ge lineB l i l.length
  show _ ++ piecesF l l.length _ _ = _ ++ piecesF l (l.length + 1) _ _
  rw [piecesF_fuel l l.length (l.length + 1) _ _ (by omega) (by omega)]
 ·rw [dif_neg hc, dif_neg hc]

theorem wordsFrom_nil {l : List UInt8} {e line k : Nat} (h : ¬ k < e) : wordsFrom l e line k = [] := by
 rw [wordsFrom_eq, dif_neg (by omega)]
theorem wordsFrom_cons {l : List UInt8} {e line k : Nat} (h : k < e) (he : e ≤ l.length) (hp : inkB l[k] = true) : wordsFrom l e line k = ⟨(l.take (runW inkB l k e)).drop k, k, line⟩ :: wordsFrom l e line (runW whB l (runW inkB l k e) e) := by
 have : k < runW inkB l k e := by
  rw [runW_on h he hp]
  have := runW_ge inkB l (k + 1) e
  omega
 rw [wordsFrom_eq, dif_pos ⟨this, h⟩]
theorem piecesFrom_end {l : List UInt8} {i line : Nat} (h : ¬ i < l.length) : piecesFrom l i line = [] := by
 rw [piecesFrom_eq, dif_neg h]
theorem piecesFrom_on {l : List UInt8} {i line : Nat} (h : i < l.length) : piecesFrom l i line = lineWords l i (runW lineB l i l.length) line ++ piecesFrom l (runW lineB l i l.length + 1) (line + 1) := by
 rw [piecesFrom_eq, dif_pos h]
theorem runW_stop_aux {p : UInt8 → Bool} {l : List UInt8} {e : Nat} (he : e ≤ l.length) : ∀ (d i : Nat), e - i = d → ∀ hq : runW p l i e < e, p (l[runW p l i e]'(by omega)) = false := by
 intro d
 induction d with
 | zero =>
  intro i hd hq
  have := runW_ge p l i e
  omega
 | succ d ih =>
  intro i hd hq
  have hie : i < e := by omega
  cases hp : p l[i] with
  | true =>
   have e1 := runW_on (p := p) hie he hp
   simp only [e1]
   exact ih (i + 1) (by omega) (by rw [← e1]; exact hq)
  | false =>
   have e1 := runW_off (p := p) hie he hp
   simp only [e1]
   exact hp
/-- behind a run the next byte is another. -/
theorem runW_stop {p : UInt8 → Bool} {l : List UInt8} {i e : Nat} (he : e ≤ l.length) (h : runW p l i e < e) : p (l[runW p l i e]'(by omega)) = false := runW_stop_aux he _ i rfl h
theorem wordsFrom_count (l : List UInt8) (e line k : Nat) : (wordsFrom l e line k).length ≤ e - k := by
 generalize hd : e - k = d
 induction d using Nat.strongRecOn generalizing k with
 | _ d ih =>
  rw [wordsFrom_eq]
  split
  ·next h =>
   have h1 := runW_ge whB l (runW inkB l k e) e
   have h2 := runW_le (p := inkB) (l := l) (i := k) (e := e) (by omega)
   have := ih (e - runW whB l (runW inkB l k e) e) (by omega) _ rfl
   simp only [List.length_cons]
   omega
  ·simp
end PureCnf
/-
 A formula's text: tokens, and what is read by one stack: plain mathematics.
-/
namespace PureForm
open PureCnf

structure Tok where
 kind : Nat
 n : Nat
 at_ : Nat
 end_ : Nat

def letB (c : UInt8) : Bool := decide ((97 ≤ c.toNat ∧ c.toNat ≤ 122) ∨ (65 ≤ c.toNat ∧ c.toNat ≤ 90))
def blankB (c : UInt8) : Bool := decide (c.toNat = 32 ∨ c.toNat = 9 ∨ c.toNat = 10 ∨ c.toNat = 13)
def alnB (c : UInt8) : Bool := letB c || digB c

/-- the token of a word. -/
def wordT (w : List UInt8) (at_ : Nat) : Tok :=
 if w = [116, 114, 117, 101] then ⟨2, 1, at_, at_ + w.length⟩
 else if w = [102, 97, 108, 115, 101] then ⟨2, 0, at_, at_ + w.length⟩
 else if w = [101, 120, 105, 115, 116, 115] then ⟨5, 4, at_, at_ + w.length⟩
 else if w = [102, 111, 114, 97, 108, 108] then ⟨5, 5, at_, at_ + w.length⟩
 else if w = [105, 116, 101] then ⟨6, 131, at_, at_ + w.length⟩
 else if w.head? = some 120 ∧ (w.length = 1 ∨ ∃ c, w[1]? = some c ∧ digB c = true) then
  (if 0 ≤ numB w.tail 65535 then ⟨3, (numB w.tail 65535).toNat, at_, at_ + w.length⟩ else ⟨1, 133, at_, at_ + w.length⟩)
 else ⟨1, 131, at_, at_ + w.length⟩

/-- each spelling with its token's kind and number. -/
def signs : List (List UInt8 × Nat × Nat) :=
 [([60, 45, 62], 7, 10), ([45, 62], 7, 9), ([33], 4, 0), ([126], 4, 0), ([38], 7, 6), ([124], 7, 7), ([94], 7, 8),
  ([40], 8, 0), ([41], 9, 0), ([44], 10, 0), ([58], 11, 0),
  ([194, 172], 4, 0), ([226, 136, 167], 7, 6), ([226, 136, 168], 7, 7), ([226, 138, 149], 7, 8), ([226, 134, 146], 7, 9), ([226, 134, 148], 7, 10),
  ([226, 136, 131], 5, 4), ([226, 136, 128], 5, 5), ([226, 138, 164], 2, 1), ([226, 138, 165], 2, 0)]

def signT (l : List UInt8) (i : Nat) : List (List UInt8 × Nat × Nat) → Tok
 | [] => ⟨1, 130, i, i + 1⟩
 | x :: r => if (l.drop i).take x.1.length = x.1 then ⟨x.2.1, x.2.2, i, i + x.1.length⟩ else signT l i r

def skipF (l : List UInt8) : Nat → Nat → Nat
 | 0, i => i
 | f + 1, i => if h : i < l.length then
   (if l[i].toNat = 35 then (if i < runW lineB l i l.length then skipF l f (runW lineB l i l.length) else i)
    else if blankB l[i] = true then skipF l f (i + 1) else i)
  else i
theorem skipF_more (l : List UInt8) : ∀ (f g i : Nat), l.length - i ≤ f → l.length - i ≤ g → skipF l f i = skipF l g i := by
 intro f
 induction f with
 | zero =>
  intro g i hf _
  have h : ¬ i < l.length := by omega
  cases g with
  | zero => rfl
  | succ g => rw [skipF, skipF, dif_neg h]
 | succ f ih =>
  intro g i hf hg
  by_cases h : i < l.length
  ·cases g with
   | zero => omega
   | succ g =>
    rw [skipF, skipF, dif_pos h, dif_pos h]
    by_cases h35 : l[i].toNat = 35
    ·rw [if_pos h35, if_pos h35]
     by_cases h2 : i < runW lineB l i l.length
     ·rw [if_pos h2, if_pos h2]
      exact ih g _ (by omega) (by omega)
     ·rw [if_neg h2, if_neg h2]
    ·rw [if_neg h35, if_neg h35]
     by_cases hb : blankB l[i] = true
     ·rw [if_pos hb, if_pos hb]
      exact ih g _ (by omega) (by omega)
     ·rw [if_neg hb, if_neg hb]
  ·cases g with
   | zero => rw [skipF, skipF, dif_neg h]
   | succ g => rw [skipF, skipF, dif_neg h, dif_neg h]
/-- the first place from i on that is no blank and no remark. -/
def skipB (l : List UInt8) (i : Nat) : Nat := skipF l (l.length - i) i
theorem skipB_eq (l : List UInt8) (i : Nat) : skipB l i =
 if h : i < l.length then
  if l[i].toNat = 35 then (if _h2 : i < runW lineB l i l.length then skipB l (runW lineB l i l.length) else i)
  else if blankB l[i] = true then skipB l (i + 1) else i
 else i := by
 unfold skipB
 by_cases h : i < l.length
 ·obtain ⟨n, hn⟩ : ∃ n, l.length - i = n + 1 := ⟨l.length - i - 1, by omega⟩
  rw [dif_pos h, hn, skipF, dif_pos h]
  by_cases h35 : l[i].toNat = 35
  ·rw [if_pos h35, if_pos h35]
   by_cases h2 : i < runW lineB l i l.length
   ·rw [if_pos h2, dif_pos h2]
    exact skipF_more l _ _ _ (by omega) (by omega)
   ·rw [if_neg h2, dif_neg h2]
  ·rw [if_neg h35, if_neg h35]
   by_cases hb : blankB l[i] = true
   ·rw [if_pos hb, if_pos hb]
    exact skipF_more l _ _ _ (by omega) (by omega)
   ·rw [if_neg hb, if_neg hb]
 ·rw [dif_neg h]
  cases hm : l.length - i with
  | zero => rfl
  | succ n => rw [skipF, dif_neg h]

/-- the token from a place on. -/
def nextT (l : List UInt8) (i0 : Nat) : Tok :=
 if h : skipB l i0 < l.length then
  if letB l[skipB l i0] = true then wordT ((l.take (runW alnB l (skipB l i0) l.length)).drop (skipB l i0)) (skipB l i0)
  else if digB l[skipB l i0] = true then
   (if runW digB l (skipB l i0) l.length = skipB l i0 + 1 ∧ l[skipB l i0].toNat ≤ 49 then ⟨2, l[skipB l i0].toNat - 48, skipB l i0, skipB l i0 + 1⟩
    else ⟨1, 133, skipB l i0, runW digB l (skipB l i0) l.length⟩)
  else signT l (skipB l i0) signs
 else ⟨0, 0, l.length, l.length⟩

def toksF (l : List UInt8) : Nat → Nat → List Tok
 | 0, i => [nextT l i]
 | f + 1, i => if (nextT l i).kind ≠ 0 ∧ i < (nextT l i).end_ ∧ (nextT l i).end_ ≤ l.length then nextT l i :: toksF l f (nextT l i).end_ else [nextT l i]
theorem toksF_more (l : List UInt8) : ∀ (f g i : Nat), l.length - i ≤ f → l.length - i ≤ g → toksF l f i = toksF l g i := by
 intro f
 induction f with
 | zero =>
  intro g i hf _
  cases g with
  | zero => rfl
  | succ g => rw [toksF, toksF, if_neg (by omega)]
 | succ f ih =>
  intro g i hf hg
  by_cases h : (nextT l i).kind ≠ 0 ∧ i < (nextT l i).end_ ∧ (nextT l i).end_ ≤ l.length
  ·cases g with
   | zero => omega
   | succ g => rw [toksF, toksF, if_pos h, if_pos h, ih g _ (by omega) (by omega)]
  ·cases g with
   | zero => rw [toksF, toksF, if_neg h]
   | succ g => rw [toksF, toksF, if_neg h, if_neg h]
/-- all tokens, the end's last. -/
def toksFrom (l : List UInt8) (i : Nat) : List Tok := toksF l (l.length - i) i
theorem toksFrom_eq (l : List UInt8) (i : Nat) : toksFrom l i =
 if _h : (nextT l i).kind ≠ 0 ∧ i < (nextT l i).end_ ∧ (nextT l i).end_ ≤ l.length then nextT l i :: toksFrom l (nextT l i).end_ else [nextT l i] := by
 unfold toksFrom
 by_cases h : (nextT l i).kind ≠ 0 ∧ i < (nextT l i).end_ ∧ (nextT l i).end_ ≤ l.length
 ·obtain ⟨n, hn⟩ : ∃ n, l.length - i = n + 1 := ⟨l.length - i - 1, by omega⟩
  rw [dif_pos h, hn, toksF, if_pos h, toksF_more l n (l.length - (nextT l i).end_) _ (by omega) (by omega)]
 ·rw [dif_neg h]
  cases hm : l.length - i with
  | zero => rfl
  | succ n => rw [toksF, if_neg h]

/-! ### the stack -/
structure Wt where
 kind : Nat
 op : Nat
 n : Nat
abbrev Nd := Int × Int

def opnOf (st : List Wt) : Nat := st.countP fun w => w.kind != 5
def nodeOf (w : Wt) : Nd := if w.kind = 1 then (3, 0) else if w.kind = 2 then ((w.op : Int), (w.n : Int)) else if w.kind = 4 then (11, 0) else ((w.op : Int), 0)
def bindsN (op : Nat) : Nat := if op = 6 then 5 else if op = 8 then 4 else if op = 7 then 3 else if op = 9 then 2 else 1

/-- does what waits on top give way to an operator? -/
def gives (op : Nat) (w : Wt) : Bool := w.kind == 1 || (w.kind == 5 && !(decide (bindsN w.op < bindsN op) || (bindsN w.op == bindsN op && op == 9)))
def settleOps (op : Nat) : List Wt → List Nd → List Wt × List Nd
 | [], o => ([], o)
 | w :: t, o => if gives op w = true then settleOps op t (o ++ [nodeOf w]) else (w :: t, o)
def settleIn : List Wt → List Nd → List Wt × List Nd
 | [], o => ([], o)
 | w :: t, o => if w.kind = 3 ∨ w.kind = 4 then (w :: t, o) else settleIn t (o ++ [nodeOf w])

structure PS where
 st : List Wt
 out : List Nd
 made : Nat
 want : Nat
 quant : Nat

/-- a bracket or prefix is opened, a node made (or not). -/
def opensP (s : PS) (w : Wt) (d : Nat) (want : Nat) : Except Nat (PS ⊕ List Nd) :=
 if 64 ≤ opnOf s.st then .error 132 else if d = 1 ∧ 65536 ≤ s.made then .error 8 else .ok (.inl { s with st := w :: s.st, made := s.made + d, want := want })
def closesP (s : PS) : Except Nat (PS ⊕ List Nd) :=
 match settleIn s.st s.out with
 | (w :: t, o) => if w.kind = 3 then .ok (.inl { s with st := t, out := o }) else if w.kind = 4 ∧ w.n = 2 then .ok (.inl { s with st := t, out := o ++ [nodeOf w] }) else .error 131
 | ([], _) => .error 131
def commaP (s : PS) : Except Nat (PS ⊕ List Nd) :=
 match settleIn s.st s.out with
 | (w :: t, o) => if w.kind = 4 ∧ w.n < 2 then .ok (.inl { s with st := { w with n := w.n + 1 } :: t, out := o, want := 0 }) else .error 131
 | ([], _) => .error 131
def endsP (s : PS) : Except Nat (PS ⊕ List Nd) :=
 match settleIn s.st s.out with
 | (_ :: _, _) => .error 131
 | ([], o) => .ok (.inr o)

/-- one token. -/
def stepP (s : PS) (t : Tok) : Except Nat (PS ⊕ List Nd) :=
 if t.kind = 1 then .error t.n
 else if s.want = 0 then
  (if t.kind = 2 ∨ t.kind = 3 then (if 65536 ≤ s.made then .error 8 else .ok (.inl { s with out := s.out ++ [((if t.kind = 3 then 2 else 1 : Int), (t.n : Int))], made := s.made + 1, want := 1 }))
   else if t.kind = 5 then .ok (.inl { s with quant := t.n, want := 3 })
   else if t.kind = 8 then opensP s ⟨3, 0, 0⟩ 0 0
   else if t.kind = 6 then opensP s ⟨4, 0, 0⟩ 1 2
   else if t.kind = 4 then opensP s ⟨1, 0, 0⟩ 1 0
   else .error 131)
 else if s.want = 2 then (if t.kind = 8 then .ok (.inl { s with want := 0 }) else .error 131)
 else if s.want = 3 then (if t.kind = 3 then opensP s ⟨2, s.quant, t.n⟩ 1 4 else .error 131)
 else if s.want = 4 then (if t.kind = 10 then .ok (.inl { s with want := 3 }) else if t.kind = 11 then .ok (.inl { s with want := 0 }) else .error 131)
 else
  (if t.kind = 7 then (if 65536 ≤ s.made then .error 8 else .ok (.inl { s with st := ⟨5, t.n, 0⟩ :: (settleOps t.n s.st s.out).1, out := (settleOps t.n s.st s.out).2, made := s.made + 1, want := 0 }))
   else if t.kind = 9 then closesP s
   else if t.kind = 10 then commaP s
   else if t.kind = 0 then endsP s
   else .error 131)

def runP (s : PS) : List Tok → Except (Nat × Nat) (List Nd)
 | [] => .error (131, 0)
 | t :: r => match stepP s t with
  | .error e => .error (e, t.at_)
  | .ok (.inl s') => runP s' r
  | .ok (.inr o) => .ok o

def parseF (l : List UInt8) : Except (Nat × Option Nat) (List Nd) :=
 if 1048576 < l.length then .error (5, none) else
 match runP ⟨[], [], 0, 0, 0⟩ (toksFrom l 0) with
 | .error (e, a) => .error (e, some a)
 | .ok o => .ok o
end PureForm
/-
 Trees of formulas: their list, their text by items, and what is read of it: plain mathematics.
-/
namespace PureForm
open PureCnf Go.Lib

structure Tr where
 nd : Nd
 ar : Fin 4
 kid : Fin ar.val → Tr

def Tr.lf (x : Nd) : Tr := ⟨x, ⟨0, by decide⟩, fun i => absurd i.isLt (Nat.not_lt_zero _)⟩
def Tr.un (x : Nd) (a : Tr) : Tr := ⟨x, ⟨1, by decide⟩, fun _ => a⟩
def Tr.bi (x : Nd) (a b : Tr) : Tr := ⟨x, ⟨2, by decide⟩, fun i => if i.val = 0 then a else b⟩
def Tr.te (x : Nd) (a b c : Tr) : Tr := ⟨x, ⟨3, by decide⟩, fun i => if i.val = 0 then a else if i.val = 1 then b else c⟩

theorem Tr.ind {motive : Tr → Prop} (lf : ∀ x, motive (.lf x)) (un : ∀ x a, motive a → motive (.un x a)) (bi : ∀ x a b, motive a → motive b → motive (.bi x a b))
  (te : ∀ x a b c, motive a → motive b → motive c → motive (.te x a b c)) (t : Tr) : motive t := by
 induction t with
 | mk x n kid ih =>
  obtain ⟨n, hn⟩ := n
  match n, hn, kid, ih with
  | 0, _, kid, ih =>
   have e : kid = fun i => absurd i.isLt (Nat.not_lt_zero _) := funext fun i => absurd i.isLt (Nat.not_lt_zero _)
   rw [e]
   exact lf x
  | 1, _, kid, ih =>
   have e : kid = fun _ => kid ⟨0, by simp⟩ := funext fun i => congrArg kid (Fin.ext (by have := i.isLt; simp only at this; show i.val = 0; omega))
   rw [e]
   exact un x _ (ih _)
  | 2, _, kid, ih =>
   have e : kid = fun i => if i.val = 0 then kid ⟨0, by simp⟩ else kid ⟨1, by simp⟩ := funext fun i => by
    have hi := i.isLt
    simp only at hi
    split
    ·next h => exact congrArg kid (Fin.ext h)
    ·next h => exact congrArg kid (Fin.ext (by show i.val = 1; omega))
   rw [e]
   exact bi x _ _ (ih _) (ih _)
  | 3, _, kid, ih =>
   have e : kid = fun i => if i.val = 0 then kid ⟨0, by simp⟩ else if i.val = 1 then kid ⟨1, by simp⟩ else kid ⟨2, by simp⟩ := funext fun i => by
    have hi := i.isLt
    simp only at hi
    split
    ·next h => exact congrArg kid (Fin.ext h)
    ·split
     ·next h => exact congrArg kid (Fin.ext h)
     ·next h0 h1 => exact congrArg kid (Fin.ext (by show i.val = 2; omega))
   rw [e]
   exact te x _ _ _ (ih _) (ih _) (ih _)
  | n + 4, hn, _, _ => omega
theorem Tr.cas {motive : Tr → Prop} (lf : ∀ x, motive (.lf x)) (un : ∀ x a, motive (.un x a)) (bi : ∀ x a b, motive (.bi x a b))
  (te : ∀ x a b c, motive (.te x a b c)) (t : Tr) : motive t := Tr.ind lf (fun x a _ => un x a) (fun x a b _ _ => bi x a b) (fun x a b c _ _ _ => te x a b c) t

/-- a function by recursion over a tree, told kind by kind. -/
def Tr.fold {α : Type} (lf : Nd → α) (un : Nd → Tr → α → α) (bi : Nd → Tr → Tr → α → α → α) (te : Nd → Tr → Tr → Tr → α → α → α → α) : Tr → α
 | ⟨x, ⟨0, _⟩, _⟩ => lf x
 | ⟨x, ⟨1, _⟩, k⟩ => un x (k ⟨0, by simp⟩) (Tr.fold lf un bi te (k ⟨0, by simp⟩))
 | ⟨x, ⟨2, _⟩, k⟩ => bi x (k ⟨0, by simp⟩) (k ⟨1, by simp⟩) (Tr.fold lf un bi te (k ⟨0, by simp⟩)) (Tr.fold lf un bi te (k ⟨1, by simp⟩))
 | ⟨x, ⟨_ + 3, _⟩, k⟩ => te x (k ⟨0, by simp⟩) (k ⟨1, by simp⟩) (k ⟨2, by simp⟩) (Tr.fold lf un bi te (k ⟨0, by simp⟩)) (Tr.fold lf un bi te (k ⟨1, by simp⟩)) (Tr.fold lf un bi te (k ⟨2, by simp⟩))
section
variable {α : Type} {lf : Nd → α} {un : Nd → Tr → α → α} {bi : Nd → Tr → Tr → α → α → α} {te : Nd → Tr → Tr → Tr → α → α → α → α}
theorem Tr.fold_lf (x : Nd) : Tr.fold lf un bi te (.lf x) = lf x := rfl
theorem Tr.fold_un (x : Nd) (a : Tr) : Tr.fold lf un bi te (.un x a) = un x a (Tr.fold lf un bi te a) := rfl
theorem Tr.fold_bi (x : Nd) (a b : Tr) : Tr.fold lf un bi te (.bi x a b) = bi x a b (Tr.fold lf un bi te a) (Tr.fold lf un bi te b) := rfl
theorem Tr.fold_te (x : Nd) (a b c : Tr) : Tr.fold lf un bi te (.te x a b c) = te x a b c (Tr.fold lf un bi te a) (Tr.fold lf un bi te b) (Tr.fold lf un bi te c) := rfl
end
def Tr.root (t : Tr) : Nd := t.nd
theorem Tr.root_lf (x : Nd) : (Tr.lf x).root = x := rfl
theorem Tr.root_un (x : Nd) (a : Tr) : (Tr.un x a).root = x := rfl
theorem Tr.root_bi (x : Nd) (a b : Tr) : (Tr.bi x a b).root = x := rfl
theorem Tr.root_te (x : Nd) (a b c : Tr) : (Tr.te x a b c).root = x := rfl
def Tr.post : Tr → List Nd := Tr.fold (fun x => [x]) (fun x _ a => a ++ [x]) (fun x _ _ a b => a ++ b ++ [x]) (fun x _ _ _ a b c => a ++ b ++ c ++ [x])
theorem Tr.post_lf (x : Nd) : (Tr.lf x).post = [x] := rfl
theorem Tr.post_un (x : Nd) (a : Tr) : (Tr.un x a).post = a.post ++ [x] := rfl
theorem Tr.post_bi (x : Nd) (a b : Tr) : (Tr.bi x a b).post = a.post ++ b.post ++ [x] := rfl
theorem Tr.post_te (x : Nd) (a b c : Tr) : (Tr.te x a b c).post = a.post ++ b.post ++ c.post ++ [x] := rfl
def isQ (o : Int) : Bool := decide (o = 4 ∨ o = 5)
def two (o : Int) : Bool := decide (6 ≤ o ∧ o ≤ 10)
def Tr.good : Tr → Prop := Tr.fold (fun x => (x.1 = 1 ∧ (x.2 = 0 ∨ x.2 = 1)) ∨ (x.1 = 2 ∧ 0 ≤ x.2 ∧ x.2 < 65536)) (fun x _ a => ((x.1 = 3 ∧ x.2 = 0) ∨ (isQ x.1 = true ∧ 0 ≤ x.2 ∧ x.2 < 65536)) ∧ a) (fun x _ _ a b => (two x.1 = true ∧ x.2 = 0) ∧ a ∧ b) (fun x _ _ _ a b c => (x.1 = 11 ∧ x.2 = 0) ∧ a ∧ b ∧ c)

def bindsI (o : Int) : Nat := if o = 6 then 5 else if o = 8 then 4 else if o = 7 then 3 else if o = 9 then 2 else 1
def firstB (op r : Int) : Bool := two r && (op != 10 && (if op = 9 then (r == 9 || r == 10) else decide (bindsI r < bindsI op)))
def secondB (op r : Int) : Bool := two r && (if op = 9 ∨ op = 10 then r == 10 else decide (bindsI r ≤ bindsI op))
/-- are brackets printed? -/
def brk (br last : Bool) (o : Int) : Bool := br || (isQ o && !last)

/-- bytes, and the token that they are. -/
abbrev Item := List UInt8 × Nat × Nat
def signI (op : Int) : Item :=
 if op = 6 then ([32, 38, 32], 7, 6) else if op = 8 then ([32, 94, 32], 7, 8) else if op = 7 then ([32, 124, 32], 7, 7) else if op = 9 then ([32, 45, 62, 32], 7, 9) else ([32, 60, 45, 62, 32], 7, 10)
def varI (n : Int) : Item := (120 :: decDigits n.toNat, 3, n.toNat)
def constI (n : Int) : Item := if n = 1 then ([116, 114, 117, 101], 2, 1) else ([102, 97, 108, 115, 101], 2, 0)
def quantI (op : Int) : Item := if op = 4 then ([101, 120, 105, 115, 116, 115, 32], 5, 4) else ([102, 111, 114, 97, 108, 108, 32], 5, 5)
def notI : Item := ([33], 4, 0)
def openI : Item := ([40], 8, 0)
def closeI : Item := ([41], 9, 0)
def commaI : Item := ([44, 32], 10, 0)
def colonI : Item := ([58, 32], 11, 0)
def iteI : Item := ([105, 116, 101], 6, 131)

def sepI (q : Int) : List Item := if q = 0 then [] else [colonI]
/-- in brackets or not. -/
def wrapI (b : Bool) (l : List Item) : List Item := if b = true then openI :: l ++ [closeI] else l
/-- the text of a tree; q: the quantifier right around it (0: none), whose variables have been printed; last: nothing but a closing bracket, a comma or the end follows. -/
def Tr.its : Tr → Int → Bool → List Item := Tr.fold (fun x q _ => sepI q ++ [if x.1 = 1 then constI x.2 else varI x.2])
 (fun x a i q last => if isQ x.1 = true then (if x.1 = q then commaI :: varI x.2 :: i q true else sepI q ++ quantI x.1 :: varI x.2 :: i x.1 true)
  else sepI q ++ notI :: wrapI (brk (two a.root.1) last a.root.1) (i 0 (brk (two a.root.1) last a.root.1 || last)))
 (fun x a b i j q last => sepI q ++ wrapI (brk (firstB x.1 a.root.1) false a.root.1) (i 0 (brk (firstB x.1 a.root.1) false a.root.1 || false)) ++
   signI x.1 :: wrapI (brk (secondB x.1 b.root.1) last b.root.1) (j 0 (brk (secondB x.1 b.root.1) last b.root.1 || last)))
 (fun _ _ _ _ i j k q _ => sepI q ++ iteI :: openI :: i 0 true ++ commaI :: j 0 true ++ commaI :: k 0 true ++ [closeI])
theorem Tr.its_lf (x : Nd) (q : Int) (last : Bool) : (Tr.lf x).its q last = sepI q ++ [if x.1 = 1 then constI x.2 else varI x.2] := rfl
theorem Tr.its_un (x : Nd) (a : Tr) (q : Int) (last : Bool) : (Tr.un x a).its q last =
  if isQ x.1 = true then (if x.1 = q then commaI :: varI x.2 :: a.its q true else sepI q ++ quantI x.1 :: varI x.2 :: a.its x.1 true)
  else sepI q ++ notI :: wrapI (brk (two a.root.1) last a.root.1) (a.its 0 (brk (two a.root.1) last a.root.1 || last)) := rfl
theorem Tr.its_bi (x : Nd) (a b : Tr) (q : Int) (last : Bool) : (Tr.bi x a b).its q last =
  sepI q ++ wrapI (brk (firstB x.1 a.root.1) false a.root.1) (a.its 0 (brk (firstB x.1 a.root.1) false a.root.1 || false)) ++
   signI x.1 :: wrapI (brk (secondB x.1 b.root.1) last b.root.1) (b.its 0 (brk (secondB x.1 b.root.1) last b.root.1 || last)) := rfl
theorem Tr.its_te (x : Nd) (a b c : Tr) (q : Int) (last : Bool) : (Tr.te x a b c).its q last = sepI q ++ iteI :: openI :: a.its 0 true ++ commaI :: b.its 0 true ++ commaI :: c.its 0 true ++ [closeI] := rfl

def wrapN (b : Bool) (n : Nat) : Nat := if b = true then n + 1 else n
/-- how many brackets and prefixes are open at most. -/
def Tr.need : Tr → Bool → Nat := Tr.fold (fun _ _ => 0)
 (fun x a i last => if isQ x.1 = true then i true + 1 else wrapN (brk (two a.root.1) last a.root.1) (i (brk (two a.root.1) last a.root.1 || last)) + 1)
 (fun x a b i j last => max (wrapN (brk (firstB x.1 a.root.1) false a.root.1) (i (brk (firstB x.1 a.root.1) false a.root.1 || false))) (wrapN (brk (secondB x.1 b.root.1) last b.root.1) (j (brk (secondB x.1 b.root.1) last b.root.1 || last))))
 (fun _ _ _ _ i j k _ => max (max (i true) (j true)) (k true) + 1)
theorem Tr.need_lf (x : Nd) (last : Bool) : (Tr.lf x).need last = 0 := rfl
theorem Tr.need_un (x : Nd) (a : Tr) (last : Bool) : (Tr.un x a).need last = if isQ x.1 = true then a.need true + 1 else wrapN (brk (two a.root.1) last a.root.1) (a.need (brk (two a.root.1) last a.root.1 || last)) + 1 := rfl
theorem Tr.need_bi (x : Nd) (a b : Tr) (last : Bool) : (Tr.bi x a b).need last = max (wrapN (brk (firstB x.1 a.root.1) false a.root.1) (a.need (brk (firstB x.1 a.root.1) false a.root.1 || false))) (wrapN (brk (secondB x.1 b.root.1) last b.root.1) (b.need (brk (secondB x.1 b.root.1) last b.root.1 || last))) := rfl
theorem Tr.need_te (x : Nd) (a b c : Tr) (last : Bool) : (Tr.te x a b c).need last = max (max (a.need true) (b.need true)) (c.need true) + 1 := rfl

def textOf (l : List Item) : List UInt8 := l.flatMap (·.1)
def toksOf (l : List Item) : List (Nat × Nat) := l.map (·.2)

/-! ### what waits behind a tree's tokens -/
def Tr.pend : Tr → Bool → List Wt := Tr.fold (fun _ _ => [])
 (fun x a i last => if isQ x.1 = true then i true ++ [⟨2, x.1.toNat, x.2.toNat⟩] else (if brk (two a.root.1) last a.root.1 = true then [] else i last) ++ [⟨1, 0, 0⟩])
 (fun x _ b _ j last => (if brk (secondB x.1 b.root.1) last b.root.1 = true then [] else j last) ++ [⟨5, x.1.toNat, 0⟩])
 (fun _ _ _ _ _ _ _ _ => [])
theorem Tr.pend_lf (x : Nd) (last : Bool) : (Tr.lf x).pend last = [] := rfl
theorem Tr.pend_un (x : Nd) (a : Tr) (last : Bool) : (Tr.un x a).pend last = if isQ x.1 = true then a.pend true ++ [⟨2, x.1.toNat, x.2.toNat⟩] else (if brk (two a.root.1) last a.root.1 = true then [] else a.pend last) ++ [⟨1, 0, 0⟩] := rfl
theorem Tr.pend_bi (x : Nd) (a b : Tr) (last : Bool) : (Tr.bi x a b).pend last = (if brk (secondB x.1 b.root.1) last b.root.1 = true then [] else b.pend last) ++ [⟨5, x.1.toNat, 0⟩] := rfl
theorem Tr.pend_te (x : Nd) (a b c : Tr) (last : Bool) : (Tr.te x a b c).pend last = [] := rfl
def Tr.done : Tr → Bool → List Nd := Tr.fold (fun x _ => [x])
 (fun x a i last => if isQ x.1 = true then i true else (if brk (two a.root.1) last a.root.1 = true then a.post else i last))
 (fun x a b _ j last => a.post ++ (if brk (secondB x.1 b.root.1) last b.root.1 = true then b.post else j last))
 (fun x a b c _ _ _ _ => (Tr.te x a b c).post)
theorem Tr.done_lf (x : Nd) (last : Bool) : (Tr.lf x).done last = [x] := rfl
theorem Tr.done_un (x : Nd) (a : Tr) (last : Bool) : (Tr.un x a).done last = if isQ x.1 = true then a.done true else (if brk (two a.root.1) last a.root.1 = true then a.post else a.done last) := rfl
theorem Tr.done_bi (x : Nd) (a b : Tr) (last : Bool) : (Tr.bi x a b).done last = a.post ++ (if brk (secondB x.1 b.root.1) last b.root.1 = true then b.post else b.done last) := rfl
theorem Tr.done_te (x : Nd) (a b c : Tr) (last : Bool) : (Tr.te x a b c).done last = (Tr.te x a b c).post := rfl

theorem pend_kinds (t : Tr) : ∀ last, ∀ w ∈ t.pend last, w.kind ≠ 3 ∧ w.kind ≠ 4 := by
 induction t using Tr.ind with
 | lf x => intro last w hw; simp [Tr.pend_lf, Tr.pend_un, Tr.pend_bi, Tr.pend_te] at hw
 | un x a ih =>
  intro last w hw
  (first | rw [Tr.pend_un] at hw | rw [Tr.pend_bi] at hw | rw [Tr.pend_te] at hw | rw [Tr.pend_lf] at hw)
  split at hw
  ·rcases List.mem_append.1 hw with h | h
   ·exact ih _ _ h
   ·simp at h; subst h; simp
  ·rcases List.mem_append.1 hw with h | h
   ·split at h
    ·cases h
    ·exact ih _ _ h
   ·simp at h; subst h; simp
 | bi x a b _ ih =>
  intro last w hw
  (first | rw [Tr.pend_un] at hw | rw [Tr.pend_bi] at hw | rw [Tr.pend_te] at hw | rw [Tr.pend_lf] at hw)
  rcases List.mem_append.1 hw with h | h
  ·split at h
   ·cases h
   ·exact ih _ _ h
  ·simp at h; subst h; simp
 | te x a b c => intro last w hw; simp [Tr.pend_lf, Tr.pend_un, Tr.pend_bi, Tr.pend_te] at hw

theorem done_pend (t : Tr) : t.good → ∀ last, t.done last ++ (t.pend last).map nodeOf = t.post := by
 induction t using Tr.ind with
 | lf x => intro _ last; simp [Tr.done_lf, Tr.done_un, Tr.done_bi, Tr.done_te, Tr.pend_lf, Tr.pend_un, Tr.pend_bi, Tr.pend_te, Tr.post_lf, Tr.post_un, Tr.post_bi, Tr.post_te]
 | un x a ih =>
  rintro ⟨hx, ha⟩ last
  obtain ⟨o, v⟩ := x
  (first | rw [Tr.done_un, Tr.pend_un, Tr.post_un] | rw [Tr.done_bi, Tr.pend_bi, Tr.post_bi] | rw [Tr.done_te, Tr.pend_te, Tr.post_te] | rw [Tr.done_lf, Tr.pend_lf, Tr.post_lf])
  by_cases hq : isQ o = true
  ·rw [if_pos hq, if_pos hq, List.map_append, ← List.append_assoc, ih ha]
   have h0 : 0 ≤ o ∧ 0 ≤ v := by
    simp [isQ] at hq hx
    omega
   simp [nodeOf]; omega
  ·have hx' : o = 3 ∧ v = 0 := by
    rcases hx with h | h
    ·exact h
    ·exact absurd h.1 hq
   obtain ⟨rfl, rfl⟩ := hx'
   rw [if_neg hq, if_neg hq, List.map_append, ← List.append_assoc]
   split
   ·simp [nodeOf]
   ·rw [ih ha]; simp [nodeOf]
 | bi x a b _ ih =>
  rintro ⟨⟨hx, hx2⟩, _, hb⟩ last
  obtain ⟨o, v⟩ := x
  (first | rw [Tr.done_un, Tr.pend_un, Tr.post_un, List.map_append] | rw [Tr.done_bi, Tr.pend_bi, Tr.post_bi, List.map_append] | rw [Tr.done_te, Tr.pend_te, Tr.post_te, List.map_append] | rw [Tr.done_lf, Tr.pend_lf, Tr.post_lf, List.map_append])
  have h0 : 0 ≤ o := by simp [two] at hx; omega
  have hv : v = 0 := hx2
  subst hv
  split
  ·simp [nodeOf]; omega
  ·have := ih hb last
   rw [← this]
   simp [nodeOf]; omega
 | te x a b c => intro _ last; simp [Tr.done_lf, Tr.done_un, Tr.done_bi, Tr.done_te, Tr.pend_lf, Tr.pend_un, Tr.pend_bi, Tr.pend_te]

theorem settleIn_pend (p : List Wt) (hp : ∀ w ∈ p, w.kind ≠ 3 ∧ w.kind ≠ 4) (x : Wt) (st : List Wt) (hx : x.kind = 3 ∨ x.kind = 4) : ∀ o, settleIn (p ++ x :: st) o = (x :: st, o ++ p.map nodeOf) := by
 induction p with
 | nil => intro o; simp [settleIn, hx]
 | cons w t ih =>
  intro o
  have hw := hp w (List.mem_cons_self ..)
  rw [List.cons_append, settleIn, if_neg (by omega), ih (fun w h => hp w (List.mem_cons_of_mem _ h))]
  simp
theorem settleIn_all (p : List Wt) (hp : ∀ w ∈ p, w.kind ≠ 3 ∧ w.kind ≠ 4) : ∀ o, settleIn p o = ([], o ++ p.map nodeOf) := by
 induction p with
 | nil => intro o; simp [settleIn]
 | cons w t ih =>
  intro o
  have hw := hp w (List.mem_cons_self ..)
  rw [settleIn, if_neg (by omega), ih (fun w h => hp w (List.mem_cons_of_mem _ h))]
  simp
/-- what lies on top does not give way to this operator. -/
def holds (op : Nat) (st : List Wt) : Prop := ∀ w, st.head? = some w → gives op w = false
theorem settleOps_pend (op : Nat) (p st : List Wt) (hp : ∀ w ∈ p, gives op w = true) (hs : holds op st) : ∀ o, settleOps op (p ++ st) o = (st, o ++ p.map nodeOf) := by
 induction p with
 | nil =>
  intro o
  cases st with
  | nil => simp [settleOps]
  | cons w t =>
   have := hs w rfl
   simp [settleOps, this]
 | cons w t ih =>
  intro o
  rw [List.cons_append, settleOps, if_pos (hp w (List.mem_cons_self ..)), ih (fun w h => hp w (List.mem_cons_of_mem _ h))]
  simp
end PureForm
/-
 A tree's tokens, read by the stack: plain mathematics.
-/
namespace PureForm
open PureCnf Go.Lib

theorem two_cases {o : Int} (h : two o = true) : o = 6 ∨ o = 7 ∨ o = 8 ∨ o = 9 ∨ o = 10 := by simp [two] at h; omega

theorem gives_first {op r : Int} (ho : two op = true) (hr : two r = true) (h : firstB op r = false) : gives op.toNat ⟨5, r.toNat, 0⟩ = true := by
 rcases two_cases ho with rfl | rfl | rfl | rfl | rfl <;> rcases two_cases hr with rfl | rfl | rfl | rfl | rfl <;> first | rfl | (exact absurd h (by decide))
theorem gives_second {op x r : Int} (ho : two op = true) (hx : two x = true) (hr : two r = true) (h : secondB x r = false) (hg : gives op.toNat ⟨5, x.toNat, 0⟩ = true) : gives op.toNat ⟨5, r.toNat, 0⟩ = true := by
 rcases two_cases ho with rfl | rfl | rfl | rfl | rfl <;> rcases two_cases hx with rfl | rfl | rfl | rfl | rfl <;> rcases two_cases hr with rfl | rfl | rfl | rfl | rfl <;> first | rfl | (exact absurd h (by decide)) | (exact absurd hg (by decide))
theorem keeps_second {x r : Int} (hx : two x = true) (hr : two r = true) (h : secondB x r = false) : gives r.toNat ⟨5, x.toNat, 0⟩ = false := by
 rcases two_cases hx with rfl | rfl | rfl | rfl | rfl <;> rcases two_cases hr with rfl | rfl | rfl | rfl | rfl <;> first | rfl | (exact absurd h (by decide))
theorem keeps_first {x r : Int} (hx : two x = true) (hr : two r = true) (h : firstB x r = false) (w : Wt) (hw : gives x.toNat w = false) : gives r.toNat w = false := by
 obtain ⟨k, o, n⟩ := w
 have hb : ∀ op : Nat, gives op ⟨k, o, n⟩ = (k == 1 || (k == 5 && !(decide (bindsN o < bindsN op) || (bindsN o == bindsN op && op == 9)))) := fun _ => rfl
 rw [hb] at hw ⊢
 generalize bindsN o = b at hw ⊢
 rcases two_cases hx with rfl | rfl | rfl | rfl | rfl <;> rcases two_cases hr with rfl | rfl | rfl | rfl | rfl <;>
  first | (exact absurd h (by decide)) | (simp [bindsN] at hw ⊢; omega) | (simp [bindsN] at hw ⊢; exact ⟨hw.1, fun e => by have := hw.2 e; omega⟩)

theorem pend_gives (t : Tr) : t.good → ∀ op, two op = true → isQ t.root.1 = false → (two t.root.1 = true → gives op.toNat ⟨5, t.root.1.toNat, 0⟩ = true) → ∀ w ∈ t.pend false, gives op.toNat w = true := by
 induction t using Tr.ind with
 | lf x => intro _ op _ _ _ w hw; simp [Tr.pend_lf, Tr.pend_un, Tr.pend_bi, Tr.pend_te] at hw
 | un x a ih =>
  rintro ⟨hx, ha⟩ op ho hq _ w hw
  have hq' : isQ x.1 = false := hq
  (first | rw [Tr.pend_un, if_neg (by rw [hq']; decide)] at hw | rw [Tr.pend_bi, if_neg (by rw [hq']; decide)] at hw | rw [Tr.pend_te, if_neg (by rw [hq']; decide)] at hw | rw [Tr.pend_lf, if_neg (by rw [hq']; decide)] at hw)
  rcases List.mem_append.1 hw with h | h
  ·split at h
   ·cases h
   ·next hb =>
    have hb' : brk (two a.root.1) false a.root.1 = false := by simpa using hb
    simp [brk] at hb'
    exact ih ha op ho hb'.2 (fun e => by rw [hb'.1] at e; cases e) w h
  ·simp at h; subst h; rfl
 | bi x a b _ ih =>
  rintro ⟨⟨hx, _⟩, _, hb⟩ op ho hq hg w hw
  have hg' := hg hx
  (first | rw [Tr.pend_un] at hw | rw [Tr.pend_bi] at hw | rw [Tr.pend_te] at hw | rw [Tr.pend_lf] at hw)
  rcases List.mem_append.1 hw with h | h
  ·split at h
   ·cases h
   ·next hk =>
    have hk' : brk (secondB x.1 b.root.1) false b.root.1 = false := by simpa using hk
    simp [brk] at hk'
    exact ih hb op ho hk'.2 (fun e => gives_second ho hx e hk'.1 hg') w h
  ·simp at h; subst h; exact hg'
 | te x a b c => intro _ op _ _ _ w hw; simp [Tr.pend_lf, Tr.pend_un, Tr.pend_bi, Tr.pend_te] at hw

/-! ### tokens -/
def feed (s : PS) : List (Nat × Nat) → Option PS
 | [] => some s
 | k :: r => match stepP s ⟨k.1, k.2, 0, 0⟩ with
  | .ok (.inl s') => feed s' r
  | _ => none
theorem feed_append (a b : List (Nat × Nat)) : ∀ s, feed s (a ++ b) = (feed s a).bind (feed · b) := by
 induction a with
 | nil => intro s; simp [feed]
 | cons k r ih =>
  intro s
  simp only [List.cons_append, feed]
  split
  ·exact ih _
  ·rfl
theorem feed_step {s s' : PS} {k : Nat × Nat} {r : List (Nat × Nat)} (h : stepP s ⟨k.1, k.2, 0, 0⟩ = .ok (.inl s')) : feed s (k :: r) = feed s' r := by
 simp only [feed, h]

theorem toksOf_append (a b : List Item) : toksOf (a ++ b) = toksOf a ++ toksOf b := by simp [toksOf]
theorem toksOf_cons (a : Item) (b : List Item) : toksOf (a :: b) = a.2 :: toksOf b := rfl

def fit (st : List Wt) (r : Int) : Prop := two r = true → holds r.toNat st
theorem opn_cons (w : Wt) (st : List Wt) (h : w.kind ≠ 5) : opnOf (w :: st) = opnOf st + 1 := by simp [opnOf, h]
theorem opn_five (w : Wt) (st : List Wt) (h : w.kind = 5) : opnOf (w :: st) = opnOf st := by simp [opnOf, h]
theorem fit_top (w : Wt) (st : List Wt) (r : Int) (h1 : w.kind ≠ 1) (h5 : w.kind ≠ 5) : fit (w :: st) r := by
 intro _ v hv
 simp at hv; subst hv
 simp [gives, h1, h5]

/-- what reading a tree's tokens does. -/
def Reads (t : Tr) : Prop := ∀ (last : Bool) (st : List Wt) (o : List Nd) (made qn : Nat), opnOf st + t.need last ≤ 64 → made + t.post.length ≤ 65536 → fit st t.root.1 →
 ∃ qn', feed ⟨st, o, made, 0, qn⟩ (toksOf (t.its 0 last)) = some ⟨t.pend last ++ st, o ++ t.done last, made + t.post.length, 1, qn'⟩
def ReadsQ (t : Tr) : Prop := ∀ (q : Int) (st : List Wt) (o : List Nd) (made : Nat), isQ q = true → opnOf st + t.need true ≤ 64 → made + t.post.length ≤ 65536 → fit st t.root.1 →
 ∃ qn', feed ⟨st, o, made, 4, q.toNat⟩ (toksOf (t.its q true)) = some ⟨t.pend true ++ st, o ++ t.done true, made + t.post.length, 1, qn'⟩


/-- an operand. -/
theorem reads_opnd {a : Tr} (hg : a.good) (ha : Reads a) (br last : Bool) (st : List Wt) (o : List Nd) (made qn : Nat) (hn : opnOf st + wrapN (brk br last a.root.1) (a.need (brk br last a.root.1 || last)) ≤ 64) (hm : made + a.post.length ≤ 65536)
  (hf : brk br last a.root.1 = false → fit st a.root.1) :
  ∃ qn', feed ⟨st, o, made, 0, qn⟩ (toksOf (wrapI (brk br last a.root.1) (a.its 0 (brk br last a.root.1 || last)))) =
   some ⟨(if brk br last a.root.1 = true then [] else a.pend last) ++ st, o ++ (if brk br last a.root.1 = true then a.post else a.done last), made + a.post.length, 1, qn'⟩ := by
 cases hb : brk br last a.root.1 with
 | false =>
  rw [hb] at hn
  simp only [wrapI, wrapN, Bool.false_or, if_neg (show ¬ (false = true) by decide)] at hn ⊢
  exact ha last st o made qn hn hm (hf hb)
 | true =>
  rw [hb] at hn
  simp only [wrapN, Bool.true_or, if_true] at hn
  simp only [wrapI, Bool.true_or, if_true]
  obtain ⟨qn', h⟩ := ha true (⟨3, 0, 0⟩ :: st) o made qn (by rw [opn_cons _ _ (by simp)]; omega) hm (fit_top _ _ _ (by simp) (by simp))
  refine ⟨qn', ?_⟩
  rw [List.cons_append, toksOf_cons, toksOf_append]
  rw [feed_step (s' := ⟨⟨3, 0, 0⟩ :: st, o, made, 0, qn⟩) (by simp [stepP, openI, opensP]; omega), feed_append, h]
  simp only [Option.bind_some, toksOf, closeI, List.map_cons, List.map_nil]
  rw [feed_step (s' := ⟨st, o ++ a.post, made + a.post.length, 1, qn'⟩)]
  ·simp [feed]
  ·simp only [stepP, closesP]
   rw [settleIn_pend _ (pend_kinds a true) ⟨3, 0, 0⟩ st (.inl rfl)]
   simp [List.append_assoc, done_pend a hg true]

theorem its_q {t : Tr} {q : Int} (hq : isQ q = true) (h : ¬ ∃ x a, t = .un x a ∧ isQ x.1 = true ∧ x.1 = q) (last : Bool) : t.its q last = colonI :: t.its 0 last := by
 have h0 : q ≠ 0 := by simp [isQ] at hq; omega
 cases t using Tr.cas with
 | lf x => simp [Tr.its_lf, Tr.its_un, Tr.its_bi, Tr.its_te, sepI, h0]
 | un x a =>
  by_cases hx : isQ x.1 = true
  ·have hne : x.1 ≠ q := fun e => h ⟨x, a, rfl, hx, e⟩
   have hn0 : x.1 ≠ 0 := by simp [isQ] at hx; omega
   simp [Tr.its_lf, Tr.its_un, Tr.its_bi, Tr.its_te, sepI, h0, hx, hne, hn0]
  ·simp [Tr.its_lf, Tr.its_un, Tr.its_bi, Tr.its_te, sepI, h0, hx]
 | bi x a b => simp [Tr.its_lf, Tr.its_un, Tr.its_bi, Tr.its_te, sepI, h0]
 | te x a b c => simp [Tr.its_lf, Tr.its_un, Tr.its_bi, Tr.its_te, sepI, h0]

theorem readsQ_of {t : Tr} (h : Reads t) (hn : ∀ q, isQ q = true → ¬ ∃ x a, t = .un x a ∧ isQ x.1 = true ∧ x.1 = q) : ReadsQ t := by
 intro q st o made hq h1 h2 h3
 obtain ⟨qn', e⟩ := h true st o made q.toNat h1 h2 h3
 refine ⟨qn', ?_⟩
 rw [its_q hq (hn q hq), toksOf_cons, feed_step (s' := ⟨st, o, made, 0, q.toNat⟩) (by simp [stepP, colonI]), e]

/-- the variable of a quantifier, and what it is over. -/
theorem reads_var {x : Nd} {a : Tr} (hx : isQ x.1 = true) (ha : ReadsQ a) (st : List Wt) (o : List Nd) (made : Nat) (hn : opnOf st + (a.need true + 1) ≤ 64) (hm : made + (a.post.length + 1) ≤ 65536) :
  ∃ qn', feed ⟨st, o, made, 3, x.1.toNat⟩ ((varI x.2).2 :: toksOf (a.its x.1 true)) = some ⟨a.pend true ++ ⟨2, x.1.toNat, x.2.toNat⟩ :: st, o ++ a.done true, made + (a.post.length + 1), 1, qn'⟩ := by
 obtain ⟨qn', e⟩ := ha x.1 (⟨2, x.1.toNat, x.2.toNat⟩ :: st) o (made + 1) hx (by rw [opn_cons _ _ (by simp)]; omega) (by omega) (fit_top _ _ _ (by simp) (by simp))
 refine ⟨qn', ?_⟩
 rw [feed_step (s' := ⟨⟨2, x.1.toNat, x.2.toNat⟩ :: st, o, made + 1, 4, x.1.toNat⟩), e]
 ·congr 2; omega
 ·simp [stepP, varI, opensP]
  rw [if_neg (by omega), if_neg (by omega)]

theorem reads_all (t : Tr) : t.good → Reads t ∧ ReadsQ t := by
 induction t using Tr.ind with
 | lf x =>
  intro hx
  have h : Reads (.lf x) := by
   intro last st o made qn h1 h2 h3
   have h2' : made + 1 ≤ 65536 := h2
   refine ⟨qn, ?_⟩
   obtain ⟨p, v⟩ := x
   rcases hx with ⟨rfl, rfl | rfl⟩ | ⟨rfl, h5, h6⟩
   ·simp [Tr.its_lf, Tr.its_un, Tr.its_bi, Tr.its_te, sepI, toksOf, feed, stepP, constI, Tr.pend_lf, Tr.pend_un, Tr.pend_bi, Tr.pend_te, Tr.done_lf, Tr.done_un, Tr.done_bi, Tr.done_te, Tr.post_lf, Tr.post_un, Tr.post_bi, Tr.post_te]; rw [if_neg (by omega)]
   ·simp [Tr.its_lf, Tr.its_un, Tr.its_bi, Tr.its_te, sepI, toksOf, feed, stepP, constI, Tr.pend_lf, Tr.pend_un, Tr.pend_bi, Tr.pend_te, Tr.done_lf, Tr.done_un, Tr.done_bi, Tr.done_te, Tr.post_lf, Tr.post_un, Tr.post_bi, Tr.post_te]; rw [if_neg (by omega)]
   ·have e : ((v.toNat : Nat) : Int) = v := Int.toNat_of_nonneg h5
    simp [Tr.its_lf, Tr.its_un, Tr.its_bi, Tr.its_te, sepI, toksOf, feed, stepP, varI, Tr.pend_lf, Tr.pend_un, Tr.pend_bi, Tr.pend_te, Tr.done_lf, Tr.done_un, Tr.done_bi, Tr.done_te, Tr.post_lf, Tr.post_un, Tr.post_bi, Tr.post_te, e]; rw [if_neg (by omega)]
  exact ⟨h, readsQ_of h (by rintro q hq ⟨x, a, e, _⟩; cases e)⟩
 | un x a ih =>
  intro hg0
  obtain ⟨hx, hg⟩ : ((x.1 = 3 ∧ x.2 = 0) ∨ (isQ x.1 = true ∧ 0 ≤ x.2 ∧ x.2 < 65536)) ∧ a.good := hg0
  obtain ⟨i1, i2⟩ := ih hg
  by_cases hq : isQ x.1 = true
  ·have hn0 : x.1 ≠ 0 := by simp [isQ] at hq; omega
   have hl : ∀ last, (Tr.un x a).pend last = a.pend true ++ [⟨2, x.1.toNat, x.2.toNat⟩] ∧ (Tr.un x a).done last = a.done true ∧ (Tr.un x a).need last = a.need true + 1 := fun last => by simp [Tr.pend_lf, Tr.pend_un, Tr.pend_bi, Tr.pend_te, Tr.done_lf, Tr.done_un, Tr.done_bi, Tr.done_te, Tr.need_lf, Tr.need_un, Tr.need_bi, Tr.need_te, hq]
   have hp : (Tr.un x a).post.length = a.post.length + 1 := by simp [Tr.post_lf, Tr.post_un, Tr.post_bi, Tr.post_te]
   have h : Reads (.un x a) := by
    intro last st o made qn h1 h2 _
    obtain ⟨e1, e2, e3⟩ := hl last
    rw [e3] at h1
    rw [hp] at h2
    obtain ⟨qn', e⟩ := reads_var hq i2 st o made h1 h2
    refine ⟨qn', ?_⟩
    (first | rw [e1, e2, hp, Tr.its_un, if_pos hq, if_neg hn0, sepI, if_pos rfl, List.nil_append, toksOf_cons, toksOf_cons, feed_step (s' := ⟨st, o, made, 3, x.1.toNat⟩), e] | rw [e1, e2, hp, Tr.its_bi, if_pos hq, if_neg hn0, sepI, if_pos rfl, List.nil_append, toksOf_cons, toksOf_cons, feed_step (s' := ⟨st, o, made, 3, x.1.toNat⟩), e] | rw [e1, e2, hp, Tr.its_te, if_pos hq, if_neg hn0, sepI, if_pos rfl, List.nil_append, toksOf_cons, toksOf_cons, feed_step (s' := ⟨st, o, made, 3, x.1.toNat⟩), e] | rw [e1, e2, hp, Tr.its_lf, if_pos hq, if_neg hn0, sepI, if_pos rfl, List.nil_append, toksOf_cons, toksOf_cons, feed_step (s' := ⟨st, o, made, 3, x.1.toNat⟩), e])
    ·simp
    ·have h45 : x.1 = 4 ∨ x.1 = 5 := by simpa [isQ] using hq
     rcases h45 with h | h <;> simp [stepP, quantI, h]
   refine ⟨h, ?_⟩
   intro q st o made hq' h1 h2 h3
   by_cases hxq : x.1 = q
   ·subst hxq
    obtain ⟨e1, e2, e3⟩ := hl true
    rw [e3] at h1
    rw [hp] at h2
    obtain ⟨qn', e⟩ := reads_var hq i2 st o made h1 h2
    refine ⟨qn', ?_⟩
    (first | rw [e1, e2, hp, Tr.its_un, if_pos hq, if_pos rfl, toksOf_cons, toksOf_cons, feed_step (s' := ⟨st, o, made, 3, x.1.toNat⟩) (by simp [stepP, commaI]), e] | rw [e1, e2, hp, Tr.its_bi, if_pos hq, if_pos rfl, toksOf_cons, toksOf_cons, feed_step (s' := ⟨st, o, made, 3, x.1.toNat⟩) (by simp [stepP, commaI]), e] | rw [e1, e2, hp, Tr.its_te, if_pos hq, if_pos rfl, toksOf_cons, toksOf_cons, feed_step (s' := ⟨st, o, made, 3, x.1.toNat⟩) (by simp [stepP, commaI]), e] | rw [e1, e2, hp, Tr.its_lf, if_pos hq, if_pos rfl, toksOf_cons, toksOf_cons, feed_step (s' := ⟨st, o, made, 3, x.1.toNat⟩) (by simp [stepP, commaI]), e])
    simp
   ·obtain ⟨qn', e⟩ := h true st o made q.toNat h1 h2 h3
    refine ⟨qn', ?_⟩
    rw [its_q hq' (by rintro ⟨x', a', e, _, h⟩; have e1 := congrArg Tr.root e; rw [Tr.root_un, Tr.root_un] at e1; subst e1; exact hxq h), toksOf_cons, feed_step (s' := ⟨st, o, made, 0, q.toNat⟩) (by simp [stepP, colonI]), e]
  ·have h : Reads (.un x a) := by
    intro last st o made qn h1 h2 _
    (first | rw [Tr.need_un, if_neg hq] at h1 | rw [Tr.need_bi, if_neg hq] at h1 | rw [Tr.need_te, if_neg hq] at h1 | rw [Tr.need_lf, if_neg hq] at h1)
    have hp : (Tr.un x a).post.length = a.post.length + 1 := by simp [Tr.post_lf, Tr.post_un, Tr.post_bi, Tr.post_te]
    rw [hp] at h2
    obtain ⟨qn', e⟩ := reads_opnd hg i1 (two a.root.1) last (⟨1, 0, 0⟩ :: st) o (made + 1) qn (by rw [opn_cons _ _ (by simp)]; omega) (by omega) (fun hb => by
     have hb' : two a.root.1 = false := by simp [brk] at hb; exact hb.1
     intro e; rw [hb'] at e; cases e)
    refine ⟨qn', ?_⟩
    (first | rw [Tr.its_un, if_neg hq, sepI, if_pos rfl, List.nil_append, toksOf_cons, feed_step (s' := ⟨⟨1, 0, 0⟩ :: st, o, made + 1, 0, qn⟩), e] | rw [Tr.its_bi, if_neg hq, sepI, if_pos rfl, List.nil_append, toksOf_cons, feed_step (s' := ⟨⟨1, 0, 0⟩ :: st, o, made + 1, 0, qn⟩), e] | rw [Tr.its_te, if_neg hq, sepI, if_pos rfl, List.nil_append, toksOf_cons, feed_step (s' := ⟨⟨1, 0, 0⟩ :: st, o, made + 1, 0, qn⟩), e] | rw [Tr.its_lf, if_neg hq, sepI, if_pos rfl, List.nil_append, toksOf_cons, feed_step (s' := ⟨⟨1, 0, 0⟩ :: st, o, made + 1, 0, qn⟩), e])
    ·(first | rw [hp, Tr.pend_un, if_neg hq, Tr.done_un, if_neg hq] | rw [hp, Tr.pend_bi, if_neg hq, Tr.done_bi, if_neg hq] | rw [hp, Tr.pend_te, if_neg hq, Tr.done_te, if_neg hq] | rw [hp, Tr.pend_lf, if_neg hq, Tr.done_lf, if_neg hq])
     simp; omega
    ·simp [stepP, notI, opensP]
     rw [if_neg (by omega), if_neg (by omega)]
   exact ⟨h, readsQ_of h (by rintro q hq' ⟨x', a', e, h, _⟩; have e1 := congrArg Tr.root e; rw [Tr.root_un, Tr.root_un] at e1; subst e1; exact hq h)⟩
 | bi x a b iha ihb =>
  intro hg0
  obtain ⟨⟨hx, hx2⟩, hga, hgb⟩ : (two x.1 = true ∧ x.2 = 0) ∧ a.good ∧ b.good := hg0
  obtain ⟨ia, _⟩ := iha hga
  obtain ⟨ib, _⟩ := ihb hgb
  have h : Reads (.bi x a b) := by
   intro last st o made qn h1 h2 h3
   have h3' : holds x.1.toNat st := h3 hx
   (first | rw [Tr.need_un] at h1 | rw [Tr.need_bi] at h1 | rw [Tr.need_te] at h1 | rw [Tr.need_lf] at h1)
   have hp : (Tr.bi x a b).post.length = a.post.length + b.post.length + 1 := by simp [Tr.post_lf, Tr.post_un, Tr.post_bi, Tr.post_te]; omega
   rw [hp] at h2
   obtain ⟨qa, ea⟩ := reads_opnd hga ia (firstB x.1 a.root.1) false st o made qn (by omega) (by omega) (fun hb => by
    have hb' : firstB x.1 a.root.1 = false := by simp [brk] at hb; exact hb.1
    intro hr w hw
    exact keeps_first hx hr hb' w (h3' w hw))
   obtain ⟨qb, eb⟩ := reads_opnd hgb ib (secondB x.1 b.root.1) last (⟨5, x.1.toNat, 0⟩ :: st) (o ++ a.post) (made + a.post.length + 1) qa (by rw [opn_five _ _ rfl]; omega) (by omega) (fun hb => by
    have hb' : secondB x.1 b.root.1 = false := by simp [brk] at hb; exact hb.1
    intro hr w hw
    simp at hw; subst hw
    exact keeps_second hx hr hb')
   refine ⟨qb, ?_⟩
   (first | rw [Tr.its_un, sepI, if_pos rfl, List.nil_append, toksOf_append, feed_append, ea] | rw [Tr.its_bi, sepI, if_pos rfl, List.nil_append, toksOf_append, feed_append, ea] | rw [Tr.its_te, sepI, if_pos rfl, List.nil_append, toksOf_append, feed_append, ea] | rw [Tr.its_lf, sepI, if_pos rfl, List.nil_append, toksOf_append, feed_append, ea])
   simp only [Option.bind_some, toksOf_cons]
   rw [feed_step (s' := ⟨⟨5, x.1.toNat, 0⟩ :: st, o ++ a.post, made + a.post.length + 1, 0, qa⟩), eb]
   ·(first | rw [hp, Tr.pend_un, Tr.done_un] | rw [hp, Tr.pend_bi, Tr.done_bi] | rw [hp, Tr.pend_te, Tr.done_te] | rw [hp, Tr.pend_lf, Tr.done_lf])
    simp; omega
   ·have hs : (signI x.1).2 = (7, x.1.toNat) := by rcases two_cases hx with h | h | h | h | h <;> simp [signI, h]
    have hset : settleOps x.1.toNat ((if brk (firstB x.1 a.root.1) false a.root.1 = true then [] else a.pend false) ++ st) (o ++ (if brk (firstB x.1 a.root.1) false a.root.1 = true then a.post else a.done false)) = (st, o ++ a.post) := by
     rw [settleOps_pend _ _ _ _ h3']
     ·split
      ·simp
      ·rw [List.append_assoc, done_pend a hga false]
     ·split
      ·intro w hw; cases hw
      ·next hb =>
       have hb' : brk (firstB x.1 a.root.1) false a.root.1 = false := by simpa using hb
       simp [brk] at hb'
       exact pend_gives a hga x.1 hx hb'.2 (fun hr => gives_first hx hr hb'.1)
    rw [hs]
    simp only [stepP]
    rw [hset]
    simp
    omega
  exact ⟨h, readsQ_of h (by rintro q hq ⟨x, a, e, _⟩; cases e)⟩
 | te x a b c iha ihb ihc =>
  intro hg0
  obtain ⟨hx, hga, hgb, hgc⟩ : (x.1 = 11 ∧ x.2 = 0) ∧ a.good ∧ b.good ∧ c.good := hg0
  obtain ⟨ia, _⟩ := iha hga
  obtain ⟨ib, _⟩ := ihb hgb
  obtain ⟨ic, _⟩ := ihc hgc
  have h : Reads (.te x a b c) := by
   intro last st o made qn h1 h2 _
   (first | rw [Tr.need_un] at h1 | rw [Tr.need_bi] at h1 | rw [Tr.need_te] at h1 | rw [Tr.need_lf] at h1)
   have hp : (Tr.te x a b c).post.length = a.post.length + b.post.length + c.post.length + 1 := by simp [Tr.post_lf, Tr.post_un, Tr.post_bi, Tr.post_te]; omega
   rw [hp] at h2
   obtain ⟨qa, ea⟩ := ia true (⟨4, 0, 0⟩ :: st) o (made + 1) qn (by rw [opn_cons _ _ (by simp)]; omega) (by omega) (fit_top _ _ _ (by simp) (by simp))
   obtain ⟨qb, eb⟩ := ib true (⟨4, 0, 1⟩ :: st) (o ++ a.post) (made + 1 + a.post.length) qa (by rw [opn_cons _ _ (by simp)]; omega) (by omega) (fit_top _ _ _ (by simp) (by simp))
   obtain ⟨qc, ec⟩ := ic true (⟨4, 0, 2⟩ :: st) (o ++ a.post ++ b.post) (made + 1 + a.post.length + b.post.length) qb (by rw [opn_cons _ _ (by simp)]; omega) (by omega) (fit_top _ _ _ (by simp) (by simp))
   refine ⟨qc, ?_⟩
   have hl : toksOf ((Tr.te x a b c).its 0 last) = (6, 131) :: (8, 0) :: (toksOf (a.its 0 true) ++ (10, 0) :: (toksOf (b.its 0 true) ++ (10, 0) :: (toksOf (c.its 0 true) ++ [(9, 0)]))) := by
    simp [Tr.its_lf, Tr.its_un, Tr.its_bi, Tr.its_te, sepI, toksOf, iteI, openI, commaI, closeI]
   rw [hl, feed_step (s' := ⟨⟨4, 0, 0⟩ :: st, o, made + 1, 2, qn⟩), feed_step (s' := ⟨⟨4, 0, 0⟩ :: st, o, made + 1, 0, qn⟩) (by simp [stepP]), feed_append, ea]
   ·simp only [Option.bind_some]
    rw [feed_step (s' := ⟨⟨4, 0, 1⟩ :: st, o ++ a.post, made + 1 + a.post.length, 0, qa⟩), feed_append, eb]
    ·simp only [Option.bind_some]
     rw [feed_step (s' := ⟨⟨4, 0, 2⟩ :: st, o ++ a.post ++ b.post, made + 1 + a.post.length + b.post.length, 0, qb⟩), feed_append, ec]
     ·simp only [Option.bind_some]
      rw [feed_step (s' := ⟨st, o ++ a.post ++ b.post ++ c.post ++ [(11, 0)], made + 1 + a.post.length + b.post.length + c.post.length, 1, qc⟩)]
      ·obtain ⟨p, v⟩ := x
       obtain ⟨h4, h5⟩ := hx
       simp at h4 h5
       subst h4 h5
       simp [feed, Tr.pend_lf, Tr.pend_un, Tr.pend_bi, Tr.pend_te, Tr.done_lf, Tr.done_un, Tr.done_bi, Tr.done_te, Tr.post_lf, Tr.post_un, Tr.post_bi, Tr.post_te]; omega
      ·simp only [stepP, closesP]
       rw [show settleIn (c.pend true ++ ⟨4, 0, 2⟩ :: st) ((o ++ a.post ++ b.post) ++ c.done true) = (⟨4, 0, 2⟩ :: st, (o ++ a.post ++ b.post) ++ c.post) by rw [settleIn_pend _ (pend_kinds c true) _ _ (.inr rfl), List.append_assoc, done_pend c hgc true]]
       simp [nodeOf]
     ·simp only [stepP, commaP]
      rw [show settleIn (b.pend true ++ ⟨4, 0, 1⟩ :: st) ((o ++ a.post) ++ b.done true) = (⟨4, 0, 1⟩ :: st, (o ++ a.post) ++ b.post) by rw [settleIn_pend _ (pend_kinds b true) _ _ (.inr rfl), List.append_assoc, done_pend b hgb true]]
      simp
    ·simp only [stepP, commaP]
     rw [show settleIn (a.pend true ++ ⟨4, 0, 0⟩ :: st) (o ++ a.done true) = (⟨4, 0, 0⟩ :: st, o ++ a.post) by rw [settleIn_pend _ (pend_kinds a true) _ _ (.inr rfl), List.append_assoc, done_pend a hga true]]
     simp
   ·simp [stepP, opensP]
    rw [if_neg (by omega), if_neg (by omega)]
  exact ⟨h, readsQ_of h (by rintro q hq ⟨x, a, e, _⟩; cases e)⟩

/-- all tokens of a tree, and the end. -/
theorem feed_tree (t : Tr) (hg : t.good) (hn : t.need true ≤ 64) (hm : t.post.length ≤ 65536) : ∃ s, feed ⟨[], [], 0, 0, 0⟩ (toksOf (t.its 0 true)) = some s ∧ stepP s ⟨0, 0, 0, 0⟩ = .ok (.inr t.post) := by
 obtain ⟨qn, h⟩ := (reads_all t hg).1 true [] [] 0 0 (by simpa [opnOf] using hn) (by omega) (fun _ w hw => by simp at hw)
 refine ⟨_, h, ?_⟩
 simp only [stepP, endsP, List.append_nil, List.nil_append]
 rw [settleIn_all _ (pend_kinds t true), done_pend t hg true]
 simp
end PureForm
/-
 A text by items is cut into just these tokens: plain mathematics.
-/
namespace PureForm
open PureCnf Go.Lib

def noAln (l : List UInt8) : Prop := ∀ c, l.head? = some c → alnB c = false
def blanks (l : List UInt8) : Prop := ∀ c ∈ l, blankB c = true

def SignItem (x : Item) : Prop := ∃ lead core trail, x.1 = lead ++ core ++ trail ∧ blanks lead ∧ blanks trail ∧ (core, x.2) ∈ signs
def WordItem (x : Item) (r : List UInt8) : Prop := ∃ c core trail, x.1 = (c :: core) ++ trail ∧ blanks trail ∧ letB c = true ∧ core.all alnB = true ∧ x.2.1 ≠ 0 ∧ (∀ p, wordT (c :: core) p = ⟨x.2.1, x.2.2, p, p + (c :: core).length⟩) ∧ (trail ≠ [] ∨ noAln r)
def Well : List Item → List UInt8 → Prop
 | [], _ => True
 | x :: r, tl => (SignItem x ∨ WordItem x (textOf r ++ tl)) ∧ Well r tl

theorem textOf_append (a b : List Item) : textOf (a ++ b) = textOf a ++ textOf b := by simp [textOf]
theorem textOf_cons (a : Item) (b : List Item) : textOf (a :: b) = a.1 ++ textOf b := by simp [textOf]
theorem Well.app {a b : List Item} {tl : List UInt8} (ha : Well a (textOf b ++ tl)) (hb : Well b tl) : Well (a ++ b) tl := by
 induction a with
 | nil => exact hb
 | cons x r ih =>
  obtain ⟨h1, h2⟩ := ha
  refine ⟨?_, ih h2⟩
  show SignItem x ∨ WordItem x (textOf (r ++ b) ++ tl)
  rw [textOf_append, List.append_assoc]
  exact h1

/-! ### one token -/
theorem skipB_bl (bl r : List UInt8) (hb : blanks bl) (hr : ∀ c, r.head? = some c → blankB c = false ∧ c.toNat ≠ 35) : ∀ pre, skipB (pre ++ (bl ++ r)) pre.length = pre.length + bl.length := by
 induction bl with
 | nil =>
  intro pre
  rw [skipB_eq]
  split
  ·next h =>
   cases r with
   | nil => simp at h
   | cons c t =>
    obtain ⟨h1, h2⟩ := hr c rfl
    have e : (pre ++ ([] ++ c :: t))[pre.length]'h = c := by simp
    rw [e, if_neg h2, h1]; simp
  ·rfl
 | cons c t ih =>
  intro pre
  have hc := hb c (List.mem_cons_self ..)
  rw [skipB_eq]
  have h : pre.length < (pre ++ (c :: t ++ r)).length := by simp
  rw [dif_pos h]
  have e : (pre ++ (c :: t ++ r))[pre.length]'h = c := by simp
  have h35 : c.toNat ≠ 35 := by simp [blankB] at hc; omega
  rw [e, if_neg h35, if_pos hc]
  have := ih (fun c h => hb c (List.mem_cons_of_mem _ h)) (pre ++ [c])
  simp at this ⊢
  rw [this]; omega

theorem signT_core {l r : List UInt8} {i : Nat} {x : Item} (hx : x ∈ signs) (h : l.drop i = x.1 ++ r) : signT l i signs = ⟨x.2.1, x.2.2, i, i + x.1.length⟩ := by
 simp only [signs, List.mem_cons, List.not_mem_nil, or_false] at hx
 rcases hx with rfl | rfl | rfl | rfl | rfl | rfl | rfl | rfl | rfl | rfl | rfl | rfl | rfl | rfl | rfl | rfl | rfl | rfl | rfl | rfl | rfl <;> simp [signT, signs, h]
theorem sign_head {x : Item} (hx : x ∈ signs) : ∃ c t, x.1 = c :: t ∧ letB c = false ∧ digB c = false ∧ blankB c = false ∧ c.toNat ≠ 35 ∧ alnB c = false ∧ x.2.1 ≠ 0 := by
 simp only [signs, List.mem_cons, List.not_mem_nil, or_false] at hx
 rcases hx with rfl | rfl | rfl | rfl | rfl | rfl | rfl | rfl | rfl | rfl | rfl | rfl | rfl | rfl | rfl | rfl | rfl | rfl | rfl | rfl | rfl <;> exact ⟨_, _, rfl, by decide, by decide, by decide, by decide, by decide, by decide⟩

theorem next_sign {pre bl core r : List UInt8} {kn : Nat × Nat} (hb : blanks bl) (hs : (core, kn) ∈ signs) : nextT (pre ++ (bl ++ (core ++ r))) pre.length = ⟨kn.1, kn.2, pre.length + bl.length, pre.length + bl.length + core.length⟩ := by
 obtain ⟨c, t, e0, h1, h2, h3, h4, _, _⟩ := sign_head hs
 have e : core = c :: t := e0
 have hsk := skipB_bl bl (core ++ r) hb (fun d hd => by rw [e] at hd; simp at hd; subst hd; exact ⟨h3, h4⟩) pre
 have hd : (pre ++ (bl ++ (core ++ r))).drop (pre.length + bl.length) = core ++ r := by
  rw [← List.append_assoc, ← List.length_append, List.drop_left]
 unfold nextT
 rw [hsk]
 have hlt : pre.length + bl.length < (pre ++ (bl ++ (core ++ r))).length := by rw [e]; simp
 rw [dif_pos hlt]
 have hc : (pre ++ (bl ++ (core ++ r)))[pre.length + bl.length]'hlt = c := by
  have : (pre ++ (bl ++ (core ++ r)))[pre.length + bl.length]? = some c := by
   rw [← List.head?_drop, hd, e]; rfl
  exact (List.getElem?_eq_some_iff.1 this).2
 rw [hc, h1, h2]
 simp only [Bool.false_eq_true, if_false]
 exact signT_core hs hd

theorem takeWhile_all {p : UInt8 → Bool} {a r : List UInt8} (ha : a.all p = true) (hr : ∀ c, r.head? = some c → p c = false) : (a ++ r).takeWhile p = a := by
 induction a with
 | nil =>
  cases r with
  | nil => rfl
  | cons c t => simp [hr c rfl]
 | cons x t ih =>
  simp only [List.all_cons, Bool.and_eq_true] at ha
  simp [ha.1, ih ha.2]

theorem next_word {pre bl core r : List UInt8} {c : UInt8} {kn : Nat × Nat} (hb : blanks bl) (hl : letB c = true) (ha : core.all alnB = true) (hw : ∀ p, wordT (c :: core) p = ⟨kn.1, kn.2, p, p + (c :: core).length⟩) (hr : noAln r) :
  nextT (pre ++ (bl ++ ((c :: core) ++ r))) pre.length = ⟨kn.1, kn.2, pre.length + bl.length, pre.length + bl.length + (c :: core).length⟩ := by
 have hbc : blankB c = false ∧ c.toNat ≠ 35 := by
  simp [letB] at hl
  simp [blankB]; omega
 have hsk := skipB_bl bl ((c :: core) ++ r) hb (fun d hd => by simp at hd; subst hd; exact hbc) pre
 have hd : (pre ++ (bl ++ ((c :: core) ++ r))).drop (pre.length + bl.length) = (c :: core) ++ r := by
  rw [← List.append_assoc, ← List.length_append, List.drop_left]
 unfold nextT
 rw [hsk]
 have hlt : pre.length + bl.length < (pre ++ (bl ++ ((c :: core) ++ r))).length := by simp
 rw [dif_pos hlt]
 have hc : (pre ++ (bl ++ ((c :: core) ++ r)))[pre.length + bl.length]'hlt = c := by
  have : (pre ++ (bl ++ ((c :: core) ++ r)))[pre.length + bl.length]? = some c := by
   rw [← List.head?_drop, hd]; rfl
  exact (List.getElem?_eq_some_iff.1 this).2
 rw [hc, if_pos hl]
 have hrun : runW alnB (pre ++ (bl ++ ((c :: core) ++ r))) (pre.length + bl.length) (pre ++ (bl ++ ((c :: core) ++ r))).length = pre.length + bl.length + (c :: core).length := by
  unfold runW
  rw [List.take_length, hd, takeWhile_all _ hr]
  simp [alnB, hl, ha]
 rw [hrun]
 have hcore : ((pre ++ (bl ++ ((c :: core) ++ r))).take (pre.length + bl.length + (c :: core).length)).drop (pre.length + bl.length) = c :: core := by
  rw [List.drop_take, hd, Nat.add_sub_cancel_left, List.take_left]
 rw [hcore, hw]

theorem next_end {pre bl : List UInt8} (hb : blanks bl) : nextT (pre ++ bl) pre.length = ⟨0, 0, (pre ++ bl).length, (pre ++ bl).length⟩ := by
 have hsk := skipB_bl bl [] hb (by simp) pre
 rw [List.append_nil] at hsk
 unfold nextT
 rw [dif_neg (by rw [hsk]; simp)]

/-! ### all tokens -/
def kn (t : Tok) : Nat × Nat := (t.kind, t.n)
theorem toks_step {l : List UInt8} {i : Nat} {t : Tok} (h : nextT l i = t) (h0 : t.kind ≠ 0) (h1 : i < t.end_) (h2 : t.end_ ≤ l.length) : toksFrom l i = t :: toksFrom l t.end_ := by
 rw [toksFrom_eq, h, dif_pos ⟨h0, h1, h2⟩]
theorem lex (its : List Item) : ∀ (pre bl : List UInt8), blanks bl → Well its [] → (toksFrom (pre ++ (bl ++ textOf its)) pre.length).map kn = toksOf its ++ [(0, 0)] := by
 induction its with
 | nil =>
  intro pre bl hb _
  have e : textOf [] = [] := rfl
  rw [e, List.append_nil, toksFrom_eq, next_end hb, dif_neg (by simp)]
  rfl
 | cons x r ih =>
  intro pre bl hb hw
  obtain ⟨h, hr⟩ := hw
  rw [textOf_cons]
  rcases h with ⟨lead, core, trail, e, hl, ht, hs⟩ | ⟨c, core, trail, e, ht, hlet, hal, hk0, hwd, hj⟩
  ·have e1 : pre ++ (bl ++ (x.1 ++ textOf r)) = pre ++ ((bl ++ lead) ++ (core ++ (trail ++ textOf r))) := by rw [e]; simp
   have e2 : pre ++ ((bl ++ lead) ++ (core ++ (trail ++ textOf r))) = (pre ++ (bl ++ lead) ++ core) ++ (trail ++ textOf r) := by simp
   have hbl : blanks (bl ++ lead) := fun d hd => (List.mem_append.1 hd).elim (hb d) (hl d)
   obtain ⟨c, t, ec, _, _, _, _, _, hk⟩ := sign_head hs
   have ec' : core.length = t.length + 1 := by rw [show core = c :: t from ec]; rfl
   rw [e1, toks_step (next_sign hbl hs) hk (by simp; omega) (by simp; omega)]
   rw [List.map_cons, toksOf_cons]
   refine congrArg (List.cons x.2) (?_ : _ = toksOf r ++ [(0, 0)])
   rw [e2]
   have := ih (pre ++ (bl ++ lead) ++ core) trail ht hr
   rw [← this]
   congr 2
   simp; omega
  ·have e1 : pre ++ (bl ++ (x.1 ++ textOf r)) = pre ++ (bl ++ ((c :: core) ++ (trail ++ textOf r))) := by rw [e]; simp
   have e2 : pre ++ (bl ++ ((c :: core) ++ (trail ++ textOf r))) = (pre ++ bl ++ (c :: core)) ++ (trail ++ textOf r) := by simp
   have hno : noAln (trail ++ textOf r) := by
    intro d hd
    cases trail with
    | nil =>
     rcases hj with h | h
     ·exact absurd rfl h
     ·exact h d (by simpa using hd)
    | cons y ys =>
     simp at hd; subst hd
     have := ht y (List.mem_cons_self ..)
     simp [blankB] at this
     simp [alnB, letB, digB]; omega
   rw [e1, toks_step (next_word hb hlet hal hwd hno) hk0 (by simp; omega) (by simp; omega)]
   rw [List.map_cons, toksOf_cons]
   refine congrArg (List.cons x.2) (?_ : _ = toksOf r ++ [(0, 0)])
   rw [e2]
   have := ih (pre ++ bl ++ (c :: core)) trail ht hr
   rw [← this]
   congr 2
   simp; omega

theorem stepP_kn (s : PS) (t t' : Tok) (h : kn t = kn t') : stepP s t = stepP s t' := by
 obtain ⟨k, n, a, e⟩ := t
 obtain ⟨k', n', a', e'⟩ := t'
 simp only [kn, Prod.mk.injEq] at h
 obtain ⟨rfl, rfl⟩ := h
 rfl
theorem run_feed {o : List Nd} : ∀ (ks : List (Nat × Nat)) (ts : List Tok) (s s' : PS), ts.map kn = ks ++ [(0, 0)] → feed s ks = some s' → stepP s' ⟨0, 0, 0, 0⟩ = .ok (.inr o) → runP s ts = .ok o := by
 intro ks
 induction ks with
 | nil =>
  intro ts s s' ht hf he
  cases ts with
  | nil => simp at ht
  | cons t r =>
   simp at ht hf
   simp only [feed, Option.some.injEq] at hf
   subst hf
   rw [runP, stepP_kn s t ⟨0, 0, 0, 0⟩ ht.1, he]
 | cons k r ih =>
  intro ts s s' ht hf he
  cases ts with
  | nil => simp at ht
  | cons t ts =>
   simp only [List.map_cons, List.cons_append, List.cons.injEq] at ht
   rw [feed] at hf
   rw [runP, stepP_kn s t ⟨k.1, k.2, 0, 0⟩ ht.1]
   split at hf
   ·next s1 h1 =>
    rw [h1]
    exact ih ts s1 s' ht.2 hf he
   ·cases hf
end PureForm
