import Derived.Test.YtdkboifpdodonabGreatDoorZ15
set_option linter.unusedSimpArgs false
/-
  A pair of brackets of a printed text: where it closes, and what is left without it: plain mathematics.
-/
namespace PureForm
open PureCnf Go.Lib

/-! ### depth -/
def step1 (c : UInt8) : Int := if c = 40 then 1 else if c = 41 then -1 else 0
def dep (l : List UInt8) : Int := (l.map step1).sum
theorem dep_append (a b : List UInt8) : dep (a ++ b) = dep a + dep b := by simp [dep]
theorem dep_cons (c : UInt8) (b : List UInt8) : dep (c :: b) = step1 c + dep b := by simp [dep]
def Bal (T : List UInt8) : Prop := dep T = 0 ∧ ∀ j, 0 ≤ dep (T.take j)
theorem Bal.nil : Bal [] := ⟨rfl, fun j => by simp [dep]⟩
theorem Bal.app {a b : List UInt8} (ha : Bal a) (hb : Bal b) : Bal (a ++ b) := by
  refine ⟨by rw [dep_append, ha.1, hb.1]; rfl, fun j => ?_⟩
  rw [List.take_append, dep_append]
  have := ha.2 j
  have := hb.2 (j - a.length)
  omega
theorem dep_none {T : List UInt8} (h : ∀ c ∈ T, c ≠ 40 ∧ c ≠ 41) : dep T = 0 := by
  induction T with
  | nil => rfl
  | cons c r ih =>
    rw [dep_cons, ih (fun d hd => h d (List.mem_cons_of_mem _ hd))]
    obtain ⟨h1, h2⟩ := h c (List.mem_cons_self ..)
    simp [step1, h1, h2]
theorem Bal.none {T : List UInt8} (h : ∀ c ∈ T, c ≠ 40 ∧ c ≠ 41) : Bal T := by
  refine ⟨dep_none h, fun j => ?_⟩
  rw [dep_none (fun c hc => h c (List.mem_of_mem_take hc))]
  exact Int.le_refl _
theorem Bal.wrap {T : List UInt8} (h : Bal T) : Bal (40 :: (T ++ [41])) := by
  refine ⟨by rw [dep_cons, dep_append, h.1]; decide, fun j => ?_⟩
  cases j with
  | zero => simp [dep]
  | succ j =>
    rw [List.take_succ_cons, dep_cons, List.take_append, dep_append]
    have h1 := h.2 j
    have h2 : -1 ≤ dep (List.take (j - T.length) [41]) := by
      cases j - T.length with
      | zero => decide
      | succ n => simp [dep, step1]
    have h3 : step1 40 = 1 := by decide
    omega

/-! ### items -/
def Plain (x : Item) : Prop := ∀ c ∈ x.1, c ≠ 40 ∧ c ≠ 41
theorem it_plain {x : Item} {a : List Atom} (h : IsIt x a) : x = openI ∨ x = closeI ∨ Plain x := by
  induction h using IsIt.ind
  case open_ => exact .inl rfl
  case close => exact .inr (.inl rfl)
  case var n h0 h1 =>
    refine .inr (.inr fun c hc => ?_)
    rcases List.mem_cons.1 hc with rfl | hc
    · decide
    · have := List.all_eq_true.1 (dec_all n.toNat) c hc
      simp [digB] at this
      constructor
      · rintro rfl; revert this; decide
      · rintro rfl; revert this; decide
  all_goals (refine .inr (.inr ?_); unfold Plain; decide)
theorem find_open {L : List Item} (hp : ∀ x ∈ L, x = openI ∨ x = closeI ∨ Plain x) {i : Nat} (h : (textOf L)[i]? = some 40) : ∃ l1 l2, L = l1 ++ openI :: l2 ∧ i = (textOf l1).length := by
  induction L generalizing i with
  | nil => simp [textOf] at h
  | cons x r ih =>
    rw [textOf_cons] at h
    by_cases hi : i < x.1.length
    · rw [List.getElem?_append_left hi] at h
      rcases hp x (List.mem_cons_self ..) with rfl | rfl | hx
      · have : i = 0 := by simp [openI] at hi; omega
        exact ⟨[], r, rfl, by simpa [textOf] using this⟩
      · have : i = 0 := by simp [closeI] at hi; omega
        subst this
        simp [closeI] at h
      · exact absurd rfl (hx 40 (List.mem_of_getElem? h)).1
    · rw [List.getElem?_append_right (by omega)] at h
      obtain ⟨l1, l2, e, hl⟩ := ih (fun x hx => hp x (List.mem_cons_of_mem _ hx)) h
      exact ⟨x :: l1, l2, by rw [e]; rfl, by rw [textOf_cons, List.length_append]; omega⟩

def IteEnd (l : List Item) : Prop := ∃ l0, l = l0 ++ [iteI]
def SgnEnd (l : List Item) : Prop := l = [] ∨ ∃ l0 y, l = l0 ++ [y] ∧ SignItem y
theorem IteEnd.app {l : List Item} (h : IteEnd l) (a : List Item) : IteEnd (a ++ l) := by obtain ⟨l0, e⟩ := h; exact ⟨a ++ l0, by rw [e, List.append_assoc]⟩
theorem SgnEnd.app {l : List Item} (h : SgnEnd l) (hl : l ≠ []) (a : List Item) : SgnEnd (a ++ l) := by
  rcases h with h | ⟨l0, y, e, hy⟩
  · exact absurd h hl
  · exact .inr ⟨a ++ l0, y, by rw [e, List.append_assoc], hy⟩
/-- of each bracket of L that is not of an ite: where it closes, and that the rest is one of C. -/
def Open (L : List Item) (C : List Item → Prop) (tl : List UInt8) : Prop := ∀ l1 l2, L = l1 ++ openI :: l2 → IteEnd l1 ∨ ∃ m l3, l2 = m ++ closeI :: l3 ∧ Bal (textOf m) ∧ C (l1 ++ (m ++ l3)) ∧ noAln (textOf l3 ++ tl) ∧ SgnEnd l1
theorem Open.mono {L : List Item} {C C' : List Item → Prop} {tl : List UInt8} (h : Open L C tl) (hc : ∀ k, C k → C' k) : Open L C' tl := by
  intro l1 l2 e
  rcases h l1 l2 e with h | ⟨m, l3, h1, h2, h3, h4⟩
  · exact .inl h
  · exact .inr ⟨m, l3, h1, h2, hc _ h3, h4⟩
theorem Open.nil (C : List Item → Prop) (tl : List UInt8) : Open [] C tl := by
  intro l1 l2 e
  have := congrArg List.length e
  simp at this
theorem Open.cons {x : Item} {L : List Item} {C : List Item → Prop} {tl : List UInt8} (hx : x ≠ openI) (hs : SignItem x ∨ x = iteI ∨ L.head? ≠ some openI) (h : Open L C tl) : Open (x :: L) (fun k => ∃ k', C k' ∧ k = x :: k') tl := by
  intro l1 l2 e
  cases l1 with
  | nil => injection e with e1 _; exact absurd e1 hx
  | cons y r =>
    injection e with e1 e2
    subst e1
    rcases h r l2 e2 with h | ⟨m, l3, h1, h2, h3, h4, h5⟩
    · exact .inl (h.app [x])
    · by_cases hr : r = []
      · subst hr
        rcases hs with hs | rfl | hs
        · exact .inr ⟨m, l3, h1, h2, ⟨_, h3, rfl⟩, h4, .inr ⟨[], x, rfl, hs⟩⟩
        · exact .inl ⟨[], rfl⟩
        · exact absurd (by rw [e2]; rfl) hs
      · exact .inr ⟨m, l3, h1, h2, ⟨_, h3, rfl⟩, h4, h5.app hr [x]⟩
theorem split_at {A B l1 l2 : List Item} (h : A ++ B = l1 ++ openI :: l2) : (∃ r, A = l1 ++ openI :: r ∧ l2 = r ++ B) ∨ (∃ r, B = r ++ openI :: l2 ∧ l1 = A ++ r) := by
  rcases List.append_eq_append_iff.1 h with ⟨r, h1, h2⟩ | ⟨r, h1, h2⟩
  · exact .inr ⟨r, h2, h1⟩
  · cases r with
    | nil =>
      rw [List.append_nil] at h1
      rw [List.nil_append] at h2
      exact .inr ⟨[], h2.symm, by rw [h1, List.append_nil]⟩
    | cons x r =>
      rw [List.cons_append] at h2
      injection h2 with e1 e2
      subst e1
      exact .inl ⟨r, h1, e2⟩
theorem Open.app {A B : List Item} {CA CB : List Item → Prop} {tl : List UInt8} (hA : Open A CA (textOf B ++ tl)) (hB : Open B CB tl) (hne : B.head? ≠ some openI) : Open (A ++ B) (fun k => (∃ k', CA k' ∧ k = k' ++ B) ∨ ∃ k', CB k' ∧ k = A ++ k') tl := by
  intro l1 l2 e
  rcases split_at e with ⟨r, h1, rfl⟩ | ⟨r, h1, rfl⟩
  · rcases hA l1 r h1 with h | ⟨m, l3, g1, g2, g3, g4, g5⟩
    · exact .inl h
    · refine .inr ⟨m, l3 ++ B, by rw [g1]; simp, g2, .inl ⟨_, g3, by simp⟩, ?_, g5⟩
      rw [textOf_append, List.append_assoc]
      exact g4
  · have hr : r ≠ [] := by
      rintro rfl
      exact hne (by rw [h1]; rfl)
    rcases hB r l2 h1 with h | ⟨m, l3, g1, g2, g3, g4, g5⟩
    · exact .inl (h.app A)
    · exact .inr ⟨m, l3, g1, g2, .inr ⟨_, g3, by simp⟩, g4, g5.app hr A⟩
theorem Open.wrap {L : List Item} {C : List Item → Prop} {tl : List UInt8} (h : Open L C (textOf [closeI] ++ tl)) (hb : Bal (textOf L)) (ht : noAln tl) : Open (openI :: (L ++ [closeI])) (fun k => k = L ∨ ∃ k', C k' ∧ k = openI :: (k' ++ [closeI])) tl := by
  intro l1 l2 e
  cases l1 with
  | nil =>
    injection e with _ e2
    refine .inr ⟨L, [], e2.symm, hb, .inl (by simp), ?_, .inl rfl⟩
    simpa [textOf] using ht
  | cons y r =>
    injection e with e1 e2
    subst e1
    rcases split_at e2 with ⟨s, h1, rfl⟩ | ⟨s, h1, _⟩
    · rcases h r s h1 with h | ⟨m, l3, g1, g2, g3, g4, g5⟩
      · exact .inl (h.app [openI])
      · refine .inr ⟨m, l3 ++ [closeI], by rw [g1]; simp, g2, .inr ⟨_, g3, by simp⟩, ?_, ?_⟩
        · rw [textOf_append, List.append_assoc]
          exact g4
        · by_cases hr : r = []
          · subst hr
            exact .inr ⟨[], openI, rfl, sign_open⟩
          · exact g5.app hr [openI]
    · exfalso
      cases s with
      | nil => simp [closeI, openI] at h1
      | cons z s => simp at h1
theorem Open.ite {L : List Item} {C : List Item → Prop} {tl : List UInt8} (h : Open L C tl) : Open (iteI :: openI :: L) (fun k => ∃ k', C k' ∧ k = iteI :: openI :: k') tl := by
  intro l1 l2 e
  cases l1 with
  | nil => injection e with e1 _; exact absurd e1 (by decide)
  | cons y r =>
    injection e with e1 e2
    subst e1
    cases r with
    | nil => exact .inl ⟨[], rfl⟩
    | cons z r =>
      injection e2 with e1 e2
      subst e1
      rcases h r l2 e2 with h | ⟨m, l3, g1, g2, g3, g4, g5⟩
      · exact .inl (h.app [iteI, openI])
      · refine .inr ⟨m, l3, g1, g2, ⟨_, g3, rfl⟩, g4, ?_⟩
        by_cases hr : r = []
        · subst hr
          exact .inr ⟨[iteI], openI, rfl, sign_open⟩
        · exact g5.app hr [iteI, openI]
end PureForm
/-
  P13.9: no pair of brackets of a printed text can be left out: plain mathematics.
-/
namespace PureForm
open PureCnf Go.Lib

theorem sign_ne (o : Int) : signI o ≠ openI := by unfold signI; repeat' split
                                                  all_goals decide
theorem quant_ne (o : Int) : quantI o ≠ openI := by unfold quantI; split <;> decide
theorem const_ne (o : Int) : constI o ≠ openI := by unfold constI; split <;> decide
theorem var_ne (n : Int) : varI n ≠ openI := by intro h; simp [varI, openI] at h
theorem bal_it {x : Item} {a : List Atom} (h : IsIt x a) (h1 : x ≠ openI) (h2 : x ≠ closeI) : Bal x.1 := by
  rcases it_plain h with h | h | h
  · exact absurd h h1
  · exact absurd h h2
  · exact Bal.none h
theorem bal_sign {o : Int} (h : two o = true) : Bal (signI o).1 := by
  obtain ⟨a, ha⟩ := is_sign h
  refine bal_it ha (sign_ne o) ?_
  unfold signI; repeat' split
  all_goals decide
theorem bal_quant {o : Int} (h : isQ o = true) : Bal (quantI o).1 := by
  obtain ⟨a, ha⟩ := is_quant h
  refine bal_it ha (quant_ne o) ?_
  unfold quantI; split <;> decide
theorem bal_var {n : Int} (h0 : 0 ≤ n) (h1 : n < 65536) : Bal (varI n).1 := bal_it (.var h0 h1) (var_ne n) (by intro h; simp [varI, closeI] at h)
theorem bal_comma : Bal commaI.1 := bal_it .comma (by decide) (by decide)
theorem bal_colon : Bal colonI.1 := bal_it .colon (by decide) (by decide)
theorem bal_not : Bal notI.1 := bal_it .neg (by decide) (by decide)
theorem bal_ite : Bal iteI.1 := bal_it .ite (by decide) (by decide)
theorem bal_sep (q : Int) : Bal (textOf (sepI q)) := by
  unfold sepI
  split
  · exact Bal.nil
  · have := bal_colon; simpa [textOf] using this
theorem bal_wrap {b : Bool} {l : List Item} (h : Bal (textOf l)) : Bal (textOf (wrapI b l)) := by
  unfold wrapI
  split
  · have e : textOf (openI :: l ++ [closeI]) = 40 :: (textOf l ++ [41]) := by simp [textOf, openI, closeI]
    rw [e]; exact h.wrap
  · exact h
theorem bal_tree (t : Tr) : t.good → ∀ q last, Bal (textOf (t.its q last)) := by
  induction t using Tr.ind with
  | lf x =>
    intro hx q last
    (first | rw [Tr.its_un, textOf_append] | rw [Tr.its_bi, textOf_append] | rw [Tr.its_te, textOf_append] | rw [Tr.its_lf, textOf_append])
    refine (bal_sep q).app ?_
    obtain ⟨p, v⟩ := x
    rcases hx with ⟨rfl, rfl | rfl⟩ | ⟨rfl, h1, h2⟩
    · have := bal_it IsIt.false_ (const_ne 0) (by decide)
      simpa [textOf] using this
    · have := bal_it IsIt.true_ (const_ne 1) (by decide)
      simpa [textOf] using this
    · have := bal_var h1 h2
      simpa [textOf] using this
  | un x a ih =>
    rintro ⟨hx, hg⟩ q last
    have hg : a.good := hg
    by_cases hi : isQ x.1 = true
    · have hv : 0 ≤ x.2 ∧ x.2 < 65536 := by
        rcases hx with ⟨h, _⟩ | ⟨_, h⟩
        · rw [h] at hi; simp [isQ] at hi
        · exact h
      (first | rw [Tr.its_un, if_pos hi] | rw [Tr.its_bi, if_pos hi] | rw [Tr.its_te, if_pos hi] | rw [Tr.its_lf, if_pos hi])
      split
      · rw [textOf_cons, textOf_cons]
        exact bal_comma.app ((bal_var hv.1 hv.2).app (ih hg _ _))
      · rw [textOf_append, textOf_cons, textOf_cons]
        exact (bal_sep q).app ((bal_quant hi).app ((bal_var hv.1 hv.2).app (ih hg _ _)))
    · (first | rw [Tr.its_un, if_neg hi, textOf_append, textOf_cons] | rw [Tr.its_bi, if_neg hi, textOf_append, textOf_cons] | rw [Tr.its_te, if_neg hi, textOf_append, textOf_cons] | rw [Tr.its_lf, if_neg hi, textOf_append, textOf_cons])
      exact (bal_sep q).app (bal_not.app (bal_wrap (ih hg _ _)))
  | bi x a b iha ihb =>
    rintro ⟨⟨hx, _⟩, hga, hgb⟩ q last
    have hga : a.good := hga
    have hgb : b.good := hgb
    rw [its_bi, textOf_append, textOf_append, textOf_cons]
    exact ((bal_sep q).app (bal_wrap (iha hga _ _))).app ((bal_sign hx).app (bal_wrap (ihb hgb _ _)))
  | te x a b c iha ihb ihc =>
    rintro ⟨_, hga, hgb, hgc⟩ q last
    have hga : a.good := hga
    have hgb : b.good := hgb
    have hgc : c.good := hgc
    have e : textOf ((Tr.te x a b c).its q last) = textOf (sepI q) ++ (iteI.1 ++ (40 :: ((textOf (a.its 0 true) ++ (commaI.1 ++ (textOf (b.its 0 true) ++ (commaI.1 ++ textOf (c.its 0 true))))) ++ [41]))) := by
      (first | rw [Tr.its_un] | rw [Tr.its_bi] | rw [Tr.its_te] | rw [Tr.its_lf])
      simp [textOf, openI, closeI]
    rw [e]
    exact (bal_sep q).app (bal_ite.app (((iha hga _ _).app (bal_comma.app ((ihb hgb _ _).app (bal_comma.app (ihc hgc _ _))))).wrap))

theorem Open.sep {L : List Item} {C : List Item → Prop} {tl : List UInt8} (q : Int) (h : Open L C tl) : Open (sepI q ++ L) (fun k => ∃ k', C k' ∧ k = sepI q ++ k') tl := by
  unfold sepI
  split
  · rw [List.nil_append]
    exact h.mono (fun k hk => ⟨k, hk, rfl⟩)
  · exact (h.cons (by decide) (.inl sign_colon)).mono (fun k hk => hk)
theorem q_head {q : Int} (hq : isQ q = true) (t : Tr) (last : Bool) : (t.its q last).head? ≠ some openI := by
  by_cases h : ∃ x a, t = .un x a ∧ isQ x.1 = true ∧ x.1 = q
  · obtain ⟨x, a, rfl, h1, h2⟩ := h
    (first | rw [Tr.its_un, if_pos h1, if_pos h2] | rw [Tr.its_bi, if_pos h1, if_pos h2] | rw [Tr.its_te, if_pos h1, if_pos h2] | rw [Tr.its_lf, if_pos h1, if_pos h2])
    intro he
    injection he with he
    revert he
    decide
  · rw [its_q hq h]
    intro he
    injection he with he
    revert he
    decide
theorem open_op {a : Tr} (hg : a.good) (br last : Bool) (tl : List UInt8) (ht : noAln tl) (ih : ∀ last tl, noAln tl → Open (a.its 0 last) (fun k => a.cut 0 last k) tl) : Open (opI br last a) (fun k => opCut br last a (fun b k => a.cut 0 b k) k) tl := by
  unfold opI opCut wrapI
  split
  · next hb =>
    rw [hb, Bool.true_or]
    exact (Open.wrap (ih true _ (noAln_head (by decide))) (bal_tree a hg 0 true) ht).mono (fun k hk => hk)
  · next hb =>
    have hb' : brk br last a.root.1 = false := by simpa using hb
    rw [hb', Bool.false_or]
    exact (ih last tl ht).mono (fun k hk => hk)
theorem open_tree (t : Tr) : t.good → ∀ q last tl, (q = 0 ∨ isQ q = true) → noAln tl → Open (t.its q last) (fun k => t.cut q last k) tl := by
  induction t using Tr.ind with
  | lf x =>
    intro hx q last tl _ _
    (first | rw [Tr.its_un] | rw [Tr.its_bi] | rw [Tr.its_te] | rw [Tr.its_lf])
    have h : Open [if x.1 = 1 then constI x.2 else varI x.2] (fun _ => False) tl := by
      refine ((Open.nil (fun _ => False) tl).cons ?_ (.inr (.inr (by simp)))).mono (fun k hk => by obtain ⟨_, h, _⟩ := hk; exact h)
      split
      · exact const_ne _
      · exact var_ne _
    exact (h.sep q).mono (fun k hk => by obtain ⟨_, h, _⟩ := hk; exact h.elim)
  | un x a ih =>
    rintro ⟨hx, hg⟩ q last tl hq ht
    have hg : a.good := hg
    by_cases hi : isQ x.1 = true
    · have hv : Open (varI x.2 :: a.its x.1 true) (fun k => ∃ k', a.cut x.1 true k' ∧ k = varI x.2 :: k') tl := Open.cons (var_ne _) (.inr (.inr (q_head hi a true))) (ih hg x.1 true tl (.inr hi) ht)
      by_cases hxq : x.1 = q
      · (first | rw [Tr.its_un, if_pos hi, if_pos hxq] | rw [Tr.its_bi, if_pos hi, if_pos hxq] | rw [Tr.its_te, if_pos hi, if_pos hxq] | rw [Tr.its_lf, if_pos hi, if_pos hxq])
        rw [hxq] at hv
        refine (Open.cons (by decide) (.inl sign_comma) hv).mono (fun k hk => ?_)
        obtain ⟨k', ⟨m, hm, rfl⟩, rfl⟩ := hk
        (first | rw [Tr.cut_un, if_pos hi, if_pos hxq] | rw [Tr.cut_bi, if_pos hi, if_pos hxq] | rw [Tr.cut_te, if_pos hi, if_pos hxq] | rw [Tr.cut_lf, if_pos hi, if_pos hxq])
        exact ⟨m, hm, rfl⟩
      · (first | rw [Tr.its_un, if_pos hi, if_neg hxq] | rw [Tr.its_bi, if_pos hi, if_neg hxq] | rw [Tr.its_te, if_pos hi, if_neg hxq] | rw [Tr.its_lf, if_pos hi, if_neg hxq])
        refine ((Open.cons (quant_ne _) (.inr (.inr (by intro h; injection h with h; exact var_ne _ h))) hv).sep q).mono (fun k hk => ?_)
        obtain ⟨k', ⟨k2, ⟨m, hm, rfl⟩, rfl⟩, rfl⟩ := hk
        (first | rw [Tr.cut_un, if_pos hi, if_neg hxq] | rw [Tr.cut_bi, if_pos hi, if_neg hxq] | rw [Tr.cut_te, if_pos hi, if_neg hxq] | rw [Tr.cut_lf, if_pos hi, if_neg hxq])
        exact ⟨m, hm, rfl⟩
    · (first | rw [Tr.its_un, if_neg hi] | rw [Tr.its_bi, if_neg hi] | rw [Tr.its_te, if_neg hi] | rw [Tr.its_lf, if_neg hi])
      have h := open_op hg (two a.root.1) last tl ht (fun last tl h => ih hg 0 last tl (.inl rfl) h)
      refine ((Open.cons (by decide) (.inl sign_not) h).sep q).mono (fun k hk => ?_)
      obtain ⟨k', ⟨m, hm, rfl⟩, rfl⟩ := hk
      (first | rw [Tr.cut_un, if_neg hi] | rw [Tr.cut_bi, if_neg hi] | rw [Tr.cut_te, if_neg hi] | rw [Tr.cut_lf, if_neg hi])
      exact ⟨m, hm, rfl⟩
  | bi x a b iha ihb =>
    rintro ⟨⟨hx, _⟩, hga, hgb⟩ q last tl hq ht
    have hga : a.good := hga
    have hgb : b.good := hgb
    rw [its_bi, List.append_assoc]
    have hb := Open.cons (sign_ne x.1) (.inl (sign_op hx)) (open_op hgb (secondB x.1 b.root.1) last tl ht (fun last tl h => ihb hgb 0 last tl (.inl rfl) h))
    have ha := open_op hga (firstB x.1 a.root.1) false (textOf (signI x.1 :: opI (secondB x.1 b.root.1) last b) ++ tl) (no_sign _ _ _) (fun last tl h => iha hga 0 last tl (.inl rfl) h)
    refine ((Open.app ha hb (by intro h; injection h with h; exact sign_ne _ h)).sep q).mono (fun k hk => ?_)
    obtain ⟨k', ⟨m, hm, rfl⟩ | ⟨k2, ⟨m, hm, rfl⟩, rfl⟩, rfl⟩ := hk
    · exact .inl ⟨m, hm, by simp⟩
    · exact .inr ⟨m, hm, by simp⟩
  | te x a b c iha ihb ihc =>
    rintro ⟨_, hga, hgb, hgc⟩ q last tl hq ht
    have hga : a.good := hga
    have hgb : b.good := hgb
    have hgc : c.good := hgc
    have hcl : Open [closeI] (fun _ => False) tl := ((Open.nil (fun _ => False) tl).cons (by decide) (.inr (.inr (by simp)))).mono (fun k hk => by obtain ⟨_, h, _⟩ := hk; exact h)
    have hc := Open.cons (x := commaI) (by decide) (.inl sign_comma) (Open.app (ihc hgc 0 true (textOf [closeI] ++ tl) (.inl rfl) (no_close _ _)) hcl (by decide))
    have hb := Open.cons (x := commaI) (by decide) (.inl sign_comma) (Open.app (ihb hgb 0 true (textOf (commaI :: (c.its 0 true ++ [closeI])) ++ tl) (.inl rfl) (no_comma _ _)) hc (by intro h; injection h with h; revert h; decide))
    have ha := Open.ite (Open.app (iha hga 0 true (textOf (commaI :: (b.its 0 true ++ commaI :: (c.its 0 true ++ [closeI]))) ++ tl) (.inl rfl) (no_comma _ _)) hb (by intro h; injection h with h; revert h; decide))
    have e : (Tr.te x a b c).its q last = sepI q ++ (iteI :: openI :: (a.its 0 true ++ commaI :: (b.its 0 true ++ commaI :: (c.its 0 true ++ [closeI])))) := by simp [Tr.its_lf, Tr.its_un, Tr.its_bi, Tr.its_te]
    rw [e]
    refine (ha.sep q).mono (fun k hk => ?_)
    obtain ⟨k', ⟨k2, h, rfl⟩, rfl⟩ := hk
    rcases h with ⟨m, hm, rfl⟩ | ⟨k3, ⟨k4, h, rfl⟩, rfl⟩
    · exact .inl ⟨m, hm, by simp⟩
    · rcases h with ⟨m, hm, rfl⟩ | ⟨k5, ⟨k6, h, rfl⟩, rfl⟩
      · exact .inr (.inl ⟨m, hm, by simp⟩)
      · rcases h with ⟨m, hm, rfl⟩ | ⟨k7, h, _⟩
        · exact .inr (.inr ⟨m, hm, by simp⟩)
        · exact h.elim

/-! ### the rest's tokens -/
theorem Well.retail {A : List Item} {tl tl' : List UInt8} (h : Well A tl) (ht : ∀ c, tl'.head? = some c → alnB c = false ∨ tl.head? = some c) : Well A tl' := by
  induction A with
  | nil => trivial
  | cons x r ih =>
    obtain ⟨h1, h2⟩ := h
    refine ⟨?_, ih h2⟩
    rcases h1 with h1 | ⟨c, core, trail, g1, g2, g3, g4, g5, g6, g7⟩
    · exact .inl h1
    · refine .inr ⟨c, core, trail, g1, g2, g3, g4, g5, g6, ?_⟩
      rcases g7 with g7 | g7
      · exact .inl g7
      · refine .inr fun d hd => ?_
        cases hr : textOf r with
        | nil =>
          rw [hr, List.nil_append] at hd g7
          rcases ht d hd with h | h
          · exact h
          · exact g7 d h
        | cons y ys =>
          rw [hr] at hd g7
          exact g7 d hd
theorem Well.split {A B : List Item} {tl : List UInt8} (h : Well (A ++ B) tl) : Well A (textOf B ++ tl) ∧ Well B tl := by
  induction A with
  | nil => exact ⟨trivial, h⟩
  | cons x r ih =>
    obtain ⟨h1, h2⟩ := h
    have h3 := ih h2
    refine ⟨⟨?_, h3.1⟩, h3.2⟩
    have h1' : SignItem x ∨ WordItem x (textOf (r ++ B) ++ tl) := h1
    rw [textOf_append, List.append_assoc] at h1'
    exact h1'
theorem sign_text {y : Item} (h : SignItem y) : ∃ c t, y.1 = c :: t := by
  obtain ⟨lead, core, trail, e, _, _, hs⟩ := h
  obtain ⟨c, t, ec, _⟩ := sign_head hs
  have ec' : core = c :: t := ec
  cases lead with
  | nil => exact ⟨c, t ++ trail, by rw [e, ec']; simp⟩
  | cons d ds => exact ⟨d, ds ++ core ++ trail, by rw [e]; simp⟩
theorem well_cut {l1 m l3 : List Item} (h : Well (l1 ++ openI :: (m ++ closeI :: l3)) []) (hs : SgnEnd l1) (hn : noAln (textOf l3 ++ [])) : Well (l1 ++ (m ++ l3)) [] := by
  obtain ⟨h1, _, h2⟩ := h.split
  obtain ⟨h3, _, h4⟩ := h2.split
  have w2 : Well (m ++ l3) [] := Well.app (h3.retail fun c hc => .inl (hn c hc)) h4
  refine Well.app ?_ w2
  rcases hs with rfl | ⟨l0, y, rfl, hy⟩
  · trivial
  · obtain ⟨g1, g2, _⟩ := h1.split
    refine Well.app (g1.retail ?_) ⟨.inl hy, trivial⟩
    obtain ⟨c, t, e⟩ := sign_text hy
    intro d hd
    right
    rw [textOf_cons, e] at hd ⊢
    exact hd
theorem cut_kinds {A : List Item} {tl : List UInt8} (h : Well A tl) : ∀ k ∈ toksOf A, k.1 ≠ 0 := by
  induction A with
  | nil => intro k hk; cases hk
  | cons x r ih =>
    obtain ⟨h1, h2⟩ := h
    intro k hk
    rw [toksOf_cons] at hk
    rcases List.mem_cons.1 hk with rfl | hk
    · rcases h1 with ⟨lead, core, trail, _, _, _, hs⟩ | ⟨c, core, trail, _, _, _, _, g5, _⟩
      · obtain ⟨_, _, _, _, _, _, _, _, h0⟩ := sign_head hs
        exact h0
      · exact g5
    · exact ih h2 k hk

/-- P13.9. -/
theorem fewest {f : List Nd} {T : List UInt8} (hp : printF f = .ok T) {i : Nat} (hi : T[i]? = some 40) (he : i = 0 ∨ T[i - 1]? ≠ some 101) :
    ∃ pre M suf, T = pre ++ 40 :: (M ++ 41 :: suf) ∧ pre.length = i ∧ Bal M ∧ parseF (pre ++ (M ++ suf)) ≠ .ok f := by
  unfold printF at hp
  split at hp
  · next t ht =>
    obtain ⟨hg, hpost⟩ := treeOf_some ht
    split at hp
    · next h1 =>
      split at hp
      · cases hp
        obtain ⟨a, ha⟩ := its_tree t hg 0 true
        have hpl : ∀ x ∈ t.its 0 true, x = openI ∨ x = closeI ∨ Plain x := by
          clear hi
          generalize t.its 0 true = L at ha
          intro x hx
          induction ha using Its.ind with
          | nil => cases hx
          | cons hx' _ ih =>
            rcases List.mem_cons.1 hx with rfl | hx
            · exact it_plain hx'
            · exact ih hx
        obtain ⟨l1, l2, el, hil⟩ := find_open hpl hi
        have hw := well_tree t hg 0 true [] (.inl rfl) (fun c h => by cases h)
        rcases open_tree t hg 0 true [] (.inl rfl) (fun c h => by cases h) l1 l2 el with ⟨l0, rfl⟩ | ⟨m, l3, e2, hbal, hcut, hno, hsg⟩
        · exfalso
          have hlen : i = (textOf l0).length + 3 := by rw [hil, textOf_append, List.length_append]; rfl
          rcases he with h | h
          · omega
          · apply h
            rw [show t.text = textOf l0 ++ ([105, 116, 101] ++ textOf (openI :: l2)) by unfold Tr.text; rw [el, List.append_assoc, textOf_append]; rfl]
            rw [List.getElem?_append_right (by omega), hlen]
            simp
        · subst e2
          refine ⟨textOf l1, textOf m, textOf l3, ?_, hil.symm, hbal, ?_⟩
          · unfold Tr.text
            rw [el, textOf_append, textOf_cons, textOf_append, textOf_cons]
            rfl
          · rw [el] at hw
            have w := well_cut hw hsg hno
            have h3 := lex (l1 ++ (m ++ l3)) [] [] bl_nil w
            simp only [List.nil_append, List.length_nil] at h3
            rw [← textOf_append, ← textOf_append]
            intro hpf
            unfold parseF at hpf
            split at hpf
            · cases hpf
            · split at hpf
              · cases hpf
              · next o ho =>
                cases hpf
                obtain ⟨s', h4, h5⟩ := run_back _ _ _ h3 (cut_kinds w) ho
                have h6 := cut_fails t hg h1.2 (by rw [hpost]; exact h1.1) hcut s' h4
                obtain ⟨d, hd⟩ := stepP_out h5
                have h7 := h6.app d []
                rw [List.append_nil, ← hd] at h7
                exact h7.ne hpost.symm
      · cases hp
    · cases hp
  · cases hp
end PureForm
/-
  FormulaFewest: where a bracket closes; lists that are not the same.
-/
namespace Go.Proofs.YtdkboifpdodonabGreatDoor.Doc
open Go.RowKit Go.Deep PureCnf PureForm
set_option maxRecDepth 100000

theorem dep_le (l : List UInt8) : dep l ≤ l.length ∧ -(l.length : Int) ≤ dep l := by
  induction l with
  | nil => simp [dep]
  | cons c r ih =>
    rw [dep_cons]
    have : step1 c ≤ 1 ∧ -1 ≤ step1 c := by unfold step1; split; decide; split <;> decide
    simp only [List.length_cons]
    omega

set_option maxHeartbeats 1000000 in
set_option maxRecDepth 100000 in
theorem partner_any (s : ByteArray) (pre M suf : List UInt8) (i : Nat) (w : World) (hs : s.data.toList = pre ++ 40 :: (M ++ 41 :: suf)) (hi : pre.length = i) (hb : Bal M) (hl : s.size ≤ 1048576) :
    Calls Tryz.prog 12 #[.string s, .int .i64 (i : Int)] w fun e w' => e = .returned (.int .i64 ((i + M.length + 1 : Nat) : Int)) ∧ w' = w := by
  have hsz : s.size = i + M.length + suf.length + 2 := by
    have := congrArg List.length hs
    simp at this
    omega
  obtain ⟨n, hn⟩ : ∃ n, n = M.length := ⟨_, rfl⟩
  have HAT : Hid (∀ j, j ≤ n + 1 → ∀ h : i + j < s.size, (40 :: (M ++ [41]))[j]? = some (s[i + j]'h)) := fun j hj h => by
    have h1 : s.data.toList[i + j]? = some (s[i + j]'h) := by rw [List.getElem?_eq_getElem (by simpa using h)]; rfl
    rw [← h1, hs, List.getElem?_append_right (by omega), show i + j - pre.length = j by omega]
    rw [show (40 :: (M ++ 41 :: suf) : List UInt8) = (40 :: (M ++ [41])) ++ suf by simp]
    rw [List.getElem?_append_left (by simp; omega)]
  have HDEP : Hid (∀ j, j ≤ n + 1 → ∀ h : i + j < s.size, dep ((40 :: (M ++ [41])).take (j + 1)) = dep ((40 :: (M ++ [41])).take j) + step1 (s[i + j]'h)) := fun j hj h => by
    have h1 := HAT.out j hj h
    rw [List.take_add_one, h1, dep_append]
    simp [dep]
  have HPOS : Hid (∀ j, 1 ≤ j → j ≤ n + 1 → 1 ≤ dep ((40 :: (M ++ [41])).take j)) := fun j h1 h2 => by
    obtain ⟨k, rfl⟩ : ∃ k, j = k + 1 := ⟨j - 1, by omega⟩
    rw [List.take_succ_cons, dep_cons, List.take_append_of_le_length (by omega)]
    have := hb.2 k
    have : step1 40 = 1 := by decide
    omega
  have HEND : Hid (dep ((40 :: (M ++ [41])).take (n + 1)) = 1) := by
    show _ = _
    rw [List.take_succ_cons, dep_cons, List.take_append_of_le_length (by omega), List.take_of_length_le (by omega), hb.1]
    decide
  have HLE : Hid (∀ j, dep ((40 :: (M ++ [41])).take j) ≤ j ∧ 0 ≤ (j : Int)) := fun j => by
    have h1 := (dep_le ((40 :: (M ++ [41])).take j)).1
    have h2 := List.length_take_le j (40 :: (M ++ [41]))
    omega
  have HLAST : Hid (∀ h : i + (n + 1) < s.size, s[i + (n + 1)]'h = 41) := fun h => by
    have := HAT.out (n + 1) (Nat.le_refl _) h
    have h2 : (40 :: (M ++ [41]) : List UInt8)[n + 1]? = some 41 := by
      rw [List.getElem?_cons_succ, List.getElem?_append_right (by omega), hn]
      simp
    rw [h2] at this
    exact (Option.some.inj this).symm
  have HFIRST : Hid (∀ h : i + 0 < s.size, s[i + 0]'h = 40) := fun h => by
    have := HAT.out 0 (by omega) h
    simp at this
    exact this.symm
  rw [← hn] at hsz ⊢
  clear hs hb hn HAT
  obtain ⟨D, hD⟩ : ∃ D : Nat → Int, D = fun j => dep ((40 :: (M ++ [41])).take j) := ⟨_, rfl⟩
  have HD0 : Hid (D 0 = 0) := by rw [hD]; show dep _ = 0; simp [dep]
  have HD : Hid (D = fun j => dep ((40 :: (M ++ [41])).take j)) := hD
  clear hD
  go_enter Tryz.func12, Tryz.ntmps12
  go_wp2
  go_loopw [5, 6] (fun nv kv W => ∃ j : Nat, j ≤ n + 1 ∧ kv = .int .i64 ((i + j : Nat) : Int) ∧ nv = .int .i64 (D j) ∧ W = w) (fun _ kv _ => s.size - (intOf kv).toNat)
  case atStart => exact ⟨0, by omega, rfl, by rw [HD0.out], rfl⟩
  case round =>
    obtain ⟨j, hj, rfl, rfl, rfl⟩ := hrel
    have hjs : i + j < s.size := by omega
    have hdep : D (j + 1) = D j + step1 (s[i + j]'hjs) := by rw [HD.out]; exact HDEP.out j hj hjs
    have hle : D j ≤ j := by rw [HD.out]; exact (HLE.out j).1
    have hle1 : D (j + 1) ≤ j + 1 := by rw [HD.out]; exact (HLE.out (j + 1)).1
    have hlo : 0 ≤ D j := by
      by_cases h0 : j = 0
      · subst h0; rw [HD0.out]; exact Int.le_refl _
      · have := HPOS.out j (by omega) hj
        rw [HD.out]
        show 0 ≤ dep _
        omega
    obtain ⟨d, hd⟩ : ∃ d, d = D j := ⟨_, rfl⟩
    rw [← hd] at hdep hle hlo ⊢
    by_cases hlast : j = n + 1
    · subst hlast
      have h41 : ((s[i + (n + 1)]'hjs).toNat : Int) = 41 := by rw [HLAST.out hjs]; rfl
      have h40 : (((s[i + (n + 1)]'hjs).toNat : Int) == 40) = false := by rw [beq_eq_false_iff_ne]; omega
      have hd1 : d = 1 := by
        rw [hd, HD.out]; exact HEND.out
      subst hd1
      clear hdep hle hle1 hlo hd
      go_wp2
      go_ret
      exact ⟨rfl, rfl⟩
    · have hj2 : j ≤ n := by omega
      have hpos : 1 ≤ D (j + 1) := by rw [HD.out]; exact HPOS.out (j + 1) (by omega) (by omega)
      by_cases h40 : ((s[i + j]'hjs).toNat : Int) = 40
      · have h41 : (((s[i + j]'hjs).toNat : Int) == 41) = false := by rw [beq_eq_false_iff_ne]; omega
        have hst : step1 (s[i + j]'hjs) = 1 := by
          have : s[i + j]'hjs = 40 := UInt8.toNat_inj.1 (by have : (40 : UInt8).toNat = 40 := rfl; omega)
          rw [this]; rfl
        rw [hst] at hdep
        have HD1 := hid hdep
        have HHD := hid hd
        clear hdep hst hd hpos hle1
        go_wp2
        exact ⟨⟨j + 1, by omega, by go_num, by rw [HD1.out], by first | rfl | trivial⟩, by simp [intOf]; omega⟩
      · have h40b : (((s[i + j]'hjs).toNat : Int) == 40) = false := by rw [beq_eq_false_iff_ne]; exact h40
        by_cases h41 : ((s[i + j]'hjs).toNat : Int) = 41
        · have hst : step1 (s[i + j]'hjs) = -1 := by
            have : s[i + j]'hjs = 41 := UInt8.toNat_inj.1 (by have : (41 : UInt8).toNat = 41 := rfl; omega)
            rw [this]; rfl
          rw [hst] at hdep
          have h2 : 2 ≤ d := by omega
          have hne : (d - 1 == 0) = false := by rw [beq_eq_false_iff_ne]; omega
          have HD1 : Hid (D (j + 1) = d - 1) := by show _ = _; omega
          have HHD := hid hd
          clear hdep hst hd hpos hle1 h40
          go_wp2
          exact ⟨⟨j + 1, by omega, by go_num, by rw [HD1.out], by first | rfl | trivial⟩, by simp [intOf]; omega⟩
        · have h41b : (((s[i + j]'hjs).toNat : Int) == 41) = false := by rw [beq_eq_false_iff_ne]; exact h41
          have hst : step1 (s[i + j]'hjs) = 0 := by
            unfold step1
            rw [if_neg (fun h => h40 (by rw [h]; rfl)), if_neg (fun h => h41 (by rw [h]; rfl))]
          rw [hst] at hdep
          have HD1 : Hid (D (j + 1) = d) := by show _ = _; omega
          have HHD := hid hd
          clear hdep hst hd hpos hle1 h40 h41
          go_wp2
          exact ⟨⟨j + 1, by omega, by go_num, by rw [HD1.out], by first | rfl | trivial⟩, by simp [intOf]; omega⟩

set_option maxHeartbeats 1000000 in
set_option maxRecDepth 100000 in
theorem same_no (l m : List Nd) (sa sb : Option Addr) (ca cb : Nat) (w : World) (hl : l.length ≤ 8796093022208) (ha : NodesAt w sa l) (hb : NodesAt w sb m) (hne : l ≠ m) :
    Calls Tryz.prog 14 #[.slice sa l.length ca, .slice sb m.length cb] w fun e w' => e = .returned (.bool false) ∧ Below w.heap.size w w' := by
  have HA := hid ha
  have HB := hid hb
  have HNE := hid hne
  clear ha hb hne
  by_cases hlm : l.length = m.length
  · obtain ⟨n, hn⟩ : ∃ n, n = m.length := ⟨_, rfl⟩
    have hl2 : l.length = n := by omega
    have HLN := hid hl2
    have HMN := hid hn.symm
    rw [hl2, ← hn]
    rw [hl2] at hl
    clear hlm hl2 hn
    go_enter Tryz.func14, Tryz.ntmps14
    go_wp2
    go_loopw [5] (fun iv W => ∃ k : Nat, k ≤ n ∧ iv = .int .i64 (k : Int) ∧ Hid (Below w.heap.size w W) ∧ Hid (l.take k = m.take k)) (fun iv _ => n - (intOf iv).toNat)
    case atStart => exact ⟨0, Nat.zero_le _, rfl, Below.refl _ _, by simp [Hid]⟩
    case round =>
      obtain ⟨k, hk, rfl, HW, HT⟩ := hrel
      by_cases hlt : k < n
      · have hkl : k < l.length := by rw [HLN.out]; exact hlt
        have hkm : k < m.length := by rw [HMN.out]; exact hlt
        obtain ⟨ga, oa, rfl, hga, a0, a1⟩ := HA.out.at_ k hkl
        obtain ⟨gb, ob, rfl, hgb, b0, b1⟩ := HB.out.at_ k hkm
        have p0 := below_cell HW.out hga a0
        have p1 := below_cell HW.out hga a1
        have q0 := below_cell HW.out hgb b0
        have q1 := below_cell HW.out hgb b1
        clear a0 a1 b0 b1
        obtain ⟨x, hx⟩ : ∃ x, x = l[k].1 := ⟨_, rfl⟩
        obtain ⟨y, hy⟩ : ∃ y, y = l[k].2 := ⟨_, rfl⟩
        obtain ⟨x', hx'⟩ : ∃ x', x' = m[k].1 := ⟨_, rfl⟩
        obtain ⟨y', hy'⟩ : ∃ y', y' = m[k].2 := ⟨_, rfl⟩
        rw [← hx] at p0
        rw [← hy] at p1
        rw [← hx'] at q0
        rw [← hy'] at q1
        by_cases he : x = x' ∧ y = y'
        · have HT2 : Hid (l.take (k + 1) = m.take (k + 1)) := by
            show _ = _
            rw [List.take_add_one, List.take_add_one, HT.out, List.getElem?_eq_getElem hkl, List.getElem?_eq_getElem hkm]
            have : l[k] = m[k] := Prod.ext (by rw [← hx, ← hx', he.1]) (by rw [← hy, ← hy', he.2])
            rw [this]
          clear hx hy hx' hy'
          obtain ⟨rfl, rfl⟩ := he
          go_wp2
          go_quiet (fail)
          go_wp2
          exact ⟨⟨k + 1, hlt, by go_num, below_drewN HW.out _, HT2.out⟩, by simp [intOf]; omega⟩
        · clear hx hy hx' hy'
          by_cases hxx : x = x'
          · subst hxx
            have hyy : ¬ y = y' := fun e => he ⟨rfl, e⟩
            have hyb : (y == y') = false := by rw [beq_eq_false_iff_ne]; exact hyy
            clear he
            go_wp2
            go_quiet (fail)
            go_wp2
            go_ret
            exact ⟨rfl, below_drewN HW.out _⟩
          · have hxb : (x == x') = false := by rw [beq_eq_false_iff_ne]; exact hxx
            clear he
            go_wp2
            go_quiet (fail)
            go_wp2
            go_ret
            exact ⟨rfl, below_drewN HW.out _⟩
      · exfalso
        obtain rfl : k = n := by omega
        apply HNE.out
        have := HT.out
        rwa [List.take_of_length_le (by rw [HLN.out]; exact Nat.le_refl _), List.take_of_length_le (by rw [HMN.out]; exact Nat.le_refl _)] at this
  · have hd : ((l.length : Int) != (m.length : Int)) = true := by simp; omega
    go_enter Tryz.func14, Tryz.ntmps14
    go_wp2
    go_ret
    exact ⟨rfl, Below.refl _ _⟩
end Go.Proofs.YtdkboifpdodonabGreatDoor.Doc
/-
  FormulaSpells: spelling.
-/
namespace Go.Proofs.YtdkboifpdodonabGreatDoor.Doc
open Go.RowKit Go.Deep PureCnf PureForm
set_option maxRecDepth 100000

theorem extract_list (s : ByteArray) (i j : Nat) : (s.extract i j).data.toList = (s.data.toList.drop i).take (j - i) := by
  rw [ByteArray.data_extract, Array.toList_extract]
theorem extract_str (s : ByteArray) (i j : Nat) : s.extract i j = ⟨((s.data.toList.take j).drop i).toArray⟩ := by
  apply ByteArray.ext
  apply Array.ext'
  rw [extract_list, List.drop_take]


end Go.Proofs.YtdkboifpdodonabGreatDoor.Doc
/-
  A fault's number is never 0: plain mathematics.
-/
namespace PureForm
open PureCnf Go.Lib

theorem step_codeF {s : PS} {t : Tok} {c : Nat} (ht : t.kind = 1 → t.n ≠ 0) (h : stepP s t = .error c) : c ≠ 0 := by
  have op : ∀ (w : Wt) (d n : Nat), opensP s w d n = .error c → c ≠ 0 := by
    intro w d n h
    unfold opensP at h
    split at h
    · cases h; decide
    · split at h
      · cases h; decide
      · cases h
  unfold stepP at h
  split at h
  · next hk => cases h; exact ht hk
  · split at h
    · split at h
      · split at h
        · cases h; decide
        · cases h
      · split at h
        · cases h
        · split at h
          · exact op _ _ _ h
          · split at h
            · exact op _ _ _ h
            · split at h
              · exact op _ _ _ h
              · cases h; decide
    · split at h
      · split at h
        · cases h
        · cases h; decide
      · split at h
        · split at h
          · exact op _ _ _ h
          · cases h; decide
        · split at h
          · split at h
            · cases h
            · split at h
              · cases h
              · cases h; decide
          · split at h
            · split at h
              · cases h; decide
              · cases h
            · split at h
              · unfold closesP at h
                split at h
                · split at h
                  · cases h
                  · split at h
                    · cases h
                    · cases h; decide
                · cases h; decide
              · split at h
                · unfold commaP at h
                  split at h
                  · split at h
                    · cases h
                    · cases h; decide
                  · cases h; decide
                · split at h
                  · unfold endsP at h
                    split at h
                    · cases h; decide
                    · cases h
                  · cases h; decide
theorem run_codeF : ∀ (ts : List Tok) (s : PS) (c a : Nat), (∀ t ∈ ts, t.kind = 1 → t.n ≠ 0) → runP s ts = .error (c, a) → c ≠ 0 := by
  intro ts
  induction ts with
  | nil => intro s c a _ h; cases h; decide
  | cons t r ih =>
    intro s c a ht h
    rw [runP] at h
    split at h
    · next e hs =>
      cases h
      exact step_codeF (ht t (List.mem_cons_self ..)) hs
    · next s' _ => exact ih s' c a (fun u hu => ht u (List.mem_cons_of_mem _ hu)) h
    · cases h
theorem toks_badF (l : List UInt8) : ∀ (d i : Nat), l.length - i = d → ∀ t ∈ toksFrom l i, t.kind = 1 → t.n ≠ 0 := by
  intro d
  induction d using Nat.strongRecOn with
  | _ d ih =>
    intro i hd t ht
    rw [toksFrom_eq] at ht
    split at ht
    · rcases List.mem_cons.1 ht with rfl | h'
      · exact (next_ok l i).bad
      · exact ih (l.length - (nextT l i).end_) (by omega) _ rfl t h'
    · simp at ht
      subst ht
      exact (next_ok l i).bad
theorem parse_codeF {l : List UInt8} {f : Nat × Option Nat} (h : parseF l = .error f) : f.1 ≠ 0 := by
  unfold parseF at h
  split at h
  · cases h; decide
  · split at h
    · next e a hr =>
      cases h
      exact run_codeF _ _ _ _ (toks_badF l _ 0 rfl) hr
    · cases h

end PureForm
/-
  FormulaFewest: the law over contracts of the program's Parse and Print.
-/
namespace Go.Proofs.YtdkboifpdodonabGreatDoor.Doc
open Go.RowKit Go.Deep PureCnf PureForm
set_option maxRecDepth 100000

theorem print_len {f : List Nd} {T : List UInt8} (hp : printF f = .ok T) : T.length ≤ 1048576 := by
  unfold printF at hp
  split at hp
  · split at hp
    · split at hp
      · cases hp; assumption
      · cases hp
    · cases hp
  · cases hp

set_option maxHeartbeats 1000000 in
set_option maxRecDepth 100000 in
theorem fewest_law {K : World → Prop} (hP : ParseC K 13) (hR : PrintK K 11) (f : List Nd) (sa : Option Addr) (ca : Nat) (w : World) (hk : K w) (hn : NodesAt w sa f) (hl : f.length ≤ 8796093022208) :
    Calls Tryz.prog 3 #[.slice sa f.length ca] w fun e w' => e = .returned (.bool true) ∧ Below w.heap.size w w' := by
  have HA := hid (alive_any hP hR w hk)
  cases hp : printF f with
  | error n =>
    have H1 : Hid (∀ (W : World), Below w.heap.size w W → Calls Tryz.prog 10 #[.slice sa f.length ca] W fun e w' => e = .returned (.tuple #[.string ⟨#[]⟩, .int .i64 (n : Int)]) ∧ Below W.heap.size W w') := fun W hW => by
      have := print_any f sa ca W (hn.below hW) (by omega)
      rw [hp] at this
      exact this
    have H2 : Hid (∀ (W : World), Below w.heap.size w W → Calls Tryz.prog 11 #[.slice sa f.length ca] W fun e w' => e = .returned (.tuple #[.string ⟨#[]⟩, .int .i64 (n : Int)]) ∧ Below W.heap.size W w') := fun W hW => by
      have := hR f sa ca W (hP.keep _ _ hk hW) (hn.below hW) (by omega)
      rw [hp] at this
      exact this
    clear hP hR hk hn hp
    go_enter Tryz.func3, Tryz.ntmps3
    go_wp2_with (first
      | (have q := B2; clear q; go_at_call 11; refine (H2.out _ B2.out).mono ?_; rintro e w3 ⟨rfl, b3⟩; have B3 := hid (B2.out.trans (b3.mono B2.out.size)); clear b3)
      | (have q := B1; clear q; go_at_call 10; refine (H1.out _ B1.out).mono ?_; rintro e w2 ⟨rfl, b2⟩; have B2 := hid (B1.out.trans (b2.mono B1.out.size)); clear b2)
      | (go_at_call 9; refine HA.out.mono ?_; rintro e w1 ⟨rfl, b1⟩; have B1 := hid b1; clear b1))
    go_loopw [8] (fun iv W => iv = .int .i64 0 ∧ W = w3) (fun _ _ => 0)
    case atStart => exact ⟨rfl, rfl⟩
    case round =>
      obtain ⟨rfl, rfl⟩ := hrel
      go_wp2
      go_ret
      exact ⟨rfl, B3.out⟩
  | ok T =>
    have hT := print_len hp
    have H1 := hid (fun (W : World) (hW : Below w.heap.size w W) => print_ok print_any hp sa ca W (hn.below hW) (by omega))
    have H2 := hid (fun (W : World) (hW : Below w.heap.size w W) => print_okK hR hp sa ca W (hP.keep _ _ hk hW) (hn.below hW) (by omega))
    have H3 := hid (fun (W : World) (t : List UInt8) (ht : t.length ≤ 1048576) (hW : Below w.heap.size w W) => hP.call ⟨t.toArray⟩ W (hP.keep _ _ hk hW) (by show t.toArray.size ≤ _; simp; omega))
    have HN := hid hn
    have HF : Hid (∀ i, T[i]? = some 40 → (i = 0 ∨ T[i - 1]? ≠ some 101) → ∃ pre M suf, T = pre ++ 40 :: (M ++ 41 :: suf) ∧ pre.length = i ∧ Bal M ∧ parseF (pre ++ (M ++ suf)) ≠ .ok f) := fun i h1 h2 => fewest hp h1 h2
    obtain ⟨s, hs⟩ : ∃ s : ByteArray, s = ⟨T.toArray⟩ := ⟨_, rfl⟩
    have hsz : s.size = T.length := by rw [hs]; show T.toArray.size = _; simp
    have HST : Hid (s.data.toList = T) := by rw [hs]; show T.toArray.toList = T; simp
    have hstr : str T = .string s := by rw [hs]
    rw [hstr] at H1 H2
    have hT2 : s.size ≤ 1048576 := by omega
    have HSZ := hid hsz
    clear hP hR hk hn hp hs hstr hsz hT
    go_enter Tryz.func3, Tryz.ntmps3
    go_wp2_with (first
      | (have q := B2; clear q; go_at_call 11; refine (H2.out _ B2.out).mono ?_; rintro e w3 ⟨rfl, b3⟩; have B3 := hid (B2.out.trans (b3.mono B2.out.size)); clear b3)
      | (have q := B1; clear q; go_at_call 10; refine (H1.out _ B1.out).mono ?_; rintro e w2 ⟨rfl, b2⟩; have B2 := hid (B1.out.trans (b2.mono B1.out.size)); clear b2)
      | (go_at_call 9; refine HA.out.mono ?_; rintro e w1 ⟨rfl, b1⟩; have B1 := hid b1; clear b1))
    go_loopw [8] (fun iv W => ∃ i : Nat, i ≤ s.size ∧ iv = .int .i64 (i : Int) ∧ Hid (Below w.heap.size w W)) (fun iv _ => s.size - (intOf iv).toNat)
    case atStart => exact ⟨0, Nat.zero_le _, rfl, B3.out⟩
    case round =>
      obtain ⟨i, hi, rfl, HW⟩ := hrel
      clear HA H1 H2
      by_cases hlt : i < s.size
      · by_cases h40 : ((s[i].toNat : Int)) = 40
        · by_cases h101 : 0 < i ∧ ∃ h : i - 1 < s.size, ((s[i - 1]'h).toNat : Int) = 101
          · obtain ⟨hi0, hi1, h101⟩ := h101
            go_wp2
            exact ⟨⟨i + 1, hlt, by go_num, HW.out⟩, by simp [intOf]; omega⟩
          · have h1 : T[i]? = some 40 := by
              rw [← HST.out, List.getElem?_eq_getElem (by simpa using hlt)]
              exact congrArg some (UInt8.toNat_inj.1 (by have : (40 : UInt8).toNat = 40 := rfl; show (s[i]).toNat = _; omega))
            have h2 : i = 0 ∨ T[i - 1]? ≠ some 101 := by
              rcases Nat.eq_zero_or_pos i with h | h
              · exact .inl h
              · refine .inr fun h3 => h101 ⟨h, by omega, ?_⟩
                rw [← HST.out, List.getElem?_eq_getElem (by simp; omega)] at h3
                have : s[i - 1] = 101 := Option.some.inj h3
                rw [this]; rfl
            obtain ⟨pre, M, suf, eT, hpre, hbal, hpf⟩ := HF.out i h1 h2
            have HPA := hid (partner_any s pre M suf i wr (by rw [HST.out]; exact eT) hpre hbal (by omega))
            obtain ⟨n, hn⟩ : ∃ n, n = M.length := ⟨_, rfl⟩
            have hlen : s.size = i + n + suf.length + 2 := by
              have := congrArg List.length eT
              simp at this
              have := HSZ.out
              omega
            have x1 : s.extract 0 i = ⟨pre.toArray⟩ := by
              rw [extract_str, HST.out, eT, List.drop_zero, List.take_left' hpre]
            have x2 : s.extract (i + 1) (i + n + 1) = ⟨M.toArray⟩ := by
              rw [extract_str, List.drop_take, HST.out, eT]
              rw [show (pre ++ 40 :: (M ++ 41 :: suf) : List UInt8) = (pre ++ [40]) ++ (M ++ 41 :: suf) by simp, List.drop_left' (by simp; omega), List.take_left' (by omega)]
            have x3 : s.extract (i + n + 1 + 1) s.size = ⟨suf.toArray⟩ := by
              rw [extract_str, List.take_of_length_le (by simp), HST.out, eT]
              rw [show (pre ++ 40 :: (M ++ 41 :: suf) : List UInt8) = (pre ++ (40 :: (M ++ [41]))) ++ suf by simp, List.drop_left' (by simp; omega)]
            have HU : Hid ((s.extract 0 i ++ s.extract (i + 1) (i + n + 1) ++ s.extract (i + n + 1 + 1) s.size).data.toList = pre ++ M ++ suf) := by
              show _ = _
              rw [x1, x2, x3, str_add, str_add]
            have HU0 : Hid (i = 0 → (s.extract 1 (n + 1) ++ s.extract (n + 1 + 1) s.size).data.toList = pre ++ M ++ suf) := fun h => by
              subst h
              have : pre = [] := List.eq_nil_of_length_eq_zero hpre
              simp only [Nat.zero_add] at x2 x3
              rw [x2, x3, str_add, this]
              simp
            have HTL : Hid ((pre ++ M ++ suf).length ≤ 1048576) := by show _ ≤ _; simp; omega
            rw [← List.append_assoc] at hpf
            obtain ⟨t, ht⟩ : ∃ t, t = pre ++ M ++ suf := ⟨_, rfl⟩
            rw [← ht] at HTL hpf HU HU0
            have HRES : Hid (∀ (U : ByteArray), U.data.toList = t → ∀ W, Below w.heap.size w W → Calls Tryz.prog 13 #[.string U] W fun e w' => ((∃ (sb : Option Addr) (m cb : Nat) (c x y : Int), (c == 0) = false ∧ e = .returned (.tuple #[.slice sb m cb, .agg #[.int .i64 c, .int .i64 x, .int .i64 y]])) ∨ (∃ (sb : Option Addr) (cb : Nat) (o : List Nd), e = .returned (.tuple #[.slice sb o.length cb, .agg #[.int .i64 0, .int .i64 0, .int .i64 0]]) ∧ NodesAt w' sb o ∧ f ≠ o)) ∧ Below W.heap.size W w') := fun U hU W hW => by
              have h0 : U = ⟨t.toArray⟩ := by
                apply ByteArray.ext
                apply Array.ext'
                rw [hU]
              subst h0
              refine (H3.out W t HTL.out hW).mono ?_
              rintro e w' ⟨hp, hb⟩
              refine ⟨?_, hb⟩
              unfold ParsedP at hp
              split at hp
              · next g hg =>
                have hg' : parseF t = .error g := by simpa using hg
                have hc := parse_codeF hg'
                left
                unfold faultP at hp
                split at hp
                · exact ⟨none, 0, 0, _, _, _, by rw [beq_eq_false_iff_ne]; omega, hp⟩
                · exact ⟨none, 0, 0, _, _, _, by rw [beq_eq_false_iff_ne]; omega, hp⟩
              · next o ho =>
                have ho' : parseF t = .ok o := by simpa using ho
                obtain ⟨v, he, hown⟩ := hp
                obtain ⟨sb, cb, rfl, hat⟩ := own_nodes hown
                exact .inr ⟨sb, cb, o, he, hat, fun e => hpf (by rw [ho', e])⟩
            rw [← hn] at HPA
            have hsp : i = 0 ∨ (0 < i ∧ ∃ h : i - 1 < s.size, (((s[i - 1]'h).toNat : Int) == 101) = false) := by
              rcases Nat.eq_zero_or_pos i with h | h
              · exact .inl h
              · refine .inr ⟨h, by omega, ?_⟩
                rw [beq_eq_false_iff_ne]
                exact fun e => h101 ⟨h, by omega, e⟩
            clear h101 h1 h2 eT hpre hbal hpf ht hn x1 x2 x3
            have hk2 : i + n + 1 < s.size := by omega
            clear hlen
            rcases hsp with h0 | ⟨hi0, hi1, h101⟩
            · subst h0
              have HUX := hid (HU0.out rfl)
              clear HU HU0
              go_wp2_with (go_at_call 12; refine HPA.out.mono ?_; rintro e w4 ⟨rfl, rfl⟩)
              go_quiet (fail)
              have HB4 := hid (below_drewN HW.out nq)
              obtain ⟨wx, hwx⟩ : ∃ wx, wx = w4.drewN nq := ⟨_, rfl⟩
              rw [← hwx] at HB4 ⊢
              clear hwx HPA
              have HCALL := hid (HRES.out _ HUX.out wx HB4.out)
              clear HUX HRES
              go_wp2_with fail
              refine HCALL.out.mono ?_
              rintro e w5 ⟨⟨sb, m, cb, c, x, y, hc, rfl⟩ | ⟨sb, cb, o, rfl, hat, hfo⟩, b5⟩
              · have B5 := hid (HB4.out.trans (b5.mono HB4.out.size))
                clear b5
                go_wp2
                exact ⟨⟨1, by omega, by go_num, B5.out.alloc B5.out.size _⟩, by simp [intOf]; omega⟩
              · have B5 := hid (HB4.out.trans (b5.mono HB4.out.size))
                have HNO := hid (same_no f o sa sb ca cb (w5.alloc (Obj.cells #[.int .i64 0, .int .i64 0, .int .i64 0] 31)) hl (HN.out.below (B5.out.alloc B5.out.size _)) (hat.below ((Below.refl _ _).alloc (Nat.le_refl _) _)) hfo)
                clear b5 hat hfo
                go_wp2_with (go_at_call 14; refine HNO.out.mono ?_; rintro e w6 ⟨rfl, b6⟩; have B6 : Hid (Below w.heap.size w w6) := (B5.out.alloc B5.out.size _).trans (b6.mono (Nat.le_trans B5.out.size (by simp))); clear b6)
                exact ⟨⟨1, by omega, by go_num, B6.out⟩, by simp [intOf]; omega⟩
            · have HUX := hid HU.out
              clear HU HU0
              go_wp2_with (go_at_call 12; refine HPA.out.mono ?_; rintro e w4 ⟨rfl, rfl⟩)
              go_quiet (fail)
              have HB4 := hid (below_drewN HW.out nq)
              obtain ⟨wx, hwx⟩ : ∃ wx, wx = w4.drewN nq := ⟨_, rfl⟩
              rw [← hwx] at HB4 ⊢
              clear hwx HPA
              have HCALL := hid (HRES.out _ HUX.out wx HB4.out)
              clear HUX HRES
              go_wp2_with fail
              refine HCALL.out.mono ?_
              rintro e w5 ⟨⟨sb, m, cb, c, x, y, hc, rfl⟩ | ⟨sb, cb, o, rfl, hat, hfo⟩, b5⟩
              · have B5 := hid (HB4.out.trans (b5.mono HB4.out.size))
                clear b5
                go_wp2
                exact ⟨⟨i + 1, hlt, by go_num, B5.out.alloc B5.out.size _⟩, by simp [intOf]; omega⟩
              · have B5 := hid (HB4.out.trans (b5.mono HB4.out.size))
                have HNO := hid (same_no f o sa sb ca cb (w5.alloc (Obj.cells #[.int .i64 0, .int .i64 0, .int .i64 0] 31)) hl (HN.out.below (B5.out.alloc B5.out.size _)) (hat.below ((Below.refl _ _).alloc (Nat.le_refl _) _)) hfo)
                clear b5 hat hfo
                go_wp2_with (go_at_call 14; refine HNO.out.mono ?_; rintro e w6 ⟨rfl, b6⟩; have B6 : Hid (Below w.heap.size w w6) := (B5.out.alloc B5.out.size _).trans (b6.mono (Nat.le_trans B5.out.size (by simp))); clear b6)
                exact ⟨⟨i + 1, hlt, by go_num, B6.out⟩, by simp [intOf]; omega⟩
        · have hne : ((s[i].toNat : Int) != 40) = true := by simp; omega
          clear h40
          go_wp2
          exact ⟨⟨i + 1, hlt, by go_num, HW.out⟩, by simp [intOf]; omega⟩
      · obtain rfl : i = s.size := by omega
        go_wp2
        go_ret
        exact ⟨rfl, HW.out⟩
end Go.Proofs.YtdkboifpdodonabGreatDoor.Doc
/-
  FormulaFewest: the row and its card.
-/

namespace Go.Proofs.YtdkboifpdodonabGreatDoor
open Go.ChangeShapes Go.WideShapes Go.ChangeAt Go.RowKit Go.Deep PureCnf PureForm

set_option maxRecDepth 100000 in
theorem formulaFewest_contract (H : Type) (enc : TypeId × Value → H) (W : World) (base : Nat) (args : Array Value) (ds gs : List (DataW H)) (before : List MemPlace)
    (hval : ∀ (j : Nat) t v, Tryz.f3.params[j]? = some t → args[j]? = some v → Value.okWide Tryz.prog W .any base t v)
    (hW : DataW.Whole enc Tryz.prog Tryz.f3.params.toList Rows.formulaFewestSpec.vars false W args.toList ds gs before)
    (hsz0 : (DataW.weightsEach Tryz.prog (Tryz.f3.params.toList ++ (OpenSpec.ofChange Rows.formulaFewestSpec).bare.plain.varTypes Tryz.prog) (ds ++ gs)).all (· ≤ reachBytes) = true) (hL : laidMetH Tryz.prog Rows.formulaFewestRow.laid W) :
    Calls Tryz.prog 3 args W fun e W' => ∃ v, e = .returned v ∧ Rows.formulaFewestSpec.post enc Tryz.prog Tryz.f3 false true false false W args v W' := by
  have hsz := hsz0
  clear hsz0
  have hW' := hW
  obtain ⟨p, q, hA0, hV, rfl, hfz, hnd⟩ := hW
  have hA : DataW.TrodAll enc Tryz.prog W 0 (fun _ => true) true Tryz.f3.params.toList args.toList ds p := hA0
  rw [Tryz.params3] at hA hval hsz
  obtain ⟨v0, vs0, d0, ds0, p0, q0, hargs0, rfl, rfl, h0, r0⟩ := trodAll_cons hA
  obtain ⟨rfl, rfl, rfl⟩ := trodAll_nil r0
  obtain rfl : args = #[v0] := by cases args; simp_all
  obtain ⟨rfl, rfl⟩ := trodVars_none hV
  clear hA0
  simp only [List.append_nil] at hW'
  have hlt : ∀ x ∈ p0, x.block < W.heap.size := fun x hx => by simpa using hW'.lt x (by simpa using hx)
  obtain ⟨sa, ca, l, rfl, hn, _, hsize⟩ := Doc.open_nodes (hval 0 22 v0 rfl rfl) h0
  have hl := hsize (j := 0) hsz rfl rfl
  refine (Doc.fewest_law parseK printK l sa ca W (met hL) hn (by omega)).mono fun e W' ⟨he, hnx⟩ => ?_
  subst he
  refine ⟨_, rfl, _, _, _, [], _, [], hW', ?_, trodAll_mk1 (Below.trod laidOut (by kernel_rfl) (of_decide_eq_true (by kernel_rfl)) h0 hnx hlt), rfl, hnx.frame _, fun h => by cases h⟩
  exact trodAll_mk1 (shut_bool Tryz.underlying4 _)

set_option maxRecDepth 100000 in
theorem formulaFewest_lifted (os : Os) (started : os.Started) (H : Type) (enc : TypeId × Value → H) (F : Stop.Interp) :
    ReturnsInHanded {} Tryz.checked os 3 .any ((OpenSpec.ofChange Rows.formulaFewestSpec).preRow enc Tryz.prog Tryz.f3 Rows.formulaFewestRow.domain false Rows.formulaFewestRow.laid) (((OpenSpec.ofChange Rows.formulaFewestSpec).at F).post enc Tryz.prog Tryz.f3 false true false false) := by
  obtain ⟨lw, hlw⟩ : ∃ lw : World, lw = (fun w0 : World => { w0 with heap := (((((w0.heap.modify 5 fun
      | .cells _ t frozen => .cells #[.int .u8 0, .int .u8 1, .int .u8 28, .int .u8 2, .int .u8 29, .int .u8 14, .int .u8 24, .int .u8 3, .int .u8 30, .int .u8 22, .int .u8 20, .int .u8 15, .int .u8 25, .int .u8 17, .int .u8 4, .int .u8 8, .int .u8 31, .int .u8 27, .int .u8 13, .int .u8 23, .int .u8 21, .int .u8 19, .int .u8 16, .int .u8 7, .int .u8 26, .int .u8 12, .int .u8 18, .int .u8 6, .int .u8 11, .int .u8 5, .int .u8 10, .int .u8 9] t frozen
      | o => o).modify 6 fun
      | .cells _ t frozen => .cells #[.int .u8 0, .int .u8 1, .int .u8 56, .int .u8 2, .int .u8 57, .int .u8 49, .int .u8 28, .int .u8 3, .int .u8 61, .int .u8 58, .int .u8 42, .int .u8 50, .int .u8 38, .int .u8 29, .int .u8 17, .int .u8 4, .int .u8 62, .int .u8 47, .int .u8 59, .int .u8 36, .int .u8 45, .int .u8 43, .int .u8 51, .int .u8 22, .int .u8 53, .int .u8 39, .int .u8 33, .int .u8 30, .int .u8 24, .int .u8 18, .int .u8 12, .int .u8 5, .int .u8 63, .int .u8 55, .int .u8 48, .int .u8 27, .int .u8 60, .int .u8 41, .int .u8 37, .int .u8 16, .int .u8 46, .int .u8 35, .int .u8 44, .int .u8 21, .int .u8 52, .int .u8 32, .int .u8 23, .int .u8 11, .int .u8 54, .int .u8 26, .int .u8 40, .int .u8 15, .int .u8 34, .int .u8 20, .int .u8 31, .int .u8 10, .int .u8 25, .int .u8 14, .int .u8 19, .int .u8 9, .int .u8 13, .int .u8 8, .int .u8 7, .int .u8 6] t frozen
      | o => o).modify 4 fun
      | .cells _ t frozen => .cells #[.int .u64 1, .int .u64 10, .int .u64 100, .int .u64 1000, .int .u64 10000, .int .u64 100000, .int .u64 1000000, .int .u64 10000000, .int .u64 100000000, .int .u64 1000000000, .int .u64 10000000000, .int .u64 100000000000, .int .u64 1000000000000, .int .u64 10000000000000, .int .u64 100000000000000, .int .u64 1000000000000000, .int .u64 10000000000000000, .int .u64 100000000000000000, .int .u64 1000000000000000000, .int .u64 10000000000000000000] t frozen
      | o => o).modify 1 fun
      | .cells _ t frozen => .cells ((List.range 256).map fun c => Value.int .u8 (Lib.firstT c)).toArray t frozen
      | o => o).modify 2 fun
      | .cells _ t frozen => .cells ((List.range 16).flatMap fun i => [Value.int .u8 (Lib.accLo i), Value.int .u8 (Lib.accHi i)]).toArray t frozen
      | o => o) }) (World.holding Tryz.prog os ⟨#[], #[], []⟩) := ⟨_, rfl⟩
  have hos : lw.os = os := by rw [hlw]; rfl
  have hv : (lw.forCall (fun _ _ => 0) ⟨#[], #[.slice none 0 0], []⟩).variablesRefB Tryz.checked.prog = true := by rw [hlw]; kernel_rfl
  have hr : ((lw.forCall (fun _ _ => 0) ⟨#[], #[.slice none 0 0], []⟩).heap.toList.drop Tryz.checked.prog.globals.size).take ((begin Tryz.checked.prog (fun _ _ => 0) default).world.heap.size - Tryz.checked.prog.globals.size) = (begin Tryz.checked.prog (fun _ _ => 0) default).world.heap.toList.drop Tryz.checked.prog.globals.size := by rw [hlw]; kernel_rfl
  have hok : Input.okWideB Tryz.checked.prog (lw.forCall (fun _ _ => 0) ⟨#[], #[.slice none 0 0], []⟩) 3 ⟨#[], #[.slice none 0 0], []⟩ = true := by rw [hlw]; kernel_rfl
  have hx : DataW.whole enc Tryz.prog (lw.forCall (fun _ _ => 0) ⟨#[], #[.slice none 0 0], []⟩).memory Tryz.f3.params.toList Rows.formulaFewestSpec.vars false #[Value.slice none 0 0].toList 8 = some ([.nil], [], []) := by rw [hlw]; kernel_rfl
  have hlm : laidMet Tryz.prog Rows.formulaFewestRow.laid (lw.forCall (fun _ _ => 0) ⟨#[], #[.slice none 0 0], []⟩).memory := by rw [hlw]; exact laidMet_of_run' 8 (by kernel_rfl) (by kernel_rfl)
  clear hlw
  refine returnsInHanded_of_row (C := Tryz.checked) (s := OpenSpec.ofChange Rows.formulaFewestSpec) own started (by kernel_rfl) Tryz.func3
    (witness_row_atRef (enc := enc) (C := Tryz.checked) false lw #[.slice none 0 0] hos hv hr hok
      (OpenSpec.preRow_of_cond 8 hx (by kernel_rfl) (fun k hk => by cases hk) (by kernel_rfl) hlm)) ?_
  intro W base args ds gs before hval hW _ _ hsz hL _ _
  exact formulaFewest_contract H enc W base args ds gs before hval hW hsz hL

theorem formulaFewest_said : Rows.FormulaFewestSaid :=
  OpenClaim.holds_of_cond 3 Tryz.f3 rfl rfl rfl rfl rfl rfl rfl ⟨rfl, rfl, rfl, rfl, rfl⟩ rfl rfl rfl rfl rfl (by kernel_rfl) Tryz.func3 (by kernel_rfl)
    (of_decide_eq_true (by kernel_rfl)) (by unfold Func.isWrapper; first | (rw [if_pos (by decide +kernel)]; kernel_rfl) | (rw [if_neg (by decide +kernel)]; exact ⟨rfl, rfl⟩))
    (fun os started H enc _ F => by rw [OpenClaim.pre_eq_preRow]; exact formulaFewest_lifted os started H enc F)

/-- no parameter wants a stand-in. -/
theorem formulaFewest_plain (f : FuncId) (fn : Func) (hf : Tryz.pinned.checked.prog.funcNamed "strata/stratalaw13.FormulaFewest" = some f) (hfn : Tryz.pinned.checked.prog.funcs[f]? = some fn) :
    true = Tryz.pinned.checked.prog.looks [] ∧ ∀ (j : Nat) t, fn.params[j]? = some t → Tryz.pinned.checked.prog.wantsStandIn t = false := by
  obtain rfl : f = 3 := Option.some.inj ((show Tryz.prog.funcNamed "strata/stratalaw13.FormulaFewest" = some 3 by kernel_rfl).symm.trans hf) |>.symm
  obtain rfl : fn = Tryz.f3 := (Option.some.inj (Tryz.func3.symm.trans hfn)).symm
  refine ⟨by kernel_rfl, fun j t ht => ?_⟩
  rw [Tryz.params3] at ht
  have hm : t = 22 := by
    have := Array.mem_of_getElem? ht
    simpa using this
  subst hm
  exact (show Tryz.prog.wantsStandIn 22 = false by kernel_rfl)

theorem formulaFewest_holds : Rows.FormulaFewestCardSaid :=
  Claim7.holds_tied_plain_at .later [] _ _ _ _ formulaFewest_said (fun _ h => by cases h) (by kernel_rfl) (fun _ h => by cases h) formulaFewest_row_tie rfl ⟨rfl, rfl⟩ (by kernel_rfl) rfl formulaFewest_plain (by kernel_rfl)
#print axioms formulaFewest_holds
end Go.Proofs.YtdkboifpdodonabGreatDoor
