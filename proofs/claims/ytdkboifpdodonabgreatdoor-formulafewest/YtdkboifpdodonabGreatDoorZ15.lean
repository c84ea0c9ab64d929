import Derived.Test.YtdkboifpdodonabGreatDoorZ14
set_option linter.unusedSimpArgs false
/-
  A pair of brackets left out: what is read then is not the formula: plain mathematics.
-/
namespace PureForm
open PureCnf Go.Lib

/-! ### what comes out only grows -/
theorem settleOps_out (op : Nat) (st : List Wt) : ∀ o, ∃ d, (settleOps op st o).2 = o ++ d := by
  induction st with
  | nil => intro o; exact ⟨[], by simp [settleOps]⟩
  | cons w t ih =>
    intro o
    rw [settleOps]
    split
    · obtain ⟨d, e⟩ := ih (o ++ [nodeOf w])
      exact ⟨nodeOf w :: d, by rw [e]; simp⟩
    · exact ⟨[], by simp⟩
theorem settleIn_out (st : List Wt) : ∀ o, ∃ d, (settleIn st o).2 = o ++ d := by
  induction st with
  | nil => intro o; exact ⟨[], by simp [settleIn]⟩
  | cons w t ih =>
    intro o
    rw [settleIn]
    split
    · exact ⟨[], by simp⟩
    · obtain ⟨d, e⟩ := ih (o ++ [nodeOf w])
      exact ⟨nodeOf w :: d, by rw [e]; simp⟩
def outOf : PS ⊕ List Nd → List Nd
  | .inl s => s.out
  | .inr o => o
theorem opensP_out {s : PS} {w : Wt} {d want : Nat} {r : PS ⊕ List Nd} (h : opensP s w d want = .ok r) : outOf r = s.out := by
  unfold opensP at h
  split at h
  · cases h
  · split at h
    · cases h
    · cases h; rfl
theorem stepP_out {s : PS} {t : Tok} {r : PS ⊕ List Nd} (h : stepP s t = .ok r) : ∃ d, outOf r = s.out ++ d := by
  obtain ⟨d1, e1⟩ := settleIn_out s.st s.out
  unfold stepP at h
  split at h
  · cases h
  split at h
  · split at h
    · split at h
      · cases h
      · cases h; exact ⟨_, rfl⟩
    split at h
    · cases h; exact ⟨[], by simp [outOf]⟩
    split at h
    · exact ⟨[], by rw [opensP_out h]; simp⟩
    split at h
    · exact ⟨[], by rw [opensP_out h]; simp⟩
    split at h
    · exact ⟨[], by rw [opensP_out h]; simp⟩
    · cases h
  split at h
  · split at h
    · cases h; exact ⟨[], by simp [outOf]⟩
    · cases h
  split at h
  · split at h
    · exact ⟨[], by rw [opensP_out h]; simp⟩
    · cases h
  split at h
  · split at h
    · cases h; exact ⟨[], by simp [outOf]⟩
    split at h
    · cases h; exact ⟨[], by simp [outOf]⟩
    · cases h
  split at h
  · split at h
    · cases h
    · cases h
      exact settleOps_out _ _ _
  split at h
  · unfold closesP at h
    split at h
    · next w t o he =>
      rw [he] at e1
      split at h
      · cases h; exact ⟨d1, e1⟩
      split at h
      · cases h; exact ⟨d1 ++ [nodeOf w], by simp only [outOf]; simp only at e1; rw [e1, List.append_assoc]⟩
      · cases h
    · cases h
  split at h
  · unfold commaP at h
    split at h
    · next w t o he =>
      rw [he] at e1
      split at h
      · cases h; exact ⟨d1, e1⟩
      · cases h
    · cases h
  split at h
  · unfold endsP at h
    split at h
    · cases h
    · next o he =>
      rw [he] at e1
      cases h; exact ⟨d1, e1⟩
  · cases h
theorem feed_out (ks : List (Nat × Nat)) : ∀ {s s' : PS}, feed s ks = some s' → ∃ d, s'.out = s.out ++ d := by
  induction ks with
  | nil => intro s s' h; simp [feed] at h; subst h; exact ⟨[], by simp⟩
  | cons k r ih =>
    intro s s' h
    rw [feed] at h
    split at h
    · next s1 h1 =>
      obtain ⟨d, e⟩ := stepP_out h1
      obtain ⟨d', e'⟩ := ih h
      exact ⟨d ++ d', by rw [e']; simp only [outOf] at e; rw [e, List.append_assoc]⟩
    · cases h

/-- what came out is no beginning of G. -/
def Off (out G : List Nd) : Prop := ∃ j, j < out.length ∧ j < G.length ∧ out[j]? ≠ G[j]?
theorem Off.app {out G : List Nd} (h : Off out G) (d e : List Nd) : Off (out ++ d) (G ++ e) := by
  obtain ⟨j, h1, h2, h3⟩ := h
  refine ⟨j, by rw [List.length_append]; omega, by rw [List.length_append]; omega, ?_⟩
  rw [List.getElem?_append_left h1, List.getElem?_append_left h2]
  exact h3
theorem off_at (p : List Nd) (x y : Nd) (h : x ≠ y) (d e : List Nd) : Off (p ++ x :: d) (p ++ y :: e) := by
  refine ⟨p.length, by simp, by simp, ?_⟩
  rw [List.getElem?_append_right (Nat.le_refl _), List.getElem?_append_right (Nat.le_refl _)]
  simp only [Nat.sub_self, List.getElem?_cons_zero]
  intro he
  exact h (Option.some.inj he)
theorem Off.ne {out G : List Nd} (h : Off out G) : out ≠ G := by
  rintro rfl
  obtain ⟨j, _, _, h3⟩ := h
  exact h3 rfl
/-- reading these tokens fails, or parts from G. -/
def Fails (s : PS) (ks : List (Nat × Nat)) (G : List Nd) : Prop := ∀ s', feed s ks = some s' → Off s'.out G
theorem Fails.now {s : PS} {a b : List (Nat × Nat)} {G : List Nd} (h : ∀ s1, feed s a = some s1 → Off s1.out G) : Fails s (a ++ b) G := by
  intro s' hs
  rw [feed_append] at hs
  cases ha : feed s a with
  | none => rw [ha] at hs; cases hs
  | some s2 =>
    rw [ha] at hs
    simp only [Option.bind_some] at hs
    obtain ⟨d, e⟩ := feed_out _ hs
    have := (h s2 ha).app d []
    rw [List.append_nil] at this
    rw [e]
    exact this
theorem Fails.more {s : PS} {a : List (Nat × Nat)} {G : List Nd} (h : Fails s a G) (b : List (Nat × Nat)) (H : List Nd) : Fails s (a ++ b) (G ++ H) := by
  refine Fails.now fun s1 h1 => ?_
  have := (h s1 h1).app [] H
  rwa [List.append_nil] at this
theorem Fails.wide {s : PS} {a : List (Nat × Nat)} {G : List Nd} (h : Fails s a G) (H : List Nd) : Fails s a (G ++ H) := by
  have := h.more [] H
  rwa [List.append_nil] at this
theorem Fails.behind {s s1 : PS} {a b : List (Nat × Nat)} {G : List Nd} (h : feed s a = some s1) (hf : Fails s1 b G) : Fails s (a ++ b) G := by
  intro s' hs
  rw [feed_append, h] at hs
  exact hf s' hs
theorem Fails.step {s s1 : PS} {k : Nat × Nat} {b : List (Nat × Nat)} {G : List Nd} (h : stepP s ⟨k.1, k.2, 0, 0⟩ = .ok (.inl s1)) (hf : Fails s1 b G) : Fails s (k :: b) G := by
  intro s' hs
  rw [feed_step h] at hs
  exact hf s' hs

/-! ### up to the first leaf -/
def Lead (i0 : Bool) (i1 : List (Nat × Nat)) : Prop := ∀ C : Bool → List (Nat × Nat) → Prop, (∀ (k n : Nat), ((k = 2 ∨ k = 3)) → C false [(k, n)]) → (∀ (l : List (Nat × Nat)), (C false l) → C false ((8, 0) :: l)) → (∀ (l : List (Nat × Nat)), (C false l) → C false ((4, 0) :: l)) → (∀ (l : List (Nat × Nat)), (C false l) → C false ((6, 131) :: (8, 0) :: l)) → (∀ (q v : Nat) (l : List (Nat × Nat)), (C true l) → C false ((5, q) :: (3, v) :: l)) → (∀ (v : Nat) (l : List (Nat × Nat)), (C true l) → C true ((10, 0) :: (3, v) :: l)) → (∀ (l : List (Nat × Nat)), (C false l) → C true ((11, 0) :: l)) → C i0 i1
theorem Lead.lf {k n : Nat} (h0 : (k = 2 ∨ k = 3)) : Lead false [(k, n)] := fun _ k0 _ _ _ _ _ _ => k0 k n h0
theorem Lead.op {l : List (Nat × Nat)} (h0 : Lead false l) : Lead false ((8, 0) :: l) := fun C k0 k1 k2 k3 k4 k5 k6 => k1 l (h0 C k0 k1 k2 k3 k4 k5 k6)
theorem Lead.no {l : List (Nat × Nat)} (h0 : Lead false l) : Lead false ((4, 0) :: l) := fun C k0 k1 k2 k3 k4 k5 k6 => k2 l (h0 C k0 k1 k2 k3 k4 k5 k6)
theorem Lead.it {l : List (Nat × Nat)} (h0 : Lead false l) : Lead false ((6, 131) :: (8, 0) :: l) := fun C k0 k1 k2 k3 k4 k5 k6 => k3 l (h0 C k0 k1 k2 k3 k4 k5 k6)
theorem Lead.qu {q v : Nat} {l : List (Nat × Nat)} (h0 : Lead true l) : Lead false ((5, q) :: (3, v) :: l) := fun C k0 k1 k2 k3 k4 k5 k6 => k4 q v l (h0 C k0 k1 k2 k3 k4 k5 k6)
theorem Lead.co {v : Nat} {l : List (Nat × Nat)} (h0 : Lead true l) : Lead true ((10, 0) :: (3, v) :: l) := fun C k0 k1 k2 k3 k4 k5 k6 => k5 v l (h0 C k0 k1 k2 k3 k4 k5 k6)
theorem Lead.cl {l : List (Nat × Nat)} (h0 : Lead false l) : Lead true ((11, 0) :: l) := fun C k0 k1 k2 k3 k4 k5 k6 => k6 l (h0 C k0 k1 k2 k3 k4 k5 k6)
theorem Lead.ind {motive : ∀ (i0 : Bool) (i1 : List (Nat × Nat)), Lead i0 i1 → Prop} (lf : ∀ {k n : Nat} (h0 : (k = 2 ∨ k = 3)), motive false [(k, n)] (Lead.lf h0)) (op : ∀ {l : List (Nat × Nat)} (h0 : Lead false l), motive false l h0 → motive false ((8, 0) :: l) (Lead.op h0)) (no : ∀ {l : List (Nat × Nat)} (h0 : Lead false l), motive false l h0 → motive false ((4, 0) :: l) (Lead.no h0)) (it : ∀ {l : List (Nat × Nat)} (h0 : Lead false l), motive false l h0 → motive false ((6, 131) :: (8, 0) :: l) (Lead.it h0)) (qu : ∀ {q v : Nat} {l : List (Nat × Nat)} (h0 : Lead true l), motive true l h0 → motive false ((5, q) :: (3, v) :: l) (Lead.qu h0)) (co : ∀ {v : Nat} {l : List (Nat × Nat)} (h0 : Lead true l), motive true l h0 → motive true ((10, 0) :: (3, v) :: l) (Lead.co h0)) (cl : ∀ {l : List (Nat × Nat)} (h0 : Lead false l), motive false l h0 → motive true ((11, 0) :: l) (Lead.cl h0)) {i0 : Bool} {i1 : List (Nat × Nat)} (h : Lead i0 i1) : motive i0 i1 h := by
  obtain ⟨p, hp⟩ := h (fun i0 i1 => ∃ p : Lead i0 i1, motive i0 i1 p) (fun _ _ h0 => ⟨Lead.lf h0, lf h0⟩) (fun _ ⟨h0, g0⟩ => ⟨Lead.op h0, op h0 g0⟩) (fun _ ⟨h0, g0⟩ => ⟨Lead.no h0, no h0 g0⟩) (fun _ ⟨h0, g0⟩ => ⟨Lead.it h0, it h0 g0⟩) (fun _ _ _ ⟨h0, g0⟩ => ⟨Lead.qu h0, qu h0 g0⟩) (fun _ _ ⟨h0, g0⟩ => ⟨Lead.co h0, co h0 g0⟩) (fun _ ⟨h0, g0⟩ => ⟨Lead.cl h0, cl h0 g0⟩)
  exact hp
theorem opensP_ok {s s1 : PS} {w : Wt} {d want : Nat} (h : opensP s w d want = .ok (.inl s1)) : s1.want = want ∧ s1.out = s.out := by
  unfold opensP at h
  split at h
  · cases h
  · split at h
    · cases h
    · cases h; exact ⟨rfl, rfl⟩
theorem feed_cons {s s' : PS} {k : Nat × Nat} {r : List (Nat × Nat)} (h : feed s (k :: r) = some s') : ∃ s1, stepP s ⟨k.1, k.2, 0, 0⟩ = .ok (.inl s1) ∧ feed s1 r = some s' := by
  rw [feed] at h
  split at h
  · next s1 h1 => exact ⟨s1, h1, h⟩
  · cases h
theorem lead_feed {b : Bool} {l : List (Nat × Nat)} (h : Lead b l) : ∀ {s s' : PS}, s.want = (if b = true then 4 else 0) → feed s l = some s' → ∃ nd : Nd, (nd.1 = 1 ∨ nd.1 = 2) ∧ s'.out = s.out ++ [nd] := by
  induction h using Lead.ind with
  | @lf k n hk =>
    intro s s' hw hf
    obtain ⟨s1, h1, h2⟩ := feed_cons hf
    simp [feed] at h2
    subst h2
    simp only [Bool.false_eq_true, if_false] at hw
    rcases hk with rfl | rfl
    · simp [stepP, hw] at h1
      split at h1
      · cases h1
      · cases h1; exact ⟨_, .inl rfl, rfl⟩
    · simp [stepP, hw] at h1
      split at h1
      · cases h1
      · cases h1; exact ⟨_, .inr rfl, rfl⟩
  | op _ ih =>
    intro s s' hw hf
    obtain ⟨s1, h1, h2⟩ := feed_cons hf
    simp only [Bool.false_eq_true, if_false] at hw
    simp [stepP, hw] at h1
    obtain ⟨w1, o1⟩ := opensP_ok h1
    rw [← o1]
    exact ih (by simpa using w1) h2
  | no _ ih =>
    intro s s' hw hf
    obtain ⟨s1, h1, h2⟩ := feed_cons hf
    simp only [Bool.false_eq_true, if_false] at hw
    simp [stepP, hw] at h1
    obtain ⟨w1, o1⟩ := opensP_ok h1
    rw [← o1]
    exact ih (by simpa using w1) h2
  | it _ ih =>
    intro s s' hw hf
    obtain ⟨s1, h1, h2⟩ := feed_cons hf
    simp only [Bool.false_eq_true, if_false] at hw
    simp [stepP, hw] at h1
    obtain ⟨w1, o1⟩ := opensP_ok h1
    obtain ⟨s2, h3, h4⟩ := feed_cons h2
    simp [stepP, w1] at h3
    subst h3
    have := ih (s := { s1 with want := 0 }) (by simp) h4
    rw [← o1]
    exact this
  | qu _ ih =>
    intro s s' hw hf
    obtain ⟨s1, h1, h2⟩ := feed_cons hf
    simp only [Bool.false_eq_true, if_false] at hw
    simp [stepP, hw] at h1
    subst h1
    obtain ⟨s2, h3, h4⟩ := feed_cons h2
    simp [stepP] at h3
    obtain ⟨w1, o1⟩ := opensP_ok h3
    have := ih (by simpa using w1) h4
    rw [o1] at this
    exact this
  | co _ ih =>
    intro s s' hw hf
    obtain ⟨s1, h1, h2⟩ := feed_cons hf
    simp only [if_true] at hw
    simp [stepP, hw] at h1
    subst h1
    obtain ⟨s2, h3, h4⟩ := feed_cons h2
    simp [stepP] at h3
    obtain ⟨w1, o1⟩ := opensP_ok h3
    have := ih (by simpa using w1) h4
    rw [o1] at this
    exact this
  | cl _ ih =>
    intro s s' hw hf
    obtain ⟨s1, h1, h2⟩ := feed_cons hf
    simp only [if_true] at hw
    simp [stepP, hw] at h1
    subst h1
    have := ih (s := { s with want := 0 }) (by simp) h2
    exact this

/-- an operand's items. -/
def opI (br last : Bool) (a : Tr) : List Item := wrapI (brk br last a.root.1) (a.its 0 (brk br last a.root.1 || last))
theorem its_bi (x : Nd) (a b : Tr) (q : Int) (last : Bool) : (Tr.bi x a b).its q last = sepI q ++ opI (firstB x.1 a.root.1) false a ++ signI x.1 :: opI (secondB x.1 b.root.1) last b := rfl
theorem its_lead (t : Tr) : t.good → (∀ last, ∃ k r, toksOf (t.its 0 last) = k ++ r ∧ Lead false k) ∧ ∀ q, isQ q = true → ∃ k r, toksOf (t.its q true) = k ++ r ∧ Lead true k := by
  have colon : ∀ (t : Tr), (∀ last, ∃ k r, toksOf (t.its 0 last) = k ++ r ∧ Lead false k) → ∀ q, isQ q = true → (¬ ∃ x a, t = .un x a ∧ isQ x.1 = true ∧ x.1 = q) → ∃ k r, toksOf (t.its q true) = k ++ r ∧ Lead true k := by
    intro t h q hq hn
    obtain ⟨k, r, e, hl⟩ := h true
    refine ⟨(11, 0) :: k, r, ?_, .cl hl⟩
    rw [its_q hq hn, toksOf_cons, e]; rfl
  have wrap : ∀ (t : Tr) (br last : Bool), (∀ last, ∃ k r, toksOf (t.its 0 last) = k ++ r ∧ Lead false k) → ∃ k r, toksOf (opI br last t) = k ++ r ∧ Lead false k := by
    intro t br last h
    unfold opI wrapI
    split
    · next hb =>
      obtain ⟨k, r, e, hl⟩ := h (brk br last t.root.1 || last)
      refine ⟨(8, 0) :: k, r ++ [(9, 0)], ?_, .op hl⟩
      rw [List.cons_append, toksOf_cons, toksOf_append, e]
      simp [toksOf, openI, closeI]
    · exact h _
  induction t using Tr.ind with
  | lf x =>
    intro hx
    have h0 : ∀ last, ∃ k r, toksOf ((Tr.lf x).its 0 last) = k ++ r ∧ Lead false k := by
      intro last
      obtain ⟨p, v⟩ := x
      rcases hx with ⟨rfl, _⟩ | ⟨rfl, _⟩
      · refine ⟨[(constI v).2], [], by simp [Tr.its_lf, Tr.its_un, Tr.its_bi, Tr.its_te, sepI, toksOf], ?_⟩
        unfold constI
        split
        · exact .lf (.inl rfl)
        · exact .lf (.inl rfl)
      · exact ⟨[(varI v).2], [], by simp [Tr.its_lf, Tr.its_un, Tr.its_bi, Tr.its_te, sepI, toksOf], .lf (.inr rfl)⟩
    exact ⟨h0, fun q hq => colon _ h0 q hq (by rintro ⟨x, a, e, _⟩; cases e)⟩
  | un x a ih =>
    intro hg0
    obtain ⟨hx, hg⟩ : ((x.1 = 3 ∧ x.2 = 0) ∨ (isQ x.1 = true ∧ 0 ≤ x.2 ∧ x.2 < 65536)) ∧ a.good := hg0
    obtain ⟨i1, i2⟩ := ih hg
    by_cases hi : isQ x.1 = true
    · have hn0 : x.1 ≠ 0 := by simp [isQ] at hi; omega
      obtain ⟨k, r, e, hl⟩ := i2 x.1 hi
      have hqk : (quantI x.1).2.1 = 5 := by unfold quantI; split <;> rfl
      have h0 : ∀ last, ∃ k r, toksOf ((Tr.un x a).its 0 last) = k ++ r ∧ Lead false k := by
        intro last
        refine ⟨(5, (quantI x.1).2.2) :: (3, x.2.toNat) :: k, r, ?_, .qu hl⟩
        (first | rw [Tr.its_un, if_pos hi, if_neg hn0, sepI, if_pos rfl, List.nil_append, toksOf_cons, toksOf_cons, e] | rw [Tr.its_bi, if_pos hi, if_neg hn0, sepI, if_pos rfl, List.nil_append, toksOf_cons, toksOf_cons, e] | rw [Tr.its_te, if_pos hi, if_neg hn0, sepI, if_pos rfl, List.nil_append, toksOf_cons, toksOf_cons, e] | rw [Tr.its_lf, if_pos hi, if_neg hn0, sepI, if_pos rfl, List.nil_append, toksOf_cons, toksOf_cons, e])
        simp [varI, ← hqk]
      refine ⟨h0, fun q hq => ?_⟩
      by_cases hxq : x.1 = q
      · refine ⟨(10, 0) :: (3, x.2.toNat) :: k, r, ?_, .co hl⟩
        (first | rw [Tr.its_un, if_pos hi, if_pos hxq, toksOf_cons, toksOf_cons, ← hxq, e] | rw [Tr.its_bi, if_pos hi, if_pos hxq, toksOf_cons, toksOf_cons, ← hxq, e] | rw [Tr.its_te, if_pos hi, if_pos hxq, toksOf_cons, toksOf_cons, ← hxq, e] | rw [Tr.its_lf, if_pos hi, if_pos hxq, toksOf_cons, toksOf_cons, ← hxq, e])
        rfl
      · exact colon _ h0 q hq (by rintro ⟨x', a', e, _, h⟩; have e1 := congrArg Tr.root e; rw [Tr.root_un, Tr.root_un] at e1; subst e1; exact hxq h)
    · have h0 : ∀ last, ∃ k r, toksOf ((Tr.un x a).its 0 last) = k ++ r ∧ Lead false k := by
        intro last
        obtain ⟨k, r, e, hl⟩ := wrap a (two a.root.1) last i1
        refine ⟨(4, 0) :: k, r, ?_, .no hl⟩
        (first | rw [Tr.its_un, if_neg hi, sepI, if_pos rfl, List.nil_append, toksOf_cons] | rw [Tr.its_bi, if_neg hi, sepI, if_pos rfl, List.nil_append, toksOf_cons] | rw [Tr.its_te, if_neg hi, sepI, if_pos rfl, List.nil_append, toksOf_cons] | rw [Tr.its_lf, if_neg hi, sepI, if_pos rfl, List.nil_append, toksOf_cons])
        show notI.2 :: toksOf (opI (two a.root.1) last a) = _
        rw [e]; rfl
      exact ⟨h0, fun q hq => colon _ h0 q hq (by rintro ⟨x', a', e, h, _⟩; have e1 := congrArg Tr.root e; rw [Tr.root_un, Tr.root_un] at e1; subst e1; exact hi h)⟩
  | bi x a b iha ihb =>
    rintro ⟨_, hga, hgb⟩
    have hga : a.good := hga
    have hgb : b.good := hgb
    have h0 : ∀ last, ∃ k r, toksOf ((Tr.bi x a b).its 0 last) = k ++ r ∧ Lead false k := by
      intro last
      obtain ⟨k, r, e, hl⟩ := wrap a (firstB x.1 a.root.1) false (iha hga).1
      refine ⟨k, r ++ toksOf (signI x.1 :: opI (secondB x.1 b.root.1) last b), ?_, hl⟩
      rw [its_bi, sepI, if_pos rfl, List.nil_append, toksOf_append, e, List.append_assoc]
    exact ⟨h0, fun q hq => colon _ h0 q hq (by rintro ⟨x, a, e, _⟩; cases e)⟩
  | te x a b c iha ihb ihc =>
    rintro ⟨_, hga, hgb, hgc⟩
    have hga : a.good := hga
    have hgb : b.good := hgb
    have hgc : c.good := hgc
    have h0 : ∀ last, ∃ k r, toksOf ((Tr.te x a b c).its 0 last) = k ++ r ∧ Lead false k := by
      intro last
      obtain ⟨k, r, e, hl⟩ := (iha hga).1 true
      refine ⟨(6, 131) :: (8, 0) :: k, r ++ toksOf (commaI :: b.its 0 true ++ commaI :: c.its 0 true ++ [closeI]), ?_, .it hl⟩
      (first | rw [Tr.its_un, sepI, if_pos rfl, List.nil_append] | rw [Tr.its_bi, sepI, if_pos rfl, List.nil_append] | rw [Tr.its_te, sepI, if_pos rfl, List.nil_append] | rw [Tr.its_lf, sepI, if_pos rfl, List.nil_append])
      simp only [List.cons_append, toksOf_cons, toksOf_append, e, List.append_assoc]
      rfl
    exact ⟨h0, fun q hq => colon _ h0 q hq (by rintro ⟨x, a, e, _⟩; cases e)⟩
theorem op_lead (a : Tr) (hg : a.good) (br last : Bool) : ∃ k r, toksOf (opI br last a) = k ++ r ∧ Lead false k := by
  unfold opI wrapI
  split
  · obtain ⟨k, r, e, hl⟩ := (its_lead a hg).1 (brk br last a.root.1 || last)
    refine ⟨(8, 0) :: k, r ++ [(9, 0)], ?_, .op hl⟩
    rw [List.cons_append, toksOf_cons, toksOf_append, e]
    simp [toksOf, openI, closeI]
  · exact (its_lead a hg).1 _
theorem post_head (t : Tr) : t.good → ∃ (nd : Nd) (r : List Nd), t.post = nd :: r ∧ (nd.1 = 1 ∨ nd.1 = 2) := by
  induction t using Tr.ind with
  | lf x => intro h; exact ⟨x, [], rfl, by rcases h with h | h; exact .inl h.1; exact .inr h.1⟩
  | un x a ih => intro h; obtain ⟨nd, r, e, hn⟩ := ih h.2; exact ⟨nd, r ++ [x], by (first | rw [Tr.post_un, e] | rw [Tr.post_bi, e] | rw [Tr.post_te, e] | rw [Tr.post_lf, e]); rfl, hn⟩
  | bi x a b ih _ => intro h; obtain ⟨nd, r, e, hn⟩ := ih h.2.1; exact ⟨nd, r ++ b.post ++ [x], by (first | rw [Tr.post_un, e] | rw [Tr.post_bi, e] | rw [Tr.post_te, e] | rw [Tr.post_lf, e]); rfl, hn⟩
  | te x a b c ih _ _ => intro h; obtain ⟨nd, r, e, hn⟩ := ih h.2.1; exact ⟨nd, r ++ b.post ++ c.post ++ [x], by (first | rw [Tr.post_un, e] | rw [Tr.post_bi, e] | rw [Tr.post_te, e] | rw [Tr.post_lf, e]); rfl, hn⟩
/-- no leaf. -/
def inner (x : Nd) : Prop := x.1 ≠ 1 ∧ x.1 ≠ 2
theorem inner_ne {x y : Nd} (hx : inner x) (hy : y.1 = 1 ∨ y.1 = 2) : x ≠ y := by
  rintro rfl
  rcases hy with h | h
  · exact hx.1 h
  · exact hx.2 h
theorem pend_inner (t : Tr) : t.good → ∀ last, ∀ w ∈ t.pend last, inner (nodeOf w) := by
  induction t using Tr.ind with
  | lf x => intro _ last w hw; simp [Tr.pend_lf, Tr.pend_un, Tr.pend_bi, Tr.pend_te] at hw
  | un x a ih =>
    rintro ⟨hx, ha⟩ last w hw
    have ha : a.good := ha
    (first | rw [Tr.pend_un] at hw | rw [Tr.pend_bi] at hw | rw [Tr.pend_te] at hw | rw [Tr.pend_lf] at hw)
    split at hw
    · next hq =>
      rcases List.mem_append.1 hw with h | h
      · exact ih ha _ _ h
      · simp at h; subst h
        have h45 : x.1 = 4 ∨ x.1 = 5 := by simpa [isQ] using hq
        simp [nodeOf, inner]; omega
    · rcases List.mem_append.1 hw with h | h
      · split at h
        · cases h
        · exact ih ha _ _ h
      · simp at h; subst h; simp [nodeOf, inner]
  | bi x a b _ ih =>
    rintro ⟨⟨hx, _⟩, _, hb⟩ last w hw
    have hb : b.good := hb
    (first | rw [Tr.pend_un] at hw | rw [Tr.pend_bi] at hw | rw [Tr.pend_te] at hw | rw [Tr.pend_lf] at hw)
    rcases List.mem_append.1 hw with h | h
    · split at h
      · cases h
      · exact ih hb _ _ h
    · simp at h; subst h
      simp [two] at hx
      simp [nodeOf, inner]; omega
  | te x a b c => intro _ last w hw; simp [Tr.pend_lf, Tr.pend_un, Tr.pend_bi, Tr.pend_te] at hw
end PureForm
/-
  A pair of brackets left out, on: no tree's tokens with one pair left out are read as the tree: plain mathematics.
-/
namespace PureForm
open PureCnf Go.Lib

theorem settleOps_split (op : Nat) (st : List Wt) (X : List Wt) : (∃ z ∈ X, gives op z = false) → ∀ o, ∃ Y z Y', X = Y ++ z :: Y' ∧ settleOps op (X ++ st) o = (z :: (Y' ++ st), o ++ Y.map nodeOf) := by
  induction X with
  | nil => rintro ⟨z, hz, _⟩; cases hz
  | cons w t ih =>
    rintro ⟨z, hz, hg⟩ o
    rw [List.cons_append, settleOps]
    by_cases hw : gives op w = true
    · rw [if_pos hw]
      rcases List.mem_cons.1 hz with rfl | hz
      · rw [hw] at hg; cases hg
      · obtain ⟨Y, z', Y', e, h⟩ := ih ⟨z, hz, hg⟩ (o ++ [nodeOf w])
        exact ⟨w :: Y, z', Y', by rw [e]; rfl, by rw [h]; simp⟩
    · rw [if_neg hw]
      exact ⟨[], w, t, rfl, by simp⟩
theorem settleOps_app (op : Nat) (st : List Wt) (X : List Wt) : (∀ w ∈ X, gives op w = true) → ∀ o, settleOps op (X ++ st) o = settleOps op st (o ++ X.map nodeOf) := by
  induction X with
  | nil => intro _ o; simp
  | cons w t ih =>
    intro h o
    rw [List.cons_append, settleOps, if_pos (h w (List.mem_cons_self ..)), ih (fun w hw => h w (List.mem_cons_of_mem _ hw))]
    simp

/-- what follows: an operator and an operand. -/
def Next (R : List (Nat × Nat)) : Prop := ∃ (op : Int) (k r : List (Nat × Nat)), R = (7, op.toNat) :: (k ++ r) ∧ two op = true ∧ Lead false k
/-- what waits does not give way to the operator that follows. -/
theorem type_two {X st : List Wt} {o : List Nd} {made qn : Nat} {op : Nat} {k r : List (Nat × Nat)} (hX : ∀ w ∈ X, inner (nodeOf w)) (hz : ∃ z ∈ X, gives op z = false) (hk : Lead false k) :
    Fails ⟨X ++ st, o, made, 1, qn⟩ ((7, op) :: (k ++ r)) (o ++ X.map nodeOf) := by
  intro s' hs
  obtain ⟨s1, h1, h2⟩ := feed_cons hs
  obtain ⟨Y, z, Y', eX, hse⟩ := settleOps_split op st X hz o
  simp [stepP, hse] at h1
  split at h1
  · cases h1
  · cases h1
    revert h2
    refine fun h2 => Fails.now (a := k) (b := r) (G := o ++ X.map nodeOf) (fun s2 h3 => ?_) s' h2
    obtain ⟨nd, hn, ho⟩ := lead_feed hk (by simp) h3
    rw [ho, eX]
    simp only [List.map_append, List.map_cons, List.append_assoc]
    have := off_at (o ++ Y.map nodeOf) nd (nodeOf z) (fun e => inner_ne (hX z (by rw [eX]; simp)) hn e.symm) [] (Y'.map nodeOf)
    simpa using this

theorem sign_tok {o : Int} (h : two o = true) : (signI o).2 = (7, o.toNat) := by rcases two_cases h with h | h | h | h | h <;> simp [signI, h]
theorem holds_no {op : Nat} {st : List Wt} (h : ¬ ∃ w, st.head? = some w ∧ gives op w = true) : holds op st := fun w hw => by
  cases hg : gives op w with
  | false => rfl
  | true => exact absurd ⟨w, hw, hg⟩ h
theorem settle_head {op : Nat} {st : List Wt} {w : Wt} (h : st.head? = some w) (hg : gives op w = true) (o : List Nd) : ∃ d, (settleOps op st o).2 = o ++ nodeOf w :: d := by
  cases st with
  | nil => cases h
  | cons v t =>
    simp at h; subst h
    rw [settleOps, if_pos hg]
    obtain ⟨d, e⟩ := settleOps_out op t (o ++ [nodeOf v])
    exact ⟨d, by rw [e]; simp⟩

/-- what lies below gives way to the operator. -/
theorem type_one (A : Tr) : A.good → two A.root.1 = true → ∀ (last : Bool) (st : List Wt) (w0 : Wt) (o : List Nd) (made qn : Nat) (R : List (Nat × Nat)), st.head? = some w0 → gives A.root.1.toNat w0 = true → inner (nodeOf w0) →
    opnOf st + A.need last ≤ 64 → made + A.post.length ≤ 65536 → Fails ⟨st, o, made, 0, qn⟩ (toksOf (A.its 0 last) ++ R) (o ++ A.post) := by
  induction A using Tr.ind with
  | lf x => intro hg h2; exfalso; rcases hg with ⟨h, _⟩ | ⟨h, _⟩ <;> rw [show (Tr.lf x).root = x from rfl, h] at h2 <;> revert h2 <;> decide
  | un x a _ =>
    intro hg h2
    exfalso
    have h2' : two x.1 = true := h2
    rcases hg.1 with ⟨h, _⟩ | ⟨h, _⟩
    · rw [h] at h2'; revert h2'; decide
    · simp [isQ] at h
      simp [two] at h2'
      omega
  | te x a b c _ _ _ => intro hg h2; exfalso; rw [show (Tr.te x a b c).root = x from rfl, hg.1.1] at h2; revert h2; decide
  | bi x a b iha _ =>
    rintro ⟨⟨hx, hx2⟩, hga, hgb⟩ _ last st w0 o made qn R hst hgv hin hn hm
    have hga : a.good := hga
    have hgb : b.good := hgb
    have hgv' : gives x.1.toNat w0 = true := hgv
    (first | rw [Tr.need_un] at hn | rw [Tr.need_bi] at hn | rw [Tr.need_te] at hn | rw [Tr.need_lf] at hn)
    have hp : (Tr.bi x a b).post.length = a.post.length + b.post.length + 1 := by simp [Tr.post_lf, Tr.post_un, Tr.post_bi, Tr.post_te]; omega
    rw [hp] at hm
    have hG : o ++ (Tr.bi x a b).post = (o ++ a.post) ++ (b.post ++ [x]) := by simp [Tr.post_lf, Tr.post_un, Tr.post_bi, Tr.post_te]
    rw [its_bi, sepI, if_pos rfl, List.nil_append, toksOf_append, toksOf_cons, sign_tok hx, hG]
    -- the operator, behind the first operand
    have fin : ∀ (p : List Wt) (d : List Nd) (m q' : Nat), (∀ w ∈ p, gives x.1.toNat w = true) → d ++ p.map nodeOf = a.post → ∀ r, Fails ⟨p ++ st, o ++ d, m, 1, q'⟩ ((7, x.1.toNat) :: r) ((o ++ a.post) ++ (b.post ++ [x])) := by
      intro p d m q' hpg hd r s' hs
      obtain ⟨s1, h1, h2⟩ := feed_cons hs
      have hse : settleOps x.1.toNat (p ++ st) (o ++ d) = settleOps x.1.toNat st (o ++ a.post) := by rw [settleOps_app _ _ _ hpg, List.append_assoc, hd]
      obtain ⟨e, he⟩ := settle_head hst hgv' (o ++ a.post)
      simp only [stepP] at h1
      rw [hse] at h1
      simp at h1
      split at h1
      · cases h1
      · cases h1
        obtain ⟨d2, e2⟩ := feed_out _ h2
        obtain ⟨nd, rr, ep, hnd⟩ := post_head b hgb
        rw [e2]
        simp only
        rw [he, ep]
        have := off_at (o ++ a.post) (nodeOf w0) nd (inner_ne hin hnd) (e ++ d2) (rr ++ [x])
        simpa using this
    cases hb : brk (firstB x.1 a.root.1) false a.root.1 with
    | true =>
      obtain ⟨q', e⟩ := reads_opnd hga (reads_all a hga).1 (firstB x.1 a.root.1) false st o made qn (by omega) (by omega) (fun h => by rw [hb] at h; cases h)
      rw [hb] at e
      simp only [if_true, Bool.true_or] at e
      have hI : opI (firstB x.1 a.root.1) false a = wrapI true (a.its 0 true) := by unfold opI; rw [hb]; simp
      rw [hI, List.append_assoc]
      exact Fails.behind e (fin [] a.post _ _ (fun w hw => by cases hw) (by simp) _)
    | false =>
      have hI : opI (firstB x.1 a.root.1) false a = a.its 0 false := by unfold opI; rw [hb]; simp [wrapI]
      rw [hb] at hn
      simp only [wrapN, Bool.false_or, if_neg (show ¬ (false = true) by decide)] at hn
      rw [hI, List.append_assoc]
      by_cases hc : two a.root.1 = true ∧ gives a.root.1.toNat w0 = true
      · have := iha hga hc.1 false st w0 o made qn ((7, x.1.toNat) :: toksOf (opI (secondB x.1 b.root.1) last b) ++ R) hst hc.2 hin (by omega) (by omega)
        exact this.wide _
      · obtain ⟨q', e⟩ := (reads_all a hga).1 false st o made qn (by omega) (by omega) (fun h2 => by
          refine holds_no ?_
          rintro ⟨w, hw, hg⟩
          rw [hst] at hw
          cases hw
          exact hc ⟨h2, hg⟩)
        simp [brk] at hb
        exact Fails.behind e (fin (a.pend false) (a.done false) _ _ (pend_gives a hga x.1 hx hb.2 (fun hr => gives_first hx hr hb.1)) (done_pend a hga false) _)

/-! ### one pair left out -/
def opCut (br last : Bool) (a : Tr) (C : Bool → List Item → Prop) (m : List Item) : Prop :=
  if brk br last a.root.1 = true then (m = a.its 0 true ∨ ∃ k, C true k ∧ m = openI :: (k ++ [closeI])) else C last m
def Tr.cut : Tr → Int → Bool → List Item → Prop := Tr.fold (fun _ _ _ _ => False)
  (fun x a i q last l => if isQ x.1 = true then (if x.1 = q then ∃ m, i q true m ∧ l = commaI :: varI x.2 :: m else ∃ m, i x.1 true m ∧ l = sepI q ++ quantI x.1 :: varI x.2 :: m)
    else ∃ m, opCut (two a.root.1) last a (fun b k => i 0 b k) m ∧ l = sepI q ++ notI :: m)
  (fun x a b i j q last l => (∃ m, opCut (firstB x.1 a.root.1) false a (fun b k => i 0 b k) m ∧ l = sepI q ++ m ++ signI x.1 :: opI (secondB x.1 b.root.1) last b) ∨
    (∃ m, opCut (secondB x.1 b.root.1) last b (fun c k => j 0 c k) m ∧ l = sepI q ++ opI (firstB x.1 a.root.1) false a ++ signI x.1 :: m))
  (fun _ a b c i j k q _ l => (∃ m, i 0 true m ∧ l = sepI q ++ iteI :: openI :: m ++ commaI :: b.its 0 true ++ commaI :: c.its 0 true ++ [closeI]) ∨
    (∃ m, j 0 true m ∧ l = sepI q ++ iteI :: openI :: a.its 0 true ++ commaI :: m ++ commaI :: c.its 0 true ++ [closeI]) ∨
    (∃ m, k 0 true m ∧ l = sepI q ++ iteI :: openI :: a.its 0 true ++ commaI :: b.its 0 true ++ commaI :: m ++ [closeI]))
theorem Tr.cut_lf (x : Nd) (q : Int) (last : Bool) (l : List Item) : (Tr.lf x).cut q last l = False := rfl
theorem Tr.cut_un (x : Nd) (a : Tr) (q : Int) (last : Bool) (l : List Item) : (Tr.un x a).cut q last l =
    if isQ x.1 = true then (if x.1 = q then ∃ m, a.cut q true m ∧ l = commaI :: varI x.2 :: m else ∃ m, a.cut x.1 true m ∧ l = sepI q ++ quantI x.1 :: varI x.2 :: m)
    else ∃ m, opCut (two a.root.1) last a (fun b k => a.cut 0 b k) m ∧ l = sepI q ++ notI :: m := rfl
theorem Tr.cut_bi (x : Nd) (a b : Tr) (q : Int) (last : Bool) (l : List Item) : (Tr.bi x a b).cut q last l =
    ((∃ m, opCut (firstB x.1 a.root.1) false a (fun b k => a.cut 0 b k) m ∧ l = sepI q ++ m ++ signI x.1 :: opI (secondB x.1 b.root.1) last b) ∨
    (∃ m, opCut (secondB x.1 b.root.1) last b (fun c k => b.cut 0 c k) m ∧ l = sepI q ++ opI (firstB x.1 a.root.1) false a ++ signI x.1 :: m)) := rfl
theorem Tr.cut_te (x : Nd) (a b c : Tr) (q : Int) (last : Bool) (l : List Item) : (Tr.te x a b c).cut q last l =
    ((∃ m, a.cut 0 true m ∧ l = sepI q ++ iteI :: openI :: m ++ commaI :: b.its 0 true ++ commaI :: c.its 0 true ++ [closeI]) ∨
    (∃ m, b.cut 0 true m ∧ l = sepI q ++ iteI :: openI :: a.its 0 true ++ commaI :: m ++ commaI :: c.its 0 true ++ [closeI]) ∨
    (∃ m, c.cut 0 true m ∧ l = sepI q ++ iteI :: openI :: a.its 0 true ++ commaI :: b.its 0 true ++ commaI :: m ++ [closeI])) := rfl

def Sane (st : List Wt) : Prop := ∀ w ∈ st, inner (nodeOf w)
theorem Sane.push {w : Wt} {st : List Wt} (h : Sane st) (hw : inner (nodeOf w)) : Sane (w :: st) := fun v hv => by
  rcases List.mem_cons.1 hv with rfl | hv
  · exact hw
  · exact h v hv
def Bad (t : Tr) : Prop := ∀ (last : Bool) (st : List Wt) (o : List Nd) (made qn : Nat) (R : List (Nat × Nat)) (l : List Item), Sane st → opnOf st + t.need last ≤ 64 → made + t.post.length ≤ 65536 → fit st t.root.1 → (last = false → Next R) → t.cut 0 last l →
  Fails ⟨st, o, made, 0, qn⟩ (toksOf l ++ R) (o ++ t.post)
def BadQ (t : Tr) : Prop := ∀ (q : Int) (st : List Wt) (o : List Nd) (made : Nat) (R : List (Nat × Nat)) (l : List Item), Sane st → isQ q = true → opnOf st + t.need true ≤ 64 → made + t.post.length ≤ 65536 → fit st t.root.1 → t.cut q true l →
  Fails ⟨st, o, made, 4, q.toNat⟩ (toksOf l ++ R) (o ++ t.post)

/-- an operand with one pair left out. big: the operator right ahead of it gives way to its own, or it does not give way to the one behind it. -/
theorem bad_opnd {a : Tr} (hg : a.good) (ha : Bad a) (br last : Bool) (st : List Wt) (o : List Nd) (made qn : Nat) (R : List (Nat × Nat)) (m : List Item) (hst : Sane st)
    (hn : opnOf st + wrapN (brk br last a.root.1) (a.need (brk br last a.root.1 || last)) ≤ 64) (hm : made + a.post.length ≤ 65536)
    (hf : brk br last a.root.1 = false → fit st a.root.1) (hR : last = false → Next R)
    (hbr : br = true → two a.root.1 = true ∧ ((∃ w, st.head? = some w ∧ gives a.root.1.toNat w = true ∧ inner (nodeOf w)) ∨ (∃ (op : Int) (k r : List (Nat × Nat)), R = (7, op.toNat) :: (k ++ r) ∧ Lead false k ∧ gives op.toNat ⟨5, a.root.1.toNat, 0⟩ = false)))
    (hc : opCut br last a (fun b k => a.cut 0 b k) m) : Fails ⟨st, o, made, 0, qn⟩ (toksOf m ++ R) (o ++ a.post) := by
  unfold opCut at hc
  cases hb : brk br last a.root.1 with
  | false =>
    rw [hb] at hc hn
    simp only [if_neg (show ¬ (false = true) by decide)] at hc
    simp only [wrapN, Bool.false_or, if_neg (show ¬ (false = true) by decide)] at hn
    exact ha last st o made qn R m hst hn hm (hf hb) hR hc
  | true =>
    rw [hb] at hc hn
    simp only [if_true] at hc
    simp only [wrapN, Bool.true_or, if_true] at hn
    rcases hc with rfl | ⟨k, hk, rfl⟩
    · -- the pair itself
      cases hbq : br with
      | true =>
        obtain ⟨h2, h | ⟨op, k, r, rfl, hk, hgo⟩⟩ := hbr hbq
        · obtain ⟨w, hw, hgw, hin⟩ := h
          exact type_one a hg h2 true st w o made qn R hw hgw hin (by omega) hm
        · by_cases hex : ∃ w, st.head? = some w ∧ gives a.root.1.toNat w = true
          · obtain ⟨w, h3, h4⟩ := hex
            exact type_one a hg h2 true st w o made qn _ h3 h4 (hst w (List.mem_of_mem_head? h3)) (by omega) hm
          · obtain ⟨q', e⟩ := (reads_all a hg).1 true st o made qn (by omega) hm (fun _ => holds_no hex)
            refine Fails.behind e ?_
            have hz : ∃ z ∈ a.pend true, gives op.toNat z = false := by
              refine ⟨⟨5, a.root.1.toNat, 0⟩, ?_, hgo⟩
              cases a using Tr.cas with
              | lf x => exfalso; rcases hg with ⟨h, _⟩ | ⟨h, _⟩ <;> rw [show (Tr.lf x).root = x from rfl, h] at h2 <;> revert h2 <;> decide
              | un x a =>
                exfalso
                have h2' : two x.1 = true := h2
                rcases hg.1 with ⟨h, _⟩ | ⟨h, _⟩
                · rw [h] at h2'; revert h2'; decide
                · simp [isQ] at h
                  simp [two] at h2'
                  omega
              | te x a b c => exfalso; rw [show (Tr.te x a b c).root = x from rfl, hg.1.1] at h2; revert h2; decide
              | bi x a b => simp [Tr.pend_lf, Tr.pend_un, Tr.pend_bi, Tr.pend_te, Tr.root_lf, Tr.root_un, Tr.root_bi, Tr.root_te]
            have := type_two (st := st) (o := o ++ a.done true) (made := made + a.post.length) (qn := q') (r := r) (pend_inner a hg true) hz hk
            rw [List.append_assoc, done_pend a hg true] at this
            exact this
      | false =>
        -- a quantifier that is not last
        rw [hbq] at hb
        simp [brk] at hb
        obtain ⟨hq, hl⟩ := hb
        obtain ⟨op, k, r, rfl, ho, hk⟩ := hR hl
        have hnt : two a.root.1 = false := by
          simp [isQ] at hq
          simp [two]; omega
        obtain ⟨q', e⟩ := (reads_all a hg).1 true st o made qn (by omega) hm (fun h => by rw [hnt] at h; cases h)
        refine Fails.behind e ?_
        have hz : ∃ z ∈ a.pend true, gives op.toNat z = false := by
          cases a using Tr.cas with
          | lf x => exfalso; have hq' : x.1 = 4 ∨ x.1 = 5 := of_decide_eq_true hq; rcases hg with ⟨h, _⟩ | ⟨h, _⟩ <;> omega
          | bi x a b => exfalso; have hq' : x.1 = 4 ∨ x.1 = 5 := of_decide_eq_true hq; have := hg.1.1; simp [two] at this; omega
          | te x a b c => exfalso; have hq' : x.1 = 4 ∨ x.1 = 5 := of_decide_eq_true hq; have := hg.1.1; omega
          | un x a =>
            refine ⟨⟨2, x.1.toNat, x.2.toNat⟩, ?_, rfl⟩
            have hq' : isQ x.1 = true := hq
            simp [Tr.pend_lf, Tr.pend_un, Tr.pend_bi, Tr.pend_te, hq']
        have := type_two (st := st) (o := o ++ a.done true) (made := made + a.post.length) (qn := q') (r := r) (pend_inner a hg true) hz hk
        rw [List.append_assoc, done_pend a hg true] at this
        exact this
    · have h1 : stepP ⟨st, o, made, 0, qn⟩ ⟨8, 0, 0, 0⟩ = .ok (.inl ⟨⟨3, 0, 0⟩ :: st, o, made, 0, qn⟩) := by simp [stepP, opensP]; omega
      have h2 := ha true (⟨3, 0, 0⟩ :: st) o made qn ((9, 0) :: R) k (hst.push (by simp [nodeOf, inner])) (by rw [opn_cons _ _ (by simp)]; omega) hm (fit_top _ _ _ (by simp) (by simp)) (fun h => by cases h) hk
      rw [toksOf_cons, toksOf_append, List.cons_append, List.append_assoc]
      exact Fails.step h1 h2

theorem first_holds {op r : Int} (ho : two op = true) (h : firstB op r = true) : two r = true ∧ gives op.toNat ⟨5, r.toNat, 0⟩ = false := by
  have hr : two r = true := by unfold firstB at h; simp only [Bool.and_eq_true] at h; exact h.1
  refine ⟨hr, ?_⟩
  rcases two_cases ho with rfl | rfl | rfl | rfl | rfl <;> rcases two_cases hr with rfl | rfl | rfl | rfl | rfl <;> first | rfl | (exact absurd h (by decide))
theorem second_gives {op r : Int} (ho : two op = true) (h : secondB op r = true) : two r = true ∧ gives r.toNat ⟨5, op.toNat, 0⟩ = true := by
  have hr : two r = true := by unfold secondB at h; simp only [Bool.and_eq_true] at h; exact h.1
  refine ⟨hr, ?_⟩
  rcases two_cases ho with rfl | rfl | rfl | rfl | rfl <;> rcases two_cases hr with rfl | rfl | rfl | rfl | rfl <;> first | rfl | (exact absurd h (by decide))

theorem badQ_of {t : Tr} (h : Bad t) (hcut : ∀ q l, isQ q = true → t.cut q true l → ∃ m, t.cut 0 true m ∧ l = colonI :: m) : BadQ t := by
  intro q st o made R l hst hq h1 h2 h3 hc
  obtain ⟨m, hm, rfl⟩ := hcut q l hq hc
  rw [toksOf_cons, List.cons_append]
  refine Fails.step (s1 := ⟨st, o, made, 0, q.toNat⟩) (by simp [stepP, colonI]) ?_
  exact h true st o made q.toNat R m hst h1 h2 h3 (fun e => by cases e) hm
theorem sep_q {q : Int} (hq : isQ q = true) : sepI q = [colonI] := by
  have h0 : q ≠ 0 := by simp [isQ] at hq; omega
  simp [sepI, h0]

theorem bad_all (t : Tr) : t.good → Bad t ∧ BadQ t := by
  induction t using Tr.ind with
  | lf x => intro _; exact ⟨fun _ _ _ _ _ _ _ _ _ _ _ _ h => h.elim, fun _ _ _ _ _ _ _ _ _ _ _ h => h.elim⟩
  | un x a ih =>
    intro hg0
    obtain ⟨hx, hg⟩ : ((x.1 = 3 ∧ x.2 = 0) ∨ (isQ x.1 = true ∧ 0 ≤ x.2 ∧ x.2 < 65536)) ∧ a.good := hg0
    obtain ⟨i1, i2⟩ := ih hg
    have hp : (Tr.un x a).post.length = a.post.length + 1 := by simp [Tr.post_lf, Tr.post_un, Tr.post_bi, Tr.post_te]
    by_cases hq : isQ x.1 = true
    · have hn0 : x.1 ≠ 0 := by simp [isQ] at hq; omega
      have hne : ∀ last, (Tr.un x a).need last = a.need true + 1 := fun last => by simp [Tr.need_lf, Tr.need_un, Tr.need_bi, Tr.need_te, hq]
      have hv : ∀ (st : List Wt) (o : List Nd) (made : Nat) (R : List (Nat × Nat)) (m : List Item), Sane st → opnOf st + (a.need true + 1) ≤ 64 → made + (a.post.length + 1) ≤ 65536 → a.cut x.1 true m → Fails ⟨st, o, made, 3, x.1.toNat⟩ ((varI x.2).2 :: (toksOf m ++ R)) (o ++ (Tr.un x a).post) := by
        intro st o made R m hst h1 h2 hc
        refine Fails.step (s1 := ⟨⟨2, x.1.toNat, x.2.toNat⟩ :: st, o, made + 1, 4, x.1.toNat⟩) ?_ ?_
        · simp [stepP, varI, opensP]
          rw [if_neg (by omega), if_neg (by omega)]
        · have := i2 x.1 (⟨2, x.1.toNat, x.2.toNat⟩ :: st) o (made + 1) R m (hst.push (by have h45 : x.1 = 4 ∨ x.1 = 5 := of_decide_eq_true hq; simp [nodeOf, inner]; omega)) hq (by rw [opn_cons _ _ (by simp)]; omega) (by omega) (fit_top _ _ _ (by simp) (by simp)) hc
          have := this.wide [x]
          rw [List.append_assoc] at this
          exact this
      have h : Bad (.un x a) := by
        intro last st o made qn R l hst h1 h2 _ _ hc
        rw [hne] at h1
        rw [hp] at h2
        (first | rw [Tr.cut_un, if_pos hq, if_neg hn0, sepI, if_pos rfl] at hc | rw [Tr.cut_bi, if_pos hq, if_neg hn0, sepI, if_pos rfl] at hc | rw [Tr.cut_te, if_pos hq, if_neg hn0, sepI, if_pos rfl] at hc | rw [Tr.cut_lf, if_pos hq, if_neg hn0, sepI, if_pos rfl] at hc)
        obtain ⟨m, hm, rfl⟩ := hc
        rw [List.nil_append, toksOf_cons, toksOf_cons, List.cons_append, List.cons_append]
        refine Fails.step (s1 := ⟨st, o, made, 3, x.1.toNat⟩) ?_ (hv st o made R m hst h1 h2 hm)
        have h45 : x.1 = 4 ∨ x.1 = 5 := by simpa [isQ] using hq
        rcases h45 with h | h <;> simp [stepP, quantI, h]
      refine ⟨h, ?_⟩
      intro q st o made R l hst hq' h1 h2 h3 hc
      by_cases hxq : x.1 = q
      · subst hxq
        rw [hne] at h1
        rw [hp] at h2
        (first | rw [Tr.cut_un, if_pos hq, if_pos rfl] at hc | rw [Tr.cut_bi, if_pos hq, if_pos rfl] at hc | rw [Tr.cut_te, if_pos hq, if_pos rfl] at hc | rw [Tr.cut_lf, if_pos hq, if_pos rfl] at hc)
        obtain ⟨m, hm, rfl⟩ := hc
        rw [toksOf_cons, toksOf_cons, List.cons_append, List.cons_append]
        exact Fails.step (s1 := ⟨st, o, made, 3, x.1.toNat⟩) (by simp [stepP, commaI]) (hv st o made R m hst h1 h2 hm)
      · (first | rw [Tr.cut_un, if_pos hq, if_neg hxq, sep_q hq'] at hc | rw [Tr.cut_bi, if_pos hq, if_neg hxq, sep_q hq'] at hc | rw [Tr.cut_te, if_pos hq, if_neg hxq, sep_q hq'] at hc | rw [Tr.cut_lf, if_pos hq, if_neg hxq, sep_q hq'] at hc)
        obtain ⟨m, hm, rfl⟩ := hc
        rw [List.cons_append, toksOf_cons, List.cons_append]
        refine Fails.step (s1 := ⟨st, o, made, 0, q.toNat⟩) (by simp [stepP, colonI]) ?_
        refine h true st o made q.toNat R _ hst h1 h2 h3 (fun e => by cases e) ?_
        (first | rw [Tr.cut_un, if_pos hq, if_neg hn0, sepI, if_pos rfl] | rw [Tr.cut_bi, if_pos hq, if_neg hn0, sepI, if_pos rfl] | rw [Tr.cut_te, if_pos hq, if_neg hn0, sepI, if_pos rfl] | rw [Tr.cut_lf, if_pos hq, if_neg hn0, sepI, if_pos rfl])
        exact ⟨m, hm, rfl⟩
    · have h : Bad (.un x a) := by
        intro last st o made qn R l hst h1 h2 _ hR hc
        (first | rw [Tr.need_un, if_neg hq] at h1 | rw [Tr.need_bi, if_neg hq] at h1 | rw [Tr.need_te, if_neg hq] at h1 | rw [Tr.need_lf, if_neg hq] at h1)
        rw [hp] at h2
        (first | rw [Tr.cut_un, if_neg hq, sepI, if_pos rfl] at hc | rw [Tr.cut_bi, if_neg hq, sepI, if_pos rfl] at hc | rw [Tr.cut_te, if_neg hq, sepI, if_pos rfl] at hc | rw [Tr.cut_lf, if_neg hq, sepI, if_pos rfl] at hc)
        obtain ⟨m, hm, rfl⟩ := hc
        rw [List.nil_append, toksOf_cons, List.cons_append]
        refine Fails.step (s1 := ⟨⟨1, 0, 0⟩ :: st, o, made + 1, 0, qn⟩) ?_ ?_
        · simp [stepP, notI, opensP]
          rw [if_neg (by omega), if_neg (by omega)]
        · have := bad_opnd hg i1 (two a.root.1) last (⟨1, 0, 0⟩ :: st) o (made + 1) qn R m (hst.push (by simp [nodeOf, inner])) (by rw [opn_cons _ _ (by simp)]; omega) (by omega) (fun hb => by
            have hb' : two a.root.1 = false := by simp [brk] at hb; exact hb.1
            intro e; rw [hb'] at e; cases e) hR (fun hb => ⟨hb, .inl ⟨⟨1, 0, 0⟩, rfl, rfl, by simp [nodeOf, inner]⟩⟩) hm
          have := this.wide [x]
          rw [List.append_assoc] at this
          exact this
      refine ⟨h, badQ_of h ?_⟩
      intro q l hq' hc
      (first | rw [Tr.cut_un, if_neg hq, sep_q hq'] at hc | rw [Tr.cut_bi, if_neg hq, sep_q hq'] at hc | rw [Tr.cut_te, if_neg hq, sep_q hq'] at hc | rw [Tr.cut_lf, if_neg hq, sep_q hq'] at hc)
      obtain ⟨m, hm, rfl⟩ := hc
      refine ⟨notI :: m, ?_, rfl⟩
      (first | rw [Tr.cut_un, if_neg hq, sepI, if_pos rfl] | rw [Tr.cut_bi, if_neg hq, sepI, if_pos rfl] | rw [Tr.cut_te, if_neg hq, sepI, if_pos rfl] | rw [Tr.cut_lf, if_neg hq, sepI, if_pos rfl])
      exact ⟨m, hm, rfl⟩
  | bi x a b iha ihb =>
    intro hg0
    obtain ⟨⟨hx, hx2⟩, hga, hgb⟩ : (two x.1 = true ∧ x.2 = 0) ∧ a.good ∧ b.good := hg0
    obtain ⟨ia, _⟩ := iha hga
    obtain ⟨ib, _⟩ := ihb hgb
    have hin5 : inner (nodeOf ⟨5, x.1.toNat, 0⟩) := by simp [two] at hx; simp [nodeOf, inner]; omega
    have h : Bad (.bi x a b) := by
      intro last st o made qn R l hst h1 h2 h3 hR hc
      have h3' : holds x.1.toNat st := h3 hx
      (first | rw [Tr.need_un] at h1 | rw [Tr.need_bi] at h1 | rw [Tr.need_te] at h1 | rw [Tr.need_lf] at h1)
      have hp : (Tr.bi x a b).post.length = a.post.length + b.post.length + 1 := by simp [Tr.post_lf, Tr.post_un, Tr.post_bi, Tr.post_te]; omega
      rw [hp] at h2
      have hfa : brk (firstB x.1 a.root.1) false a.root.1 = false → fit st a.root.1 := fun hb => by
        have hb' : firstB x.1 a.root.1 = false := by simp [brk] at hb; exact hb.1
        intro hr w hw
        exact keeps_first hx hr hb' w (h3' w hw)
      (first | rw [Tr.cut_un, sepI, if_pos rfl] at hc | rw [Tr.cut_bi, sepI, if_pos rfl] at hc | rw [Tr.cut_te, sepI, if_pos rfl] at hc | rw [Tr.cut_lf, sepI, if_pos rfl] at hc)
      rcases hc with ⟨m, hm, rfl⟩ | ⟨m, hm, rfl⟩
      · rw [List.nil_append, toksOf_append, toksOf_cons, sign_tok hx, List.append_assoc, List.cons_append]
        obtain ⟨k, r, ek, hk⟩ := op_lead b hgb (secondB x.1 b.root.1) last
        rw [ek]
        have := bad_opnd hga ia (firstB x.1 a.root.1) false st o made qn ((7, x.1.toNat) :: ((k ++ r) ++ R)) m hst (by omega) (by omega) hfa (fun _ => ⟨x.1, k, r ++ R, by simp, hx, hk⟩) (fun hb => by
          obtain ⟨g1, g2⟩ := first_holds hx hb
          exact ⟨g1, .inr ⟨x.1, k, r ++ R, by simp, hk, g2⟩⟩) hm
        have := this.wide (b.post ++ [x])
        simpa [Tr.post_lf, Tr.post_un, Tr.post_bi, Tr.post_te] using this
      · rw [List.nil_append, toksOf_append, toksOf_cons, sign_tok hx, List.append_assoc, List.cons_append]
        obtain ⟨qa, ea⟩ := reads_opnd hga (reads_all a hga).1 (firstB x.1 a.root.1) false st o made qn (by omega) (by omega) hfa
        refine Fails.behind ea ?_
        refine Fails.step (s1 := ⟨⟨5, x.1.toNat, 0⟩ :: st, o ++ a.post, made + a.post.length + 1, 0, qa⟩) ?_ ?_
        · have hset : settleOps x.1.toNat ((if brk (firstB x.1 a.root.1) false a.root.1 = true then [] else a.pend false) ++ st) (o ++ (if brk (firstB x.1 a.root.1) false a.root.1 = true then a.post else a.done false)) = (st, o ++ a.post) := by
            rw [settleOps_pend _ _ _ _ h3']
            · split
              · simp
              · rw [List.append_assoc, done_pend a hga false]
            · split
              · intro w hw; cases hw
              · next hb =>
                have hb' : brk (firstB x.1 a.root.1) false a.root.1 = false := by simpa using hb
                simp [brk] at hb'
                exact pend_gives a hga x.1 hx hb'.2 (fun hr => gives_first hx hr hb'.1)
          simp only [stepP]
          rw [hset]
          simp
          omega
        · have := bad_opnd hgb ib (secondB x.1 b.root.1) last (⟨5, x.1.toNat, 0⟩ :: st) (o ++ a.post) (made + a.post.length + 1) qa R m (hst.push hin5) (by rw [opn_five _ _ rfl]; omega) (by omega) (fun hb => by
            have hb' : secondB x.1 b.root.1 = false := by simp [brk] at hb; exact hb.1
            intro hr w hw
            simp at hw; subst hw
            exact keeps_second hx hr hb') hR (fun hb => by
              obtain ⟨g1, g2⟩ := second_gives hx hb
              exact ⟨g1, .inl ⟨⟨5, x.1.toNat, 0⟩, rfl, g2, hin5⟩⟩) hm
          have := this.wide [x]
          simpa [Tr.post_lf, Tr.post_un, Tr.post_bi, Tr.post_te] using this
    refine ⟨h, badQ_of h ?_⟩
    intro q l hq hc
    (first | rw [Tr.cut_un, sep_q hq] at hc | rw [Tr.cut_bi, sep_q hq] at hc | rw [Tr.cut_te, sep_q hq] at hc | rw [Tr.cut_lf, sep_q hq] at hc)
    rcases hc with ⟨m, hm, rfl⟩ | ⟨m, hm, rfl⟩
    · exact ⟨m ++ signI x.1 :: opI (secondB x.1 b.root.1) true b, .inl ⟨m, hm, by simp [sepI]⟩, by simp⟩
    · exact ⟨opI (firstB x.1 a.root.1) false a ++ signI x.1 :: m, .inr ⟨m, hm, by simp [sepI]⟩, by simp⟩
  | te x a b c iha ihb ihc =>
    intro hg0
    obtain ⟨hx, hga, hgb, hgc⟩ : (x.1 = 11 ∧ x.2 = 0) ∧ a.good ∧ b.good ∧ c.good := hg0
    obtain ⟨ia, _⟩ := iha hga
    obtain ⟨ib, _⟩ := ihb hgb
    obtain ⟨ic, _⟩ := ihc hgc
    have h : Bad (.te x a b c) := by
      intro last st o made qn R l hst h1 h2 _ _ hc
      (first | rw [Tr.need_un] at h1 | rw [Tr.need_bi] at h1 | rw [Tr.need_te] at h1 | rw [Tr.need_lf] at h1)
      have hp : (Tr.te x a b c).post.length = a.post.length + b.post.length + c.post.length + 1 := by simp [Tr.post_lf, Tr.post_un, Tr.post_bi, Tr.post_te]; omega
      rw [hp] at h2
      have hin4 : ∀ n, inner (nodeOf ⟨4, 0, n⟩) := fun n => by simp [nodeOf, inner]
      obtain ⟨qa, ea⟩ := (reads_all a hga).1 true (⟨4, 0, 0⟩ :: st) o (made + 1) qn (by rw [opn_cons _ _ (by simp)]; omega) (by omega) (fit_top _ _ _ (by simp) (by simp))
      obtain ⟨qb, eb⟩ := (reads_all b hgb).1 true (⟨4, 0, 1⟩ :: st) (o ++ a.post) (made + 1 + a.post.length) qa (by rw [opn_cons _ _ (by simp)]; omega) (by omega) (fit_top _ _ _ (by simp) (by simp))
      have s0 : stepP ⟨st, o, made, 0, qn⟩ ⟨6, 131, 0, 0⟩ = .ok (.inl ⟨⟨4, 0, 0⟩ :: st, o, made + 1, 2, qn⟩) := by
        simp [stepP, opensP]
        rw [if_neg (by omega), if_neg (by omega)]
      have s1 : stepP ⟨⟨4, 0, 0⟩ :: st, o, made + 1, 2, qn⟩ ⟨8, 0, 0, 0⟩ = .ok (.inl ⟨⟨4, 0, 0⟩ :: st, o, made + 1, 0, qn⟩) := by simp [stepP]
      have s2 : stepP ⟨a.pend true ++ ⟨4, 0, 0⟩ :: st, o ++ a.done true, made + 1 + a.post.length, 1, qa⟩ ⟨10, 0, 0, 0⟩ = .ok (.inl ⟨⟨4, 0, 1⟩ :: st, o ++ a.post, made + 1 + a.post.length, 0, qa⟩) := by
        simp only [stepP, commaP]
        rw [show settleIn (a.pend true ++ ⟨4, 0, 0⟩ :: st) (o ++ a.done true) = (⟨4, 0, 0⟩ :: st, o ++ a.post) by rw [settleIn_pend _ (pend_kinds a true) _ _ (.inr rfl), List.append_assoc, done_pend a hga true]]
        simp
      have s3 : stepP ⟨b.pend true ++ ⟨4, 0, 1⟩ :: st, o ++ a.post ++ b.done true, made + 1 + a.post.length + b.post.length, 1, qb⟩ ⟨10, 0, 0, 0⟩ = .ok (.inl ⟨⟨4, 0, 2⟩ :: st, o ++ a.post ++ b.post, made + 1 + a.post.length + b.post.length, 0, qb⟩) := by
        simp only [stepP, commaP]
        rw [show settleIn (b.pend true ++ ⟨4, 0, 1⟩ :: st) ((o ++ a.post) ++ b.done true) = (⟨4, 0, 1⟩ :: st, (o ++ a.post) ++ b.post) by rw [settleIn_pend _ (pend_kinds b true) _ _ (.inr rfl), List.append_assoc, done_pend b hgb true]]
        simp
      (first | rw [Tr.cut_un, sepI, if_pos rfl] at hc | rw [Tr.cut_bi, sepI, if_pos rfl] at hc | rw [Tr.cut_te, sepI, if_pos rfl] at hc | rw [Tr.cut_lf, sepI, if_pos rfl] at hc)
      rcases hc with ⟨m, hm, rfl⟩ | ⟨m, hm, rfl⟩ | ⟨m, hm, rfl⟩
      · simp only [List.nil_append, List.cons_append, List.append_assoc, toksOf_cons, toksOf_append]
        refine Fails.step s0 (Fails.step s1 ?_)
        have := ia true (⟨4, 0, 0⟩ :: st) o (made + 1) qn (commaI.2 :: (toksOf (b.its 0 true) ++ commaI.2 :: (toksOf (c.its 0 true) ++ (toksOf [closeI] ++ R)))) m (hst.push (hin4 0)) (by rw [opn_cons _ _ (by simp)]; omega) (by omega) (fit_top _ _ _ (by simp) (by simp)) (fun e => by cases e) hm
        have := this.wide (b.post ++ c.post ++ [x])
        rw [show o ++ (Tr.te x a b c).post = (o ++ a.post) ++ (b.post ++ c.post ++ [x]) by simp [Tr.post_lf, Tr.post_un, Tr.post_bi, Tr.post_te]]
        exact this
      · simp only [List.nil_append, List.cons_append, List.append_assoc, toksOf_cons, toksOf_append]
        refine Fails.step s0 (Fails.step s1 (Fails.behind ea (Fails.step s2 ?_)))
        have := ib true (⟨4, 0, 1⟩ :: st) (o ++ a.post) (made + 1 + a.post.length) qa (commaI.2 :: (toksOf (c.its 0 true) ++ (toksOf [closeI] ++ R))) m (hst.push (hin4 1)) (by rw [opn_cons _ _ (by simp)]; omega) (by omega) (fit_top _ _ _ (by simp) (by simp)) (fun e => by cases e) hm
        have := this.wide (c.post ++ [x])
        rw [show o ++ (Tr.te x a b c).post = (o ++ a.post ++ b.post) ++ (c.post ++ [x]) by simp [Tr.post_lf, Tr.post_un, Tr.post_bi, Tr.post_te]]
        exact this
      · simp only [List.nil_append, List.cons_append, List.append_assoc, toksOf_cons, toksOf_append]
        refine Fails.step s0 (Fails.step s1 (Fails.behind ea (Fails.step s2 (Fails.behind eb (Fails.step s3 ?_)))))
        have := ic true (⟨4, 0, 2⟩ :: st) (o ++ a.post ++ b.post) (made + 1 + a.post.length + b.post.length) qb (toksOf [closeI] ++ R) m (hst.push (hin4 2)) (by rw [opn_cons _ _ (by simp)]; omega) (by omega) (fit_top _ _ _ (by simp) (by simp)) (fun e => by cases e) hm
        have := this.wide [x]
        rw [show o ++ (Tr.te x a b c).post = (o ++ a.post ++ b.post ++ c.post) ++ [x] by simp [Tr.post_lf, Tr.post_un, Tr.post_bi, Tr.post_te]]
        exact this
    refine ⟨h, badQ_of h ?_⟩
    intro q l hq hc
    (first | rw [Tr.cut_un, sep_q hq] at hc | rw [Tr.cut_bi, sep_q hq] at hc | rw [Tr.cut_te, sep_q hq] at hc | rw [Tr.cut_lf, sep_q hq] at hc)
    rcases hc with ⟨m, hm, rfl⟩ | ⟨m, hm, rfl⟩ | ⟨m, hm, rfl⟩
    · exact ⟨_, .inl ⟨m, hm, rfl⟩, by simp [sepI]⟩
    · exact ⟨_, .inr (.inl ⟨m, hm, rfl⟩), by simp [sepI]⟩
    · exact ⟨_, .inr (.inr ⟨m, hm, rfl⟩), by simp [sepI]⟩

/-- of a tree's tokens with one pair left out nothing is read, or another formula. -/
theorem cut_fails (t : Tr) (hg : t.good) (hn : t.need true ≤ 64) (hm : t.post.length ≤ 65536) {l : List Item} (hc : t.cut 0 true l) : Fails ⟨[], [], 0, 0, 0⟩ (toksOf l) t.post := by
  have := (bad_all t hg).1 true [] [] 0 0 [] l (fun w hw => by cases hw) (by simpa [opnOf] using hn) (by omega) (fun _ w hw => by simp at hw) (fun e => by cases e) hc
  simpa using this
theorem opensP_inl {s : PS} {w : Wt} {d want : Nat} {o : List Nd} : opensP s w d want ≠ .ok (.inr o) := by
  unfold opensP
  intro h
  split at h
  · cases h
  · split at h <;> cases h
theorem stepP_inr {s : PS} {t : Tok} {o : List Nd} (h : stepP s t = .ok (.inr o)) : t.kind = 0 := by
  apply Classical.byContradiction
  intro h0
  unfold stepP at h
  split at h
  · cases h
  split at h
  · split at h
    · split at h <;> cases h
    split at h
    · cases h
    split at h
    · exact opensP_inl h
    split at h
    · exact opensP_inl h
    split at h
    · exact opensP_inl h
    · cases h
  split at h
  · split at h <;> cases h
  split at h
  · split at h
    · exact opensP_inl h
    · cases h
  split at h
  · split at h
    · cases h
    split at h <;> cases h
  split at h
  · split at h <;> cases h
  split at h
  · unfold closesP at h
    split at h
    · split at h
      · cases h
      split at h <;> cases h
    · cases h
  split at h
  · unfold commaP at h
    split at h
    · split at h <;> cases h
    · cases h
  · cases h
theorem run_back {o : List Nd} : ∀ (ks : List (Nat × Nat)) (ts : List Tok) (s : PS), ts.map kn = ks ++ [(0, 0)] → (∀ k ∈ ks, k.1 ≠ 0) → runP s ts = .ok o → ∃ s', feed s ks = some s' ∧ stepP s' ⟨0, 0, 0, 0⟩ = .ok (.inr o) := by
  intro ks
  induction ks with
  | nil =>
    intro ts s ht _ hr
    cases ts with
    | nil => simp at ht
    | cons t r =>
      simp at ht
      obtain ⟨ht, hr0⟩ := ht
      subst hr0
      rw [runP, stepP_kn s t ⟨0, 0, 0, 0⟩ ht] at hr
      refine ⟨s, rfl, ?_⟩
      split at hr
      · cases hr
      · next s1 h1 => simp [runP] at hr
      · next o1 h1 => cases hr; exact h1
  | cons k r ih =>
    intro ts s ht hk hr
    cases ts with
    | nil => simp at ht
    | cons t ts =>
      simp only [List.map_cons, List.cons_append, List.cons.injEq] at ht
      rw [runP, stepP_kn s t ⟨k.1, k.2, 0, 0⟩ ht.1] at hr
      split at hr
      · cases hr
      · next s1 h1 =>
        obtain ⟨s', h2, h3⟩ := ih ts s1 ht.2 (fun k hk' => hk k (List.mem_cons_of_mem _ hk')) hr
        exact ⟨s', by rw [feed_step h1]; exact h2, h3⟩
      · next o1 h1 =>
        exfalso
        exact hk k (List.mem_cons_self ..) (stepP_inr h1)
end PureForm
/-
  A printed text by atoms, and its respellings: plain mathematics.
-/
namespace PureForm
open PureCnf Go.Lib

def Atom : Type := Option (List UInt8 × Nat × Nat)
def Atom.sp : Atom := none
def Atom.tok (core : List UInt8) (kn : Nat × Nat) : Atom := some (core, kn)


end PureForm
/-
  The text of a tree by atoms: plain mathematics.
-/
namespace PureForm
open PureCnf Go.Lib

/-- the items that a tree's text has. -/
def IsIt (i0 : Item) (i1 : List Atom) : Prop := ∀ C : Item → List Atom → Prop, (C notI [.tok [33] (4, 0)]) → (C openI [.tok [40] (8, 0)]) → (C closeI [.tok [41] (9, 0)]) → (C commaI [.tok [44] (10, 0), .sp]) → (C colonI [.tok [58] (11, 0), .sp]) → (C iteI [.tok [105, 116, 101] (6, 131)]) → (C (constI 1) [.tok [116, 114, 117, 101] (2, 1)]) → (C (constI 0) [.tok [102, 97, 108, 115, 101] (2, 0)]) → (C (quantI 4) [.tok [101, 120, 105, 115, 116, 115] (5, 4), .sp]) → (C (quantI 5) [.tok [102, 111, 114, 97, 108, 108] (5, 5), .sp]) → (C (signI 6) [.sp, .tok [38] (7, 6), .sp]) → (C (signI 7) [.sp, .tok [124] (7, 7), .sp]) → (C (signI 8) [.sp, .tok [94] (7, 8), .sp]) → (C (signI 9) [.sp, .tok [45, 62] (7, 9), .sp]) → (C (signI 10) [.sp, .tok [60, 45, 62] (7, 10), .sp]) → (∀ (n : Int), (0 ≤ n) → (n < 65536) → C (varI n) [.tok (120 :: decDigits n.toNat) (3, n.toNat)]) → C i0 i1
theorem IsIt.neg : IsIt notI [.tok [33] (4, 0)] := fun _ k0 _ _ _ _ _ _ _ _ _ _ _ _ _ _ _ => k0
theorem IsIt.open_ : IsIt openI [.tok [40] (8, 0)] := fun _ _ k1 _ _ _ _ _ _ _ _ _ _ _ _ _ _ => k1
theorem IsIt.close : IsIt closeI [.tok [41] (9, 0)] := fun _ _ _ k2 _ _ _ _ _ _ _ _ _ _ _ _ _ => k2
theorem IsIt.comma : IsIt commaI [.tok [44] (10, 0), .sp] := fun _ _ _ _ k3 _ _ _ _ _ _ _ _ _ _ _ _ => k3
theorem IsIt.colon : IsIt colonI [.tok [58] (11, 0), .sp] := fun _ _ _ _ _ k4 _ _ _ _ _ _ _ _ _ _ _ => k4
theorem IsIt.ite : IsIt iteI [.tok [105, 116, 101] (6, 131)] := fun _ _ _ _ _ _ k5 _ _ _ _ _ _ _ _ _ _ => k5
theorem IsIt.true_ : IsIt (constI 1) [.tok [116, 114, 117, 101] (2, 1)] := fun _ _ _ _ _ _ _ k6 _ _ _ _ _ _ _ _ _ => k6
theorem IsIt.false_ : IsIt (constI 0) [.tok [102, 97, 108, 115, 101] (2, 0)] := fun _ _ _ _ _ _ _ _ k7 _ _ _ _ _ _ _ _ => k7
theorem IsIt.ex : IsIt (quantI 4) [.tok [101, 120, 105, 115, 116, 115] (5, 4), .sp] := fun _ _ _ _ _ _ _ _ _ k8 _ _ _ _ _ _ _ => k8
theorem IsIt.all : IsIt (quantI 5) [.tok [102, 111, 114, 97, 108, 108] (5, 5), .sp] := fun _ _ _ _ _ _ _ _ _ _ k9 _ _ _ _ _ _ => k9
theorem IsIt.and_ : IsIt (signI 6) [.sp, .tok [38] (7, 6), .sp] := fun _ _ _ _ _ _ _ _ _ _ _ k10 _ _ _ _ _ => k10
theorem IsIt.or_ : IsIt (signI 7) [.sp, .tok [124] (7, 7), .sp] := fun _ _ _ _ _ _ _ _ _ _ _ _ k11 _ _ _ _ => k11
theorem IsIt.xor_ : IsIt (signI 8) [.sp, .tok [94] (7, 8), .sp] := fun _ _ _ _ _ _ _ _ _ _ _ _ _ k12 _ _ _ => k12
theorem IsIt.imp : IsIt (signI 9) [.sp, .tok [45, 62] (7, 9), .sp] := fun _ _ _ _ _ _ _ _ _ _ _ _ _ _ k13 _ _ => k13
theorem IsIt.iff_ : IsIt (signI 10) [.sp, .tok [60, 45, 62] (7, 10), .sp] := fun _ _ _ _ _ _ _ _ _ _ _ _ _ _ _ k14 _ => k14
theorem IsIt.var {n : Int} (h0 : 0 ≤ n) (h1 : n < 65536) : IsIt (varI n) [.tok (120 :: decDigits n.toNat) (3, n.toNat)] := fun _ _ _ _ _ _ _ _ _ _ _ _ _ _ _ _ k15 => k15 n h0 h1
theorem IsIt.ind {motive : ∀ (i0 : Item) (i1 : List Atom), IsIt i0 i1 → Prop} (neg : motive notI [.tok [33] (4, 0)] (IsIt.neg)) (open_ : motive openI [.tok [40] (8, 0)] (IsIt.open_)) (close : motive closeI [.tok [41] (9, 0)] (IsIt.close)) (comma : motive commaI [.tok [44] (10, 0), .sp] (IsIt.comma)) (colon : motive colonI [.tok [58] (11, 0), .sp] (IsIt.colon)) (ite : motive iteI [.tok [105, 116, 101] (6, 131)] (IsIt.ite)) (true_ : motive (constI 1) [.tok [116, 114, 117, 101] (2, 1)] (IsIt.true_)) (false_ : motive (constI 0) [.tok [102, 97, 108, 115, 101] (2, 0)] (IsIt.false_)) (ex : motive (quantI 4) [.tok [101, 120, 105, 115, 116, 115] (5, 4), .sp] (IsIt.ex)) (all : motive (quantI 5) [.tok [102, 111, 114, 97, 108, 108] (5, 5), .sp] (IsIt.all)) (and_ : motive (signI 6) [.sp, .tok [38] (7, 6), .sp] (IsIt.and_)) (or_ : motive (signI 7) [.sp, .tok [124] (7, 7), .sp] (IsIt.or_)) (xor_ : motive (signI 8) [.sp, .tok [94] (7, 8), .sp] (IsIt.xor_)) (imp : motive (signI 9) [.sp, .tok [45, 62] (7, 9), .sp] (IsIt.imp)) (iff_ : motive (signI 10) [.sp, .tok [60, 45, 62] (7, 10), .sp] (IsIt.iff_)) (var : ∀ {n : Int} (h0 : 0 ≤ n) (h1 : n < 65536), motive (varI n) [.tok (120 :: decDigits n.toNat) (3, n.toNat)] (IsIt.var h0 h1)) {i0 : Item} {i1 : List Atom} (h : IsIt i0 i1) : motive i0 i1 h := by
  obtain ⟨p, hp⟩ := h (fun i0 i1 => ∃ p : IsIt i0 i1, motive i0 i1 p) ⟨IsIt.neg, neg⟩ ⟨IsIt.open_, open_⟩ ⟨IsIt.close, close⟩ ⟨IsIt.comma, comma⟩ ⟨IsIt.colon, colon⟩ ⟨IsIt.ite, ite⟩ ⟨IsIt.true_, true_⟩ ⟨IsIt.false_, false_⟩ ⟨IsIt.ex, ex⟩ ⟨IsIt.all, all⟩ ⟨IsIt.and_, and_⟩ ⟨IsIt.or_, or_⟩ ⟨IsIt.xor_, xor_⟩ ⟨IsIt.imp, imp⟩ ⟨IsIt.iff_, iff_⟩ (fun _ h0 h1 => ⟨IsIt.var h0 h1, var h0 h1⟩)
  exact hp
/-- a text by items, by atoms. -/
def Its (i0 : List Item) (i1 : List Atom) : Prop := ∀ C : List Item → List Atom → Prop, (C [] []) → (∀ (x : Item) (r : List Item) (a b : List Atom), (IsIt x a) → (C r b) → C (x :: r) (a ++ b)) → C i0 i1
theorem Its.nil : Its [] [] := fun _ k0 _ => k0
theorem Its.cons {x : Item} {r : List Item} {a b : List Atom} (h0 : IsIt x a) (h1 : Its r b) : Its (x :: r) (a ++ b) := fun C k0 k1 => k1 x r a b h0 (h1 C k0 k1)
theorem Its.ind {motive : ∀ (i0 : List Item) (i1 : List Atom), Its i0 i1 → Prop} (nil : motive [] [] (Its.nil)) (cons : ∀ {x : Item} {r : List Item} {a b : List Atom} (h0 : IsIt x a) (h1 : Its r b), motive r b h1 → motive (x :: r) (a ++ b) (Its.cons h0 h1)) {i0 : List Item} {i1 : List Atom} (h : Its i0 i1) : motive i0 i1 h := by
  obtain ⟨p, hp⟩ := h (fun i0 i1 => ∃ p : Its i0 i1, motive i0 i1 p) ⟨Its.nil, nil⟩ (fun _ _ _ _ h0 ⟨h1, g1⟩ => ⟨Its.cons h0 h1, cons h0 h1 g1⟩)
  exact hp
theorem Its.app {r s : List Item} {a b : List Atom} (h : Its r a) (g : Its s b) : Its (r ++ s) (a ++ b) := by
  induction h using Its.ind with
  | nil => exact g
  | cons hx _ ih => rw [List.append_assoc]; exact .cons hx ih
theorem Its.one {x : Item} {a : List Atom} (h : IsIt x a) : Its [x] a := by
  have := Its.cons h .nil
  simpa using this
theorem its_wrap {b : Bool} {l : List Item} (h : ∃ a, Its l a) : ∃ a, Its (wrapI b l) a := by
  obtain ⟨a, h⟩ := h
  unfold wrapI
  split
  · exact ⟨_, (Its.cons .open_ h).app (.one .close)⟩
  · exact ⟨a, h⟩
theorem its_sep0 (q : Int) : ∃ a, Its (sepI q) a := by
  unfold sepI
  split
  · exact ⟨[], .nil⟩
  · exact ⟨_, .one .colon⟩
theorem is_sign {o : Int} (h : two o = true) : ∃ a, IsIt (signI o) a := by
  rcases two_cases h with rfl | rfl | rfl | rfl | rfl
  · exact ⟨_, .and_⟩
  · exact ⟨_, .or_⟩
  · exact ⟨_, .xor_⟩
  · exact ⟨_, .imp⟩
  · exact ⟨_, .iff_⟩
theorem is_quant {o : Int} (h : isQ o = true) : ∃ a, IsIt (quantI o) a := by
  have : o = 4 ∨ o = 5 := of_decide_eq_true h
  rcases this with rfl | rfl
  · exact ⟨_, .ex⟩
  · exact ⟨_, .all⟩
theorem its_tree (t : Tr) : t.good → ∀ q last, ∃ a, Its (t.its q last) a := by
  induction t using Tr.ind with
  | lf x =>
    intro h q last
    obtain ⟨a, ha⟩ := its_sep0 q
    obtain ⟨o, v⟩ := x
    rcases h with ⟨h1, h2⟩ | ⟨h1, h2, h3⟩
    · simp only at h1 h2
      subst h1
      rcases h2 with rfl | rfl
      · exact ⟨_, ha.app (.one .false_)⟩
      · exact ⟨_, ha.app (.one .true_)⟩
    · simp only at h1 h2 h3
      subst h1
      exact ⟨_, ha.app (.one (.var h2 h3))⟩
  | un x a ih =>
    rintro ⟨hx, ha⟩ q last
    have ha : a.good := ha
    obtain ⟨s, hs⟩ := its_sep0 q
    (first | rw [Tr.its_un] | rw [Tr.its_bi] | rw [Tr.its_te] | rw [Tr.its_lf])
    by_cases hq : isQ x.1 = true
    · have hv : 0 ≤ x.2 ∧ x.2 < 65536 := by
        rcases hx with h | h
        · have := of_decide_eq_true hq
          omega
        · exact h.2
      obtain ⟨q0, hq0⟩ := is_quant hq
      rw [if_pos hq]
      split
      · obtain ⟨b, hb⟩ := ih ha q true
        exact ⟨_, .cons .comma (.cons (.var hv.1 hv.2) hb)⟩
      · obtain ⟨b, hb⟩ := ih ha x.1 true
        exact ⟨_, hs.app (.cons hq0 (.cons (.var hv.1 hv.2) hb))⟩
    · rw [if_neg hq]
      obtain ⟨b, hb⟩ := its_wrap (b := brk (two a.root.1) last a.root.1) (ih ha 0 (brk (two a.root.1) last a.root.1 || last))
      exact ⟨_, hs.app (.cons .neg hb)⟩
  | bi x a b iha ihb =>
    rintro ⟨⟨hx, _⟩, ha, hb⟩ q last
    have ha : a.good := ha
    have hb : b.good := hb
    obtain ⟨s, hs⟩ := its_sep0 q
    obtain ⟨g, hg⟩ := is_sign hx
    obtain ⟨c, hc⟩ := its_wrap (b := brk (firstB x.1 a.root.1) false a.root.1) (iha ha 0 (brk (firstB x.1 a.root.1) false a.root.1 || false))
    obtain ⟨d, hd⟩ := its_wrap (b := brk (secondB x.1 b.root.1) last b.root.1) (ihb hb 0 (brk (secondB x.1 b.root.1) last b.root.1 || last))
    (first | rw [Tr.its_un] | rw [Tr.its_bi] | rw [Tr.its_te] | rw [Tr.its_lf])
    exact ⟨_, (hs.app hc).app (.cons hg hd)⟩
  | te x a b c iha ihb ihc =>
    rintro ⟨_, ha, hb, hc⟩ q last
    have ha : a.good := ha
    have hb : b.good := hb
    have hc : c.good := hc
    obtain ⟨s, hs⟩ := its_sep0 q
    obtain ⟨d, hd⟩ := iha ha 0 true
    obtain ⟨e, he⟩ := ihb hb 0 true
    obtain ⟨g, hg⟩ := ihc hc 0 true
    (first | rw [Tr.its_un] | rw [Tr.its_bi] | rw [Tr.its_te] | rw [Tr.its_lf])
    have h1 := hs.app ((Its.cons .ite (.cons .open_ hd)).app ((Its.cons .comma he).app ((Its.cons .comma hg).app (.one .close))))
    exact ⟨s ++ ((([.tok [105, 116, 101] (6, 131)] : List Atom) ++ ([.tok [40] (8, 0)] ++ d)) ++ (([.tok [44] (10, 0), .sp] ++ e) ++ (([.tok [44] (10, 0), .sp] ++ g) ++ [.tok [41] (9, 0)]))), by simpa using h1⟩

end PureForm
