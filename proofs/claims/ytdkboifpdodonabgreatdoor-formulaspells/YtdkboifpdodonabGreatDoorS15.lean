import Derived.Deep.CutBlock
import Derived.Laws.Bits128
import Derived.Test.YtdkboifpdodonabGreatDoorZ14
set_option linter.unusedSimpArgs false
/-
  Other spellings, other blanks, remarks: a text is cut into the same tokens: plain mathematics.
-/
namespace PureForm
open PureCnf Go.Lib

/-- blanks and whole remarks. -/
def Skp (i0 : List UInt8) : Prop := ∀ C : List UInt8 → Prop, (C []) → (∀ (c : UInt8) (s : List UInt8), (blankB c = true) → (C s) → C (c :: s)) → (∀ (b s : List UInt8), ((∀ x ∈ b, x.toNat ≠ 10)) → (C s) → C (35 :: (b ++ 10 :: s))) → C i0
theorem Skp.nil : Skp [] := fun _ k0 _ _ => k0
theorem Skp.bl {c : UInt8} {s : List UInt8} (h0 : blankB c = true) (h1 : Skp s) : Skp (c :: s) := fun C k0 k1 k2 => k1 c s h0 (h1 C k0 k1 k2)
theorem Skp.rem {b s : List UInt8} (h0 : (∀ x ∈ b, x.toNat ≠ 10)) (h1 : Skp s) : Skp (35 :: (b ++ 10 :: s)) := fun C k0 k1 k2 => k2 b s h0 (h1 C k0 k1 k2)
theorem Skp.ind {motive : ∀ (i0 : List UInt8), Skp i0 → Prop} (nil : motive [] (Skp.nil)) (bl : ∀ {c : UInt8} {s : List UInt8} (h0 : blankB c = true) (h1 : Skp s), motive s h1 → motive (c :: s) (Skp.bl h0 h1)) (rem : ∀ {b s : List UInt8} (h0 : (∀ x ∈ b, x.toNat ≠ 10)) (h1 : Skp s), motive s h1 → motive (35 :: (b ++ 10 :: s)) (Skp.rem h0 h1)) {i0 : List UInt8} (h : Skp i0) : motive i0 h := by
  obtain ⟨p, hp⟩ := h (fun i0 => ∃ p : Skp i0, motive i0 p) ⟨Skp.nil, nil⟩ (fun _ _ h0 ⟨h1, g1⟩ => ⟨Skp.bl h0 h1, bl h0 h1 g1⟩) (fun _ _ h0 ⟨h1, g1⟩ => ⟨Skp.rem h0 h1, rem h0 h1 g1⟩)
  exact hp
theorem Skp.cas {motive : ∀ (i0 : List UInt8), Skp i0 → Prop} (nil : motive [] (Skp.nil)) (bl : ∀ {c : UInt8} {s : List UInt8} (h0 : blankB c = true) (h1 : Skp s), motive (c :: s) (Skp.bl h0 h1)) (rem : ∀ {b s : List UInt8} (h0 : (∀ x ∈ b, x.toNat ≠ 10)) (h1 : Skp s), motive (35 :: (b ++ 10 :: s)) (Skp.rem h0 h1)) {i0 : List UInt8} (h : Skp i0) : motive i0 h := Skp.ind (motive := motive) nil (fun h0 h1 _ => bl h0 h1) (fun h0 h1 _ => rem h0 h1) h
theorem Skp.app {a b : List UInt8} (ha : Skp a) (hb : Skp b) : Skp (a ++ b) := by
  induction ha using Skp.ind with
  | nil => exact hb
  | bl hc _ ih => exact .bl hc ih
  | @rem r s hr _ ih => rw [List.cons_append, List.append_assoc, List.cons_append]; exact .rem hr ih
theorem skipB_sk {sk r : List UInt8} (hs : Skp sk) (hr : ∀ c, r.head? = some c → blankB c = false ∧ c.toNat ≠ 35) : ∀ pre, skipB (pre ++ (sk ++ r)) pre.length = pre.length + sk.length := by
  induction hs using Skp.ind with
  | nil => exact skipB_bl [] r (fun _ h => by cases h) hr
  | @bl c t hc _ ih =>
    intro pre
    rw [skipB_eq]
    have h : pre.length < (pre ++ (c :: t ++ r)).length := by simp
    rw [dif_pos h]
    have e : (pre ++ (c :: t ++ r))[pre.length]'h = c := by simp
    have h35 : c.toNat ≠ 35 := by simp [blankB] at hc; omega
    rw [e, if_neg h35, if_pos hc]
    have := ih (pre ++ [c])
    simp at this ⊢
    rw [this]; omega
  | @rem b s hb _ ih =>
    intro pre
    rw [skipB_eq]
    have h : pre.length < (pre ++ (35 :: (b ++ 10 :: s) ++ r)).length := by simp
    rw [dif_pos h]
    have e : (pre ++ (35 :: (b ++ 10 :: s) ++ r))[pre.length]'h = 35 := by simp
    have hrun : runW lineB (pre ++ (35 :: (b ++ 10 :: s) ++ r)) pre.length (pre ++ (35 :: (b ++ 10 :: s) ++ r)).length = pre.length + (b.length + 1) := by
      unfold runW
      rw [List.take_length, List.drop_left]
      have ht : (35 :: (b ++ 10 :: s) ++ r).takeWhile lineB = 35 :: b := by
        have : 35 :: (b ++ 10 :: s) ++ r = (35 :: b) ++ (10 :: (s ++ r)) := by simp
        rw [this]
        refine takeWhile_all ?_ (fun c hc => by simp at hc; subst hc; decide)
        simp only [List.all_cons, Bool.and_eq_true, List.all_eq_true]
        exact ⟨by decide, fun x hx => decide_eq_true (hb x hx)⟩
      rw [ht]
      simp
    rw [e, if_pos (by decide), hrun, dif_pos (by omega)]
    -- the line's end is a blank
    have e2 : pre ++ (35 :: (b ++ 10 :: s) ++ r) = (pre ++ 35 :: b) ++ (10 :: (s ++ r)) := by simp
    rw [e2, skipB_eq]
    have h2 : pre.length + (b.length + 1) < ((pre ++ 35 :: b) ++ (10 :: (s ++ r))).length := by simp
    rw [dif_pos h2]
    have e3 : ((pre ++ 35 :: b) ++ (10 :: (s ++ r)))[pre.length + (b.length + 1)]'h2 = 10 := by
      rw [List.getElem_append_right (by simp)]
      simp
    rw [e3, if_neg (by decide), if_pos (by decide)]
    have := ih (pre ++ 35 :: b ++ [10])
    have e4 : pre ++ 35 :: b ++ [10] ++ (s ++ r) = (pre ++ 35 :: b) ++ (10 :: (s ++ r)) := by simp
    rw [e4] at this
    have e5 : (pre ++ 35 :: b ++ [10]).length = pre.length + (b.length + 1) + 1 := by simp; omega
    rw [e5] at this
    rw [this]
    simp; omega

/-- how a token may be written, ahead of a text. -/
def Spelt (i0 : List UInt8) (i1 : Nat × Nat) (i2 : List UInt8) : Prop := ∀ C : List UInt8 → Nat × Nat → List UInt8 → Prop, (∀ (core : List UInt8) (kn : Nat × Nat) (r : List UInt8), ((core, kn) ∈ signs) → C core kn r) → (∀ (c : UInt8) (core : List UInt8) (kn : Nat × Nat) (r : List UInt8), (letB c = true) → (core.all alnB = true) → (kn.1 ≠ 0) → ((∀ p, wordT (c :: core) p = ⟨kn.1, kn.2, p, p + (c :: core).length⟩)) → (noAln r) → C (c :: core) kn r) → (∀ (v : Nat) (r : List UInt8), (v ≤ 1) → ((∀ c, r.head? = some c → digB c = false)) → C [UInt8.ofNat (48 + v)] (2, v) r) → C i0 i1 i2
theorem Spelt.sign {core : List UInt8} {kn : Nat × Nat} {r : List UInt8} (h0 : (core, kn) ∈ signs) : Spelt core kn r := fun _ k0 _ _ => k0 core kn r h0
theorem Spelt.word {c : UInt8} {core : List UInt8} {kn : Nat × Nat} {r : List UInt8} (h0 : letB c = true) (h1 : core.all alnB = true) (h2 : kn.1 ≠ 0) (h3 : (∀ p, wordT (c :: core) p = ⟨kn.1, kn.2, p, p + (c :: core).length⟩)) (h4 : noAln r) : Spelt (c :: core) kn r := fun _ _ k1 _ => k1 c core kn r h0 h1 h2 h3 h4
theorem Spelt.bit {v : Nat} {r : List UInt8} (h0 : v ≤ 1) (h1 : (∀ c, r.head? = some c → digB c = false)) : Spelt [UInt8.ofNat (48 + v)] (2, v) r := fun _ _ _ k2 => k2 v r h0 h1
theorem Spelt.ind {motive : ∀ (i0 : List UInt8) (i1 : Nat × Nat) (i2 : List UInt8), Spelt i0 i1 i2 → Prop} (sign : ∀ {core : List UInt8} {kn : Nat × Nat} {r : List UInt8} (h0 : (core, kn) ∈ signs), motive core kn r (Spelt.sign h0)) (word : ∀ {c : UInt8} {core : List UInt8} {kn : Nat × Nat} {r : List UInt8} (h0 : letB c = true) (h1 : core.all alnB = true) (h2 : kn.1 ≠ 0) (h3 : (∀ p, wordT (c :: core) p = ⟨kn.1, kn.2, p, p + (c :: core).length⟩)) (h4 : noAln r), motive (c :: core) kn r (Spelt.word h0 h1 h2 h3 h4)) (bit : ∀ {v : Nat} {r : List UInt8} (h0 : v ≤ 1) (h1 : (∀ c, r.head? = some c → digB c = false)), motive [UInt8.ofNat (48 + v)] (2, v) r (Spelt.bit h0 h1)) {i0 : List UInt8} {i1 : Nat × Nat} {i2 : List UInt8} (h : Spelt i0 i1 i2) : motive i0 i1 i2 h := by
  obtain ⟨p, hp⟩ := h (fun i0 i1 i2 => ∃ p : Spelt i0 i1 i2, motive i0 i1 i2 p) (fun _ _ _ h0 => ⟨Spelt.sign h0, sign h0⟩) (fun _ _ _ _ h0 h1 h2 h3 h4 => ⟨Spelt.word h0 h1 h2 h3 h4, word h0 h1 h2 h3 h4⟩) (fun _ _ h0 h1 => ⟨Spelt.bit h0 h1, bit h0 h1⟩)
  exact hp
theorem Spelt.cas {motive : ∀ (i0 : List UInt8) (i1 : Nat × Nat) (i2 : List UInt8), Spelt i0 i1 i2 → Prop} (sign : ∀ {core : List UInt8} {kn : Nat × Nat} {r : List UInt8} (h0 : (core, kn) ∈ signs), motive core kn r (Spelt.sign h0)) (word : ∀ {c : UInt8} {core : List UInt8} {kn : Nat × Nat} {r : List UInt8} (h0 : letB c = true) (h1 : core.all alnB = true) (h2 : kn.1 ≠ 0) (h3 : (∀ p, wordT (c :: core) p = ⟨kn.1, kn.2, p, p + (c :: core).length⟩)) (h4 : noAln r), motive (c :: core) kn r (Spelt.word h0 h1 h2 h3 h4)) (bit : ∀ {v : Nat} {r : List UInt8} (h0 : v ≤ 1) (h1 : (∀ c, r.head? = some c → digB c = false)), motive [UInt8.ofNat (48 + v)] (2, v) r (Spelt.bit h0 h1)) {i0 : List UInt8} {i1 : Nat × Nat} {i2 : List UInt8} (h : Spelt i0 i1 i2) : motive i0 i1 i2 h := Spelt.ind (motive := motive) (fun h0 => sign h0) (fun h0 h1 h2 h3 h4 => word h0 h1 h2 h3 h4) (fun h0 h1 => bit h0 h1) h
theorem next_spelt {pre sk core r : List UInt8} {k : Nat × Nat} (hs : Skp sk) (h : Spelt core k r) : nextT (pre ++ (sk ++ (core ++ r))) pre.length = ⟨k.1, k.2, pre.length + sk.length, pre.length + sk.length + core.length⟩ ∧ k.1 ≠ 0 ∧ 0 < core.length := by
  have hd : (pre ++ (sk ++ (core ++ r))).drop (pre.length + sk.length) = core ++ r := by
    rw [← List.append_assoc, ← List.length_append, List.drop_left]
  cases h using Spelt.cas with
  | sign hm =>
    obtain ⟨c, t, e0, h1, h2, h3, h4, _, hk⟩ := sign_head hm
    have e : core = c :: t := e0
    have hsk := skipB_sk (r := core ++ r) hs (fun d hd => by rw [e] at hd; simp at hd; subst hd; exact ⟨h3, h4⟩) pre
    refine ⟨?_, hk, by rw [e]; simp⟩
    unfold nextT
    rw [hsk]
    have hlt : pre.length + sk.length < (pre ++ (sk ++ (core ++ r))).length := by rw [e]; simp
    rw [dif_pos hlt]
    have hc : (pre ++ (sk ++ (core ++ r)))[pre.length + sk.length]'hlt = c := by
      have : (pre ++ (sk ++ (core ++ r)))[pre.length + sk.length]? = some c := by
        rw [← List.head?_drop, hd, e]; rfl
      exact (List.getElem?_eq_some_iff.1 this).2
    rw [hc, h1, h2]
    simp only [Bool.false_eq_true, if_false]
    exact signT_core hm hd
  | @word c w _ _ hl ha hk0 hw hr =>
    have hbc : blankB c = false ∧ c.toNat ≠ 35 := by
      simp [letB] at hl
      simp [blankB]; omega
    have hsk := skipB_sk (r := (c :: w) ++ r) hs (fun d hd => by simp at hd; subst hd; exact hbc) pre
    refine ⟨?_, hk0, by simp⟩
    unfold nextT
    rw [hsk]
    have hlt : pre.length + sk.length < (pre ++ (sk ++ ((c :: w) ++ r))).length := by simp
    rw [dif_pos hlt]
    have hc : (pre ++ (sk ++ ((c :: w) ++ r)))[pre.length + sk.length]'hlt = c := by
      have : (pre ++ (sk ++ ((c :: w) ++ r)))[pre.length + sk.length]? = some c := by
        rw [← List.head?_drop, hd]; rfl
      exact (List.getElem?_eq_some_iff.1 this).2
    rw [hc, if_pos hl]
    have hrun : runW alnB (pre ++ (sk ++ ((c :: w) ++ r))) (pre.length + sk.length) (pre ++ (sk ++ ((c :: w) ++ r))).length = pre.length + sk.length + (c :: w).length := by
      unfold runW
      rw [List.take_length, hd, takeWhile_all _ hr]
      simp [alnB, hl, ha]
    rw [hrun]
    have hcore : ((pre ++ (sk ++ ((c :: w) ++ r))).take (pre.length + sk.length + (c :: w).length)).drop (pre.length + sk.length) = c :: w := by
      rw [List.drop_take, hd, Nat.add_sub_cancel_left, List.take_left]
    rw [hcore, hw]
  | @bit v _ hv hr =>
    obtain ⟨c, hc0⟩ : ∃ c, c = UInt8.ofNat (48 + v) := ⟨_, rfl⟩
    rw [← hc0] at hd ⊢
    have hcn : c.toNat = 48 + v := by
      rw [hc0]
      rcases (show v = 0 ∨ v = 1 by omega) with rfl | rfl <;> rfl
    have hsk := skipB_sk (r := [c] ++ r) hs (fun d hd => by simp at hd; subst hd; simp [blankB]; omega) pre
    refine ⟨?_, by simp, by simp⟩
    unfold nextT
    rw [hsk]
    have hlt : pre.length + sk.length < (pre ++ (sk ++ ([c] ++ r))).length := by simp
    rw [dif_pos hlt]
    have hc : (pre ++ (sk ++ ([c] ++ r)))[pre.length + sk.length]'hlt = c := by
      have : (pre ++ (sk ++ ([c] ++ r)))[pre.length + sk.length]? = some c := by
        rw [← List.head?_drop, hd]; rfl
      exact (List.getElem?_eq_some_iff.1 this).2
    have hdg : digB c = true := by simp [digB]; omega
    have hlt' : letB c = false := by simp [letB]; omega
    rw [hc, hlt', if_neg (by decide), if_pos hdg]
    have hrun : runW digB (pre ++ (sk ++ ([c] ++ r))) (pre.length + sk.length) (pre ++ (sk ++ ([c] ++ r))).length = pre.length + sk.length + 1 := by
      unfold runW
      rw [List.take_length, hd, takeWhile_all (by simp [hdg]) hr]
      simp
    rw [hrun, if_pos ⟨rfl, by omega⟩, hcn]
    simp

/-- a token with what is passed over ahead of it. -/
abbrev Pc := List UInt8 × List UInt8 × (Nat × Nat)
def ptext (l : List Pc) (tr : List UInt8) : List UInt8 := (l.flatMap fun p => p.1 ++ p.2.1) ++ tr
theorem ptext_cons (p : Pc) (l : List Pc) (tr : List UInt8) : ptext (p :: l) tr = p.1 ++ (p.2.1 ++ ptext l tr) := by simp [ptext]
def WellP : List Pc → List UInt8 → Prop
  | [], tr => Skp tr
  | p :: r, tr => Skp p.1 ∧ Spelt p.2.1 p.2.2 (ptext r tr) ∧ WellP r tr
theorem lex2 (l : List Pc) (tr : List UInt8) : WellP l tr → ∀ pre, (toksFrom (pre ++ ptext l tr) pre.length).map kn = l.map (·.2.2) ++ [(0, 0)] := by
  induction l with
  | nil =>
    intro h pre
    have hsk := skipB_sk (r := []) h (by simp) pre
    rw [List.append_nil] at hsk
    have he : ptext [] tr = tr := by simp [ptext]
    rw [he, toksFrom_eq]
    have hn : nextT (pre ++ tr) pre.length = ⟨0, 0, (pre ++ tr).length, (pre ++ tr).length⟩ := by
      unfold nextT
      rw [dif_neg (by rw [hsk]; simp)]
    rw [hn, dif_neg (by simp)]
    rfl
  | cons p r ih =>
    rintro ⟨h1, h2, h3⟩ pre
    obtain ⟨sk, core, k⟩ := p
    obtain ⟨g1, g2, g3⟩ := next_spelt (pre := pre) h1 h2
    simp only at g1 g2 g3
    rw [ptext_cons]
    simp only
    rw [toks_step g1 g2 (by simp; omega) (by simp; omega), List.map_cons, List.map_cons]
    refine congrArg (List.cons k) (?_ : _ = List.map (·.2.2) r ++ [(0, 0)])
    have := ih h3 (pre ++ (sk ++ core))
    rw [← this]
    have e : pre ++ (sk ++ (core ++ ptext r tr)) = pre ++ (sk ++ core) ++ ptext r tr := by simp
    rw [e]
    congr 2
    simp; omega
/-- a tree's tokens, however they are written, read as that tree. -/
theorem parse_spelt (t : Tr) (hg : t.good) (hn : t.need true ≤ 64) (hm : t.post.length ≤ 65536) (l : List Pc) (tr : List UInt8) (hw : WellP l tr) (hk : l.map (·.2.2) = toksOf (t.its 0 true)) (hl : (ptext l tr).length ≤ 1048576) : parseF (ptext l tr) = .ok t.post := by
  obtain ⟨s, h1, h2⟩ := feed_tree t hg hn hm
  have h3 := lex2 l tr hw []
  rw [hk] at h3
  have h4 := run_feed _ _ _ _ h3 h1 h2
  simp only [List.nil_append, List.length_nil] at h4
  unfold parseF
  rw [if_neg (by omega), h4]
end PureForm
/-
  A printed text by atoms, and its respellings: plain mathematics.
-/
namespace PureForm
open PureCnf Go.Lib

abbrev Atom : Type := Option (List UInt8 × Nat × Nat)
abbrev Atom.sp : Atom := none
abbrev Atom.tok (core : List UInt8) (kn : Nat × Nat) : Atom := some (core, kn)
theorem Atom.cas {motive : Atom → Prop} (sp : motive .sp) (tok : ∀ (core : List UInt8) (kn : Nat × Nat), motive (.tok core kn)) (a : Atom) : motive a := match a with
  | none => sp
  | some (c, k) => tok c k
def Atom.text : Atom → List UInt8
  | .sp => [32]
  | .tok c _ => c
def atext (l : List Atom) : List UInt8 := l.flatMap Atom.text
def atoks : List Atom → List (Nat × Nat)
  | [] => []
  | .sp :: r => atoks r
  | .tok _ k :: r => k :: atoks r
def WordTok (core : List UInt8) (k : Nat × Nat) : Prop := ∃ c w, core = c :: w ∧ letB c = true ∧ w.all alnB = true ∧ k.1 ≠ 0 ∧ ∀ p, wordT (c :: w) p = ⟨k.1, k.2, p, p + (c :: w).length⟩
def WellA : List Atom → Prop
  | [] => True
  | .sp :: r => WellA r
  | .tok core k :: r => ((core, k) ∈ signs ∨ (WordTok core k ∧ noAln (atext r))) ∧ WellA r

def gaps : List (List UInt8) := [[32], [9], [32, 13, 10, 32], [32, 35, 32, 115, 111, 58, 32, 40, 32, 255, 10]]
theorem gap_skp {o : List UInt8} (h : o ∈ gaps) : Skp o := by
  simp only [gaps, List.mem_cons, List.not_mem_nil, or_false] at h
  rcases h with rfl | rfl | rfl | rfl
  · exact .bl (by decide) .nil
  · exact .bl (by decide) .nil
  · exact .bl (by decide) (.bl (by decide) (.bl (by decide) (.bl (by decide) .nil)))
  · exact .bl (by decide) (Skp.rem (b := [32, 115, 111, 58, 32, 40, 32, 255]) (by decide) .nil)
theorem gap_head {o : List UInt8} (h : o ∈ gaps) : ∃ c t, o = c :: t ∧ alnB c = false := by
  simp only [gaps, List.mem_cons, List.not_mem_nil, or_false] at h
  rcases h with rfl | rfl | rfl | rfl <;> exact ⟨_, _, rfl, by decide⟩
/-- how a token may be written instead. -/
def Alt (core : List UInt8) (k : Nat × Nat) (o : List UInt8) : Prop := o = core ∨ (o, k) ∈ signs ∨ ∃ v, v ≤ 1 ∧ k = (2, v) ∧ o = [UInt8.ofNat (48 + v)] ∧ WordTok core k
/-- what becomes of an atom. -/
def RA : Atom → List UInt8 → Prop
  | .sp, o => o ∈ gaps
  | .tok core k, o => ∃ c' sfx, o = c' ++ sfx ∧ Alt core k c' ∧ (sfx = [32] ∨ (sfx = [] ∧ (c' = core ∨ (c', k) ∈ signs)))
/-- what becomes of a text. -/
def RAs (i0 : List Atom) (i1 : List UInt8) : Prop := ∀ C : List Atom → List UInt8 → Prop, (C [] []) → (∀ (a : Atom) (l : List Atom) (o t : List UInt8), (RA a o) → (C l t) → C (a :: l) (o ++ t)) → C i0 i1
theorem RAs.nil : RAs [] [] := fun _ k0 _ => k0
theorem RAs.cons {a : Atom} {l : List Atom} {o t : List UInt8} (h0 : RA a o) (h1 : RAs l t) : RAs (a :: l) (o ++ t) := fun C k0 k1 => k1 a l o t h0 (h1 C k0 k1)
theorem RAs.ind {motive : ∀ (i0 : List Atom) (i1 : List UInt8), RAs i0 i1 → Prop} (nil : motive [] [] (RAs.nil)) (cons : ∀ {a : Atom} {l : List Atom} {o t : List UInt8} (h0 : RA a o) (h1 : RAs l t), motive l t h1 → motive (a :: l) (o ++ t) (RAs.cons h0 h1)) {i0 : List Atom} {i1 : List UInt8} (h : RAs i0 i1) : motive i0 i1 h := by
  obtain ⟨p, hp⟩ := h (fun i0 i1 => ∃ p : RAs i0 i1, motive i0 i1 p) ⟨RAs.nil, nil⟩ (fun _ _ _ _ h0 ⟨h1, g1⟩ => ⟨RAs.cons h0 h1, cons h0 h1 g1⟩)
  exact hp
theorem RAs.cas {motive : ∀ (i0 : List Atom) (i1 : List UInt8), RAs i0 i1 → Prop} (nil : motive [] [] (RAs.nil)) (cons : ∀ {a : Atom} {l : List Atom} {o t : List UInt8} (h0 : RA a o) (h1 : RAs l t), motive (a :: l) (o ++ t) (RAs.cons h0 h1)) {i0 : List Atom} {i1 : List UInt8} (h : RAs i0 i1) : motive i0 i1 h := RAs.ind (motive := motive) nil (fun h0 h1 _ => cons h0 h1) h

theorem sign_aln {core : List UInt8} {k : Nat × Nat} (h : (core, k) ∈ signs) : ∃ c t, core = c :: t ∧ alnB c = false := by
  obtain ⟨c, t, e, _, _, _, _, h6, _⟩ := sign_head h
  exact ⟨c, t, e, h6⟩
theorem out_head {l : List Atom} {t : List UInt8} (hr : RAs l t) (hw : WellA l) (hn : noAln (atext l)) : noAln t := by
  cases hr using RAs.cas with
  | nil => intro c hc; cases hc
  | @cons a l o t ha _ =>
    cases a using Atom.cas with
    | sp =>
      obtain ⟨c, s, e, hc⟩ := gap_head ha
      rw [e]
      exact noAln_head hc
    | tok core k =>
      obtain ⟨c', sfx, e, halt, _⟩ := ha
      have hsg : (core, k) ∈ signs := by
        rcases hw.1 with h | ⟨⟨c, w, ec, hl, _⟩, _⟩
        · exact h
        · exfalso
          have := hn c (by show (atext (.tok core k :: l)).head? = _; simp [atext, Atom.text, ec])
          simp [alnB, hl] at this
      have hnw : ¬ WordTok core k := by
        rintro ⟨c, w, ec, hl, _⟩
        obtain ⟨c2, t2, e2, h2⟩ := sign_aln hsg
        rw [ec] at e2
        cases e2
        simp [alnB, hl] at h2
      have : ∃ c t, c' = c :: t ∧ alnB c = false := by
        rcases halt with rfl | h | ⟨_, _, _, _, h⟩
        · exact sign_aln hsg
        · exact sign_aln h
        · exact absurd h hnw
      obtain ⟨c, s, ec, hc⟩ := this
      rw [e, ec]
      exact noAln_head hc
/-- a respelt text is cut into the same tokens. -/
theorem respelt_well {l : List Atom} {t : List UInt8} (hr : RAs l t) : WellA l → ∀ sk, Skp sk → ∃ (q : List Pc) (tr : List UInt8), sk ++ t = ptext q tr ∧ WellP q tr ∧ q.map (·.2.2) = atoks l := by
  induction hr using RAs.ind with
  | nil => intro _ sk hs; exact ⟨[], sk, by simp [ptext], hs, rfl⟩
  | @cons a l o t ha hl ih =>
    intro hw sk hs
    cases a using Atom.cas with
    | sp =>
      obtain ⟨q, tr, e, h1, h2⟩ := ih hw (sk ++ o) (hs.app (gap_skp ha))
      exact ⟨q, tr, by rw [← e]; simp, h1, h2⟩
    | tok core k =>
      obtain ⟨c', sfx, e, halt, hsf⟩ := ha
      have hsk : Skp sfx := by
        rcases hsf with rfl | ⟨rfl, _⟩
        · exact .bl (by decide) .nil
        · exact .nil
      obtain ⟨q, tr, e2, h1, h2⟩ := ih hw.2 sfx hsk
      refine ⟨(sk, c', k) :: q, tr, ?_, ⟨hs, ?_, h1⟩, ?_⟩
      · rw [ptext_cons, e, ← e2]
        simp
      · simp only
        rw [← e2]
        have hword : ∀ (hwt : WordTok c' k), (noAln (sfx ++ t)) → Spelt c' k (sfx ++ t) := by
          rintro ⟨c, w, ec, g1, g2, g3, g4⟩ hn
          rw [ec]
          exact .word g1 g2 g3 g4 hn
        have hno : WordTok core k → noAln (atext l) → noAln (sfx ++ t) := by
          intro _ hn
          rcases hsf with rfl | ⟨rfl, _⟩
          · exact noAln_head (by decide)
          · exact out_head hl hw.2 hn
        rcases halt with rfl | h | ⟨v, hv, hk, ho, hwt⟩
        · rcases hw.1 with h | ⟨h, hn⟩
          · exact .sign h
          · exact hword h (hno h hn)
        · exact .sign h
        · rw [hk, ho]
          refine .bit hv ?_
          rcases hsf with rfl | ⟨rfl, h | h⟩
          · intro c hc; simp at hc; subst hc; decide
          · exfalso
            obtain ⟨c, w, ec, g1, _⟩ := hwt
            rw [← h, ho] at ec
            simp only [List.cons.injEq] at ec
            rw [← ec.1] at g1
            revert g1
            rcases (show v = 0 ∨ v = 1 by omega) with rfl | rfl <;> decide
          · exfalso
            obtain ⟨c, s, ec, hc⟩ := sign_aln h
            rw [ho] at ec
            simp only [List.cons.injEq] at ec
            rw [← ec.1] at hc
            revert hc
            rcases (show v = 0 ∨ v = 1 by omega) with rfl | rfl <;> decide
      · simp [atoks, h2]
end PureForm
/-
  The text of a tree by atoms: plain mathematics.
-/
namespace PureForm
open PureCnf Go.Lib

/-- the items that a tree's text has. -/
def IsIt (i0 : Item) (i1 : List Atom) : Prop := ∀ C : Item → List Atom → Prop, (C notI [.tok [33] (4, 0)]) → (C openI [.tok [40] (8, 0)]) → (C closeI [.tok [41] (9, 0)]) → (C commaI [.tok [44] (10, 0), .sp]) → (C colonI [.tok [58] (11, 0), .sp]) → (C iteI [.tok [105, 116, 101] (6, 131)]) → (C (constI 1) [.tok [116, 114, 117, 101] (2, 1)]) → (C (constI 0) [.tok [102, 97, 108, 115, 101] (2, 0)]) → (C (quantI 4) [.tok [101, 120, 105, 115, 116, 115] (5, 4), .sp]) → (C (quantI 5) [.tok [102, 111, 114, 97, 108, 108] (5, 5), .sp]) → (C (signI 6) [.sp, .tok [38] (7, 6), .sp]) → (C (signI 7) [.sp, .tok [124] (7, 7), .sp]) → (C (signI 8) [.sp, .tok [94] (7, 8), .sp]) → (C (signI 9) [.sp, .tok [45, 62] (7, 9), .sp]) → (C (signI 10) [.sp, .tok [60, 45, 62] (7, 10), .sp]) → (∀ (n : Int), (0 ≤ n) → (n < 65536) → C (varI n) [.tok (120 :: decDigits n.toNat) (3, n.toNat)]) → C i0 i1
theorem IsIt.neg : IsIt notI [.tok [33] (4, 0)] := fun _ k0 _ _ _ _ _ _ _ _ _ _ _ _ _ _ _ => k0
theorem IsIt.open_ : IsIt openI [.tok [40] (8, 0)] := fun _ _ k1 _ _ _ _ _ _ _ _ _ _ _ _ _ _ => k1
theorem IsIt.close : IsIt closeI [.tok [41] (9, 0)] := fun _ _ _ k2 _ _ _ _ _ _ _ _ _ _ _ _ _ => k2
theorem IsIt.comma : IsIt commaI [.tok [44] (10, 0), .sp] := fun _ _ _ _ k3 _ _ _ _ _ _ _ _ _ _ _ _ => k3
theorem IsIt.colon : IsIt colonI [.tok [58] (11, 0), .sp] := fun _ _ _ _ _ k4 _ _ _ _ _ _ _ _ _ _ _ => k4
theorem IsIt.ite : IsIt iteI [.tok [105, 116, 101] (6, 131)] := fun _ _ _ _ _ _ k5 _ _ _ _ _ _ _ _ _ _ => k5
theorem IsIt.true_ : IsIt (constI 1) [.tok [116, 114, 117, 101] (2, 1)] := fun _ _ _ _ _ _ _ k6 _ _ _ _ _ _ _ _ _ => k6
theorem IsIt.false_ : IsIt (constI 0) [.tok [102, 97, 108, 115, 101] (2, 0)] := fun _ _ _ _ _ _ _ _ k7 _ _ _ _ _ _ _ _ => k7
theorem IsIt.ex : IsIt (quantI 4) [.tok [101, 120, 105, 115, 116, 115] (5, 4), .sp] := fun _ _ _ _ _ _ _ _ _ k8 _ _ _ _ _ _ _ => k8
theorem IsIt.all : IsIt (quantI 5) [.tok [102, 111, 114, 97, 108, 108] (5, 5), .sp] := fun _ _ _ _ _ _ _ _ _ _ k9 _ _ _ _ _ _ => k9
theorem IsIt.and_ : IsIt (signI 6) [.sp, .tok [38] (7, 6), .sp] := fun _ _ _ _ _ _ _ _ _ _ _ k10 _ _ _ _ _ => k10
theorem IsIt.or_ : IsIt (signI 7) [.sp, .tok [124] (7, 7), .sp] := fun _ _ _ _ _ _ _ _ _ _ _ _ k11 _ _ _ _ => k11
theorem IsIt.xor_ : IsIt (signI 8) [.sp, .tok [94] (7, 8), .sp] := fun _ _ _ _ _ _ _ _ _ _ _ _ _ k12 _ _ _ => k12
theorem IsIt.imp : IsIt (signI 9) [.sp, .tok [45, 62] (7, 9), .sp] := fun _ _ _ _ _ _ _ _ _ _ _ _ _ _ k13 _ _ => k13
theorem IsIt.iff_ : IsIt (signI 10) [.sp, .tok [60, 45, 62] (7, 10), .sp] := fun _ _ _ _ _ _ _ _ _ _ _ _ _ _ _ k14 _ => k14
theorem IsIt.var {n : Int} (h0 : 0 ≤ n) (h1 : n < 65536) : IsIt (varI n) [.tok (120 :: decDigits n.toNat) (3, n.toNat)] := fun _ _ _ _ _ _ _ _ _ _ _ _ _ _ _ _ k15 => k15 n h0 h1
theorem IsIt.ind {motive : ∀ (i0 : Item) (i1 : List Atom), IsIt i0 i1 → Prop} (neg : motive notI [.tok [33] (4, 0)] (IsIt.neg)) (open_ : motive openI [.tok [40] (8, 0)] (IsIt.open_)) (close : motive closeI [.tok [41] (9, 0)] (IsIt.close)) (comma : motive commaI [.tok [44] (10, 0), .sp] (IsIt.comma)) (colon : motive colonI [.tok [58] (11, 0), .sp] (IsIt.colon)) (ite : motive iteI [.tok [105, 116, 101] (6, 131)] (IsIt.ite)) (true_ : motive (constI 1) [.tok [116, 114, 117, 101] (2, 1)] (IsIt.true_)) (false_ : motive (constI 0) [.tok [102, 97, 108, 115, 101] (2, 0)] (IsIt.false_)) (ex : motive (quantI 4) [.tok [101, 120, 105, 115, 116, 115] (5, 4), .sp] (IsIt.ex)) (all : motive (quantI 5) [.tok [102, 111, 114, 97, 108, 108] (5, 5), .sp] (IsIt.all)) (and_ : motive (signI 6) [.sp, .tok [38] (7, 6), .sp] (IsIt.and_)) (or_ : motive (signI 7) [.sp, .tok [124] (7, 7), .sp] (IsIt.or_)) (xor_ : motive (signI 8) [.sp, .tok [94] (7, 8), .sp] (IsIt.xor_)) (imp : motive (signI 9) [.sp, .tok [45, 62] (7, 9), .sp] (IsIt.imp)) (iff_ : motive (signI 10) [.sp, .tok [60, 45, 62] (7, 10), .sp] (IsIt.iff_)) (var : ∀ {n : Int} (h0 : 0 ≤ n) (h1 : n < 65536), motive (varI n) [.tok (120 :: decDigits n.toNat) (3, n.toNat)] (IsIt.var h0 h1)) {i0 : Item} {i1 : List Atom} (h : IsIt i0 i1) : motive i0 i1 h := by
  obtain ⟨p, hp⟩ := h (fun i0 i1 => ∃ p : IsIt i0 i1, motive i0 i1 p) ⟨IsIt.neg, neg⟩ ⟨IsIt.open_, open_⟩ ⟨IsIt.close, close⟩ ⟨IsIt.comma, comma⟩ ⟨IsIt.colon, colon⟩ ⟨IsIt.ite, ite⟩ ⟨IsIt.true_, true_⟩ ⟨IsIt.false_, false_⟩ ⟨IsIt.ex, ex⟩ ⟨IsIt.all, all⟩ ⟨IsIt.and_, and_⟩ ⟨IsIt.or_, or_⟩ ⟨IsIt.xor_, xor_⟩ ⟨IsIt.imp, imp⟩ ⟨IsIt.iff_, iff_⟩ (fun _ h0 h1 => ⟨IsIt.var h0 h1, var h0 h1⟩)
  exact hp
theorem IsIt.cas {motive : ∀ (i0 : Item) (i1 : List Atom), IsIt i0 i1 → Prop} (neg : motive notI [.tok [33] (4, 0)] (IsIt.neg)) (open_ : motive openI [.tok [40] (8, 0)] (IsIt.open_)) (close : motive closeI [.tok [41] (9, 0)] (IsIt.close)) (comma : motive commaI [.tok [44] (10, 0), .sp] (IsIt.comma)) (colon : motive colonI [.tok [58] (11, 0), .sp] (IsIt.colon)) (ite : motive iteI [.tok [105, 116, 101] (6, 131)] (IsIt.ite)) (true_ : motive (constI 1) [.tok [116, 114, 117, 101] (2, 1)] (IsIt.true_)) (false_ : motive (constI 0) [.tok [102, 97, 108, 115, 101] (2, 0)] (IsIt.false_)) (ex : motive (quantI 4) [.tok [101, 120, 105, 115, 116, 115] (5, 4), .sp] (IsIt.ex)) (all : motive (quantI 5) [.tok [102, 111, 114, 97, 108, 108] (5, 5), .sp] (IsIt.all)) (and_ : motive (signI 6) [.sp, .tok [38] (7, 6), .sp] (IsIt.and_)) (or_ : motive (signI 7) [.sp, .tok [124] (7, 7), .sp] (IsIt.or_)) (xor_ : motive (signI 8) [.sp, .tok [94] (7, 8), .sp] (IsIt.xor_)) (imp : motive (signI 9) [.sp, .tok [45, 62] (7, 9), .sp] (IsIt.imp)) (iff_ : motive (signI 10) [.sp, .tok [60, 45, 62] (7, 10), .sp] (IsIt.iff_)) (var : ∀ {n : Int} (h0 : 0 ≤ n) (h1 : n < 65536), motive (varI n) [.tok (120 :: decDigits n.toNat) (3, n.toNat)] (IsIt.var h0 h1)) {i0 : Item} {i1 : List Atom} (h : IsIt i0 i1) : motive i0 i1 h := IsIt.ind (motive := motive) neg open_ close comma colon ite true_ false_ ex all and_ or_ xor_ imp iff_ (fun h0 h1 => var h0 h1) h
/-- a text by items, by atoms. -/
def Its (i0 : List Item) (i1 : List Atom) : Prop := ∀ C : List Item → List Atom → Prop, (C [] []) → (∀ (x : Item) (r : List Item) (a b : List Atom), (IsIt x a) → (C r b) → C (x :: r) (a ++ b)) → C i0 i1
theorem Its.nil : Its [] [] := fun _ k0 _ => k0
theorem Its.cons {x : Item} {r : List Item} {a b : List Atom} (h0 : IsIt x a) (h1 : Its r b) : Its (x :: r) (a ++ b) := fun C k0 k1 => k1 x r a b h0 (h1 C k0 k1)
theorem Its.ind {motive : ∀ (i0 : List Item) (i1 : List Atom), Its i0 i1 → Prop} (nil : motive [] [] (Its.nil)) (cons : ∀ {x : Item} {r : List Item} {a b : List Atom} (h0 : IsIt x a) (h1 : Its r b), motive r b h1 → motive (x :: r) (a ++ b) (Its.cons h0 h1)) {i0 : List Item} {i1 : List Atom} (h : Its i0 i1) : motive i0 i1 h := by
  obtain ⟨p, hp⟩ := h (fun i0 i1 => ∃ p : Its i0 i1, motive i0 i1 p) ⟨Its.nil, nil⟩ (fun _ _ _ _ h0 ⟨h1, g1⟩ => ⟨Its.cons h0 h1, cons h0 h1 g1⟩)
  exact hp
theorem Its.cas {motive : ∀ (i0 : List Item) (i1 : List Atom), Its i0 i1 → Prop} (nil : motive [] [] (Its.nil)) (cons : ∀ {x : Item} {r : List Item} {a b : List Atom} (h0 : IsIt x a) (h1 : Its r b), motive (x :: r) (a ++ b) (Its.cons h0 h1)) {i0 : List Item} {i1 : List Atom} (h : Its i0 i1) : motive i0 i1 h := Its.ind (motive := motive) nil (fun h0 h1 _ => cons h0 h1) h
theorem Its.app {r s : List Item} {a b : List Atom} (h : Its r a) (g : Its s b) : Its (r ++ s) (a ++ b) := by
  induction h using Its.ind with
  | nil => exact g
  | cons hx _ ih => rw [List.append_assoc]; exact .cons hx ih
theorem Its.one {x : Item} {a : List Atom} (h : IsIt x a) : Its [x] a := by
  have := Its.cons h .nil
  simpa using this
theorem its_wrap {b : Bool} {l : List Item} (h : ∃ a, Its l a) : ∃ a, Its (wrapI b l) a := by
  obtain ⟨a, h⟩ := h
  unfold wrapI
  split
  · exact ⟨_, (Its.cons .open_ h).app (.one .close)⟩
  · exact ⟨a, h⟩
theorem its_sep0 (q : Int) : ∃ a, Its (sepI q) a := by
  unfold sepI
  split
  · exact ⟨[], .nil⟩
  · exact ⟨_, .one .colon⟩
theorem is_sign {o : Int} (h : two o = true) : ∃ a, IsIt (signI o) a := by
  rcases two_cases h with rfl | rfl | rfl | rfl | rfl
  · exact ⟨_, .and_⟩
  · exact ⟨_, .or_⟩
  · exact ⟨_, .xor_⟩
  · exact ⟨_, .imp⟩
  · exact ⟨_, .iff_⟩
theorem is_quant {o : Int} (h : isQ o = true) : ∃ a, IsIt (quantI o) a := by
  have : o = 4 ∨ o = 5 := of_decide_eq_true h
  rcases this with rfl | rfl
  · exact ⟨_, .ex⟩
  · exact ⟨_, .all⟩
theorem its_tree (t : Tr) : t.good → ∀ q last, ∃ a, Its (t.its q last) a := by
  induction t using Tr.ind with
  | lf x =>
    intro h q last
    obtain ⟨a, ha⟩ := its_sep0 q
    obtain ⟨o, v⟩ := x
    rcases h with ⟨h1, h2⟩ | ⟨h1, h2, h3⟩
    · simp only at h1 h2
      subst h1
      rcases h2 with rfl | rfl
      · exact ⟨_, ha.app (.one .false_)⟩
      · exact ⟨_, ha.app (.one .true_)⟩
    · simp only at h1 h2 h3
      subst h1
      exact ⟨_, ha.app (.one (.var h2 h3))⟩
  | un x a ih =>
    rintro ⟨hx, ha⟩ q last
    have ha : a.good := ha
    obtain ⟨s, hs⟩ := its_sep0 q
    (first | rw [Tr.its_un] | rw [Tr.its_bi] | rw [Tr.its_te] | rw [Tr.its_lf])
    by_cases hq : isQ x.1 = true
    · have hv : 0 ≤ x.2 ∧ x.2 < 65536 := by
        rcases hx with h | h
        · have := of_decide_eq_true hq
          omega
        · exact h.2
      obtain ⟨q0, hq0⟩ := is_quant hq
      rw [if_pos hq]
      split
      · obtain ⟨b, hb⟩ := ih ha q true
        exact ⟨_, .cons .comma (.cons (.var hv.1 hv.2) hb)⟩
      · obtain ⟨b, hb⟩ := ih ha x.1 true
        exact ⟨_, hs.app (.cons hq0 (.cons (.var hv.1 hv.2) hb))⟩
    · rw [if_neg hq]
      obtain ⟨b, hb⟩ := its_wrap (b := brk (two a.root.1) last a.root.1) (ih ha 0 (brk (two a.root.1) last a.root.1 || last))
      exact ⟨_, hs.app (.cons .neg hb)⟩
  | bi x a b iha ihb =>
    rintro ⟨⟨hx, _⟩, ha, hb⟩ q last
    have ha : a.good := ha
    have hb : b.good := hb
    obtain ⟨s, hs⟩ := its_sep0 q
    obtain ⟨g, hg⟩ := is_sign hx
    obtain ⟨c, hc⟩ := its_wrap (b := brk (firstB x.1 a.root.1) false a.root.1) (iha ha 0 (brk (firstB x.1 a.root.1) false a.root.1 || false))
    obtain ⟨d, hd⟩ := its_wrap (b := brk (secondB x.1 b.root.1) last b.root.1) (ihb hb 0 (brk (secondB x.1 b.root.1) last b.root.1 || last))
    (first | rw [Tr.its_un] | rw [Tr.its_bi] | rw [Tr.its_te] | rw [Tr.its_lf])
    exact ⟨_, (hs.app hc).app (.cons hg hd)⟩
  | te x a b c iha ihb ihc =>
    rintro ⟨_, ha, hb, hc⟩ q last
    have ha : a.good := ha
    have hb : b.good := hb
    have hc : c.good := hc
    obtain ⟨s, hs⟩ := its_sep0 q
    obtain ⟨d, hd⟩ := iha ha 0 true
    obtain ⟨e, he⟩ := ihb hb 0 true
    obtain ⟨g, hg⟩ := ihc hc 0 true
    (first | rw [Tr.its_un] | rw [Tr.its_bi] | rw [Tr.its_te] | rw [Tr.its_lf])
    have h1 := hs.app ((Its.cons .ite (.cons .open_ hd)).app ((Its.cons .comma he).app ((Its.cons .comma hg).app (.one .close))))
    exact ⟨s ++ ((([.tok [105, 116, 101] (6, 131)] : List Atom) ++ ([.tok [40] (8, 0)] ++ d)) ++ (([.tok [44] (10, 0), .sp] ++ e) ++ (([.tok [44] (10, 0), .sp] ++ g) ++ [.tok [41] (9, 0)]))), by simpa using h1⟩
theorem is_text {x : Item} {a : List Atom} (h : IsIt x a) : atext a = x.1 ∧ atoks a = [x.2] := by
  cases h using IsIt.cas <;> exact ⟨by simp [atext, Atom.text, notI, openI, closeI, commaI, colonI, iteI, constI, quantI, signI, varI], rfl⟩
theorem atext_append (a b : List Atom) : atext (a ++ b) = atext a ++ atext b := by simp [atext]
theorem atoks_append (a b : List Atom) : atoks (a ++ b) = atoks a ++ atoks b := by
  induction a with
  | nil => rfl
  | cons x r ih => cases x using Atom.cas <;> simp [atoks, ih]
theorem its_text {l : List Item} {a : List Atom} (h : Its l a) : atext a = textOf l ∧ atoks a = toksOf l := by
  induction h using Its.ind with
  | nil => exact ⟨rfl, rfl⟩
  | cons hx _ ih =>
    obtain ⟨h1, h2⟩ := is_text hx
    rw [atext_append, atoks_append, h1, h2, ih.1, ih.2, textOf_cons, toksOf_cons]
    exact ⟨rfl, rfl⟩

/-- an item of letters and digits alone is a word, and no letter or digit follows. -/
theorem word_of_well {x : Item} {r : List UInt8} (ha : x.1.all alnB = true) (h : SignItem x ∨ WordItem x r) : WordTok x.1 x.2 ∧ noAln r := by
  rw [List.all_eq_true] at ha
  rcases h with ⟨lead, core, trail, e, _, _, hs⟩ | ⟨c, core, trail, e, ht, h1, h2, h3, h4, h5⟩
  · exfalso
    obtain ⟨c, t, ec, hc⟩ := sign_aln hs
    have := ha c (by rw [e, ec]; simp)
    rw [hc] at this
    cases this
  · have htr : trail = [] := by
      cases trail with
      | nil => rfl
      | cons y ys =>
        exfalso
        have hb := ht y (List.mem_cons_self ..)
        have := ha y (by rw [e]; simp)
        simp [blankB] at hb
        simp [alnB, letB, digB] at this
        omega
    subst htr
    rw [List.append_nil] at e
    refine ⟨⟨c, core, e, h1, h2, h3, h4⟩, ?_⟩
    rcases h5 with h | h
    · exact absurd rfl h
    · exact h
theorem dec_aln (n : Nat) : (decDigits n).all alnB = true := by
  have := dec_all n
  rw [List.all_eq_true] at this ⊢
  intro c hc
  simp [alnB, this c hc]
theorem well_item {x : Item} {a b : List Atom} {r : List Item} (h : IsIt x a) (hx : SignItem x ∨ WordItem x (textOf r ++ [])) (hb : WellA b) (ht : atext b = textOf r) : WellA (a ++ b) := by
  rw [List.append_nil] at hx
  rw [← ht] at hx
  cases h using IsIt.cas with
  | neg => exact ⟨.inl (by simp [signs]), hb⟩
  | open_ => exact ⟨.inl (by simp [signs]), hb⟩
  | close => exact ⟨.inl (by simp [signs]), hb⟩
  | comma => exact ⟨.inl (by simp [signs]), hb⟩
  | colon => exact ⟨.inl (by simp [signs]), hb⟩
  | ite => exact ⟨.inr (word_of_well (by decide) hx), hb⟩
  | true_ => exact ⟨.inr (word_of_well (x := constI 1) (by decide) hx), hb⟩
  | false_ => exact ⟨.inr (word_of_well (x := constI 0) (by decide) hx), hb⟩
  | ex => exact ⟨.inr ⟨⟨101, [120, 105, 115, 116, 115], rfl, by decide, by decide, by decide, fun p => by simp [wordT]⟩, noAln_head (by decide)⟩, hb⟩
  | all => exact ⟨.inr ⟨⟨102, [111, 114, 97, 108, 108], rfl, by decide, by decide, by decide, fun p => by simp [wordT]⟩, noAln_head (by decide)⟩, hb⟩
  | and_ => exact ⟨.inl (by simp [signs]), hb⟩
  | or_ => exact ⟨.inl (by simp [signs]), hb⟩
  | xor_ => exact ⟨.inl (by simp [signs]), hb⟩
  | imp => exact ⟨.inl (by simp [signs]), hb⟩
  | iff_ => exact ⟨.inl (by simp [signs]), hb⟩
  | @var n h0 h1 => exact ⟨.inr (word_of_well (x := varI n) (by simp only [varI, List.all_cons, dec_aln, Bool.and_true]; decide) hx), hb⟩
theorem well_atoms {l : List Item} {a : List Atom} (h : Its l a) : Well l [] → WellA a := by
  induction h using Its.ind with
  | nil => intro _; trivial
  | cons hx hr ih => rintro ⟨h1, h2⟩; exact well_item hx h1 (ih h2) (its_text hr).1
end PureForm
/-
  What may stand at an atom's place, and what becomes of it: plain mathematics.
-/
namespace PureForm
open PureCnf Go.Lib

/-- a word and another spelling of it. -/
def pairsW : List (List UInt8 × List UInt8) :=
  [([101, 120, 105, 115, 116, 115], [226, 136, 131]), ([102, 111, 114, 97, 108, 108], [226, 136, 128]), ([116, 114, 117, 101], [49]), ([102, 97, 108, 115, 101], [48]),
   ([60, 45, 62], [226, 134, 148]), ([45, 62], [226, 134, 146]), ([38], [226, 136, 167]), ([124], [226, 136, 168]), ([94], [226, 138, 149]), ([33], [126]), ([33], [194, 172]),
   ([116, 114, 117, 101], [226, 138, 164]), ([102, 97, 108, 115, 101], [226, 138, 165])]
/-- does a word stand there? -/
def standsB (s : List UInt8) (i : Nat) (w : List UInt8) : Bool := decide ((s.drop i).take w.length = w)
def lowB (c : UInt8) : Bool := decide (97 ≤ c.toNat ∧ c.toNat ≤ 122)
def ldB (c : UInt8) : Bool := lowB c || digB c

/-- an atom that has other spellings. -/
def Kp (core : List UInt8) (k : Nat × Nat) : Prop :=
  (∃ p ∈ pairsW, p.1 = core) ∧ (∃ c t, core = c :: t ∧ c ≠ 32) ∧ ∀ p ∈ pairsW, (∀ r, (core ++ r).take p.1.length = p.1 → p.1 = core) ∧ (p.1 = core → (p.2, k) ∈ signs ∨ ((p.2 = [48] ∨ p.2 = [49]) ∧ Alt core k p.2))
/-- a name, or ite. -/
def Kw (core : List UInt8) : Prop := ∃ c t, core = c :: t ∧ (c = 120 ∨ c = 105) ∧ core.all ldB = true
/-- a bracket, a comma, a colon. -/
def Ks (core : List UInt8) : Prop := ∃ c, core = [c] ∧ (c = 40 ∨ c = 41 ∨ c = 44 ∨ c = 58)
def AOk : Atom → Prop
  | .sp => True
  | .tok core k => Kp core k ∨ Kw core ∨ Ks core

theorem pairs_head {p : List UInt8 × List UInt8} (h : p ∈ pairsW) : ∃ c t, p.1 = c :: t ∧ c ≠ 32 ∧ c ≠ 120 ∧ c ≠ 105 ∧ c ≠ 40 ∧ c ≠ 41 ∧ c ≠ 44 ∧ c ≠ 58 := by
  simp only [pairsW, List.mem_cons, List.not_mem_nil, or_false] at h
  rcases h with rfl | rfl | rfl | rfl | rfl | rfl | rfl | rfl | rfl | rfl | rfl | rfl | rfl <;> exact ⟨_, _, rfl, by decide, by decide, by decide, by decide, by decide, by decide, by decide⟩
theorem pairs_len {p : List UInt8 × List UInt8} (h : p ∈ pairsW) : 1 ≤ p.1.length ∧ p.1.length ≤ 6 ∧ p.2.length ≤ 3 := by
  revert p
  show ∀ p ∈ pairsW, 1 ≤ p.1.length ∧ p.1.length ≤ 6 ∧ p.2.length ≤ 3
  decide
theorem no_head {l : List UInt8} {c : UInt8} {t : List UInt8} (e : l = c :: t) {p : List UInt8 × List UInt8} (hp : p ∈ pairsW) (hc : c = 32 ∨ c = 120 ∨ c = 105 ∨ c = 40 ∨ c = 41 ∨ c = 44 ∨ c = 58) : l.take p.1.length ≠ p.1 := by
  obtain ⟨d, s, ed, h1, h2, h3, h4, h5, h6, h7⟩ := pairs_head hp
  rw [ed, e]
  simp only [List.length_cons, List.take_succ_cons]
  intro hh
  injection hh with hh _
  subst hh
  rcases hc with h | h | h | h | h | h | h <;> contradiction

theorem kp_of {core : List UInt8} {k : Nat × Nat} (h1 : ∃ p ∈ pairsW, p.1 = core) (h2 : ∃ c t, core = c :: t ∧ c ≠ 32) (h3 : ∀ p ∈ pairsW, p.1 ≠ core → ∃ n, n < p.1.length ∧ n < core.length ∧ p.1[n]? ≠ core[n]?) (h4 : ∀ p ∈ pairsW, p.1 = core → (p.2, k) ∈ signs ∨ ((p.2 = [48] ∨ p.2 = [49]) ∧ Alt core k p.2)) : Kp core k := by
  refine ⟨h1, h2, fun p hp => ⟨fun r hr => ?_, h4 p hp⟩⟩
  apply Classical.byContradiction
  intro hn
  obtain ⟨n, n1, n2, n3⟩ := h3 p hp hn
  apply n3
  have := congrArg (fun l => l[n]?) hr
  simp only [List.getElem?_take, n1, if_true] at this
  rw [List.getElem?_append_left n2] at this
  exact this.symm
theorem word_true : WordTok [116, 114, 117, 101] (2, 1) := ⟨116, [114, 117, 101], rfl, by decide, by decide, by decide, fun p => by simp [wordT]⟩
theorem word_false : WordTok [102, 97, 108, 115, 101] (2, 0) := ⟨102, [97, 108, 115, 101], rfl, by decide, by decide, by decide, fun p => by simp [wordT]⟩
theorem alt_true : Alt [116, 114, 117, 101] (2, 1) [49] := .inr (.inr ⟨1, by decide, rfl, by decide, word_true⟩)
theorem alt_false : Alt [102, 97, 108, 115, 101] (2, 0) [48] := .inr (.inr ⟨0, by decide, rfl, by decide, word_false⟩)
def diffAt (a b : List UInt8) : Bool := (List.range 6).any fun n => decide (n < a.length) && decide (n < b.length) && decide (a[n]? ≠ b[n]?)
theorem diff_of {core : List UInt8} (h : (pairsW.all fun p => decide (p.1 = core) || diffAt p.1 core) = true) : ∀ p ∈ pairsW, p.1 ≠ core → ∃ n, n < p.1.length ∧ n < core.length ∧ p.1[n]? ≠ core[n]? := by
  intro p hp hne
  rw [List.all_eq_true] at h
  have := h p hp
  simp only [Bool.or_eq_true, decide_eq_true_eq, hne, false_or, diffAt, List.any_eq_true, Bool.and_eq_true] at this
  obtain ⟨n, _, ⟨a, b⟩, c⟩ := this
  exact ⟨n, a, b, c⟩
theorem sg_of {core : List UInt8} {k : Nat × Nat} (h : (pairsW.all fun p => decide (p.1 ≠ core) || decide ((p.2, k) ∈ signs)) = true) : ∀ p ∈ pairsW, p.1 = core → (p.2, k) ∈ signs ∨ ((p.2 = [48] ∨ p.2 = [49]) ∧ Alt core k p.2) := by
  intro p hp he
  rw [List.all_eq_true] at h
  have := h p hp
  simp only [ne_eq, Bool.or_eq_true, decide_eq_true_eq, he, not_true_eq_false, false_or] at this
  exact .inl this
theorem sg_bit {core : List UInt8} {k : Nat × Nat} {v : List UInt8} (hv : v = [48] ∨ v = [49]) (ha : Alt core k v) (h : (pairsW.all fun p => decide (p.1 ≠ core) || (decide ((p.2, k) ∈ signs) || decide (p.2 = v))) = true) : ∀ p ∈ pairsW, p.1 = core → (p.2, k) ∈ signs ∨ ((p.2 = [48] ∨ p.2 = [49]) ∧ Alt core k p.2) := by
  intro p hp he
  rw [List.all_eq_true] at h
  have := h p hp
  simp only [ne_eq, Bool.or_eq_true, decide_eq_true_eq, he, not_true_eq_false, false_or] at this
  rcases this with h | h
  · exact .inl h
  · rw [h]; exact .inr ⟨hv, ha⟩
theorem ld_dec (n : Nat) : (decDigits n).all ldB = true := by
  have := dec_all n
  rw [List.all_eq_true] at this ⊢
  intro c hc
  simp [ldB, this c hc]
theorem ok_item {x : Item} {a : List Atom} (h : IsIt x a) : ∀ y ∈ a, AOk y := by
  cases h using IsIt.cas <;> intro y hy <;> simp only [List.mem_cons, List.not_mem_nil, or_false] at hy
  case neg => subst hy; exact .inl (kp_of (by decide) ⟨_, _, rfl, by decide⟩ (diff_of (by decide)) (sg_of (by decide)))
  case open_ => subst hy; exact .inr (.inr ⟨_, rfl, by decide⟩)
  case close => subst hy; exact .inr (.inr ⟨_, rfl, by decide⟩)
  case comma => rcases hy with rfl | rfl; exact .inr (.inr ⟨_, rfl, by decide⟩); trivial
  case colon => rcases hy with rfl | rfl; exact .inr (.inr ⟨_, rfl, by decide⟩); trivial
  case ite => subst hy; exact .inr (.inl ⟨_, _, rfl, by decide, by decide⟩)
  case true_ => subst hy; exact .inl (kp_of (by decide) ⟨_, _, rfl, by decide⟩ (diff_of (by decide)) (sg_bit (.inr rfl) alt_true (by decide)))
  case false_ => subst hy; exact .inl (kp_of (by decide) ⟨_, _, rfl, by decide⟩ (diff_of (by decide)) (sg_bit (.inl rfl) alt_false (by decide)))
  case ex => rcases hy with rfl | rfl; exact .inl (kp_of (by decide) ⟨_, _, rfl, by decide⟩ (diff_of (by decide)) (sg_of (by decide))); trivial
  case all => rcases hy with rfl | rfl; exact .inl (kp_of (by decide) ⟨_, _, rfl, by decide⟩ (diff_of (by decide)) (sg_of (by decide))); trivial
  case and_ => rcases hy with rfl | rfl | rfl; trivial; exact .inl (kp_of (by decide) ⟨_, _, rfl, by decide⟩ (diff_of (by decide)) (sg_of (by decide))); trivial
  case or_ => rcases hy with rfl | rfl | rfl; trivial; exact .inl (kp_of (by decide) ⟨_, _, rfl, by decide⟩ (diff_of (by decide)) (sg_of (by decide))); trivial
  case xor_ => rcases hy with rfl | rfl | rfl; trivial; exact .inl (kp_of (by decide) ⟨_, _, rfl, by decide⟩ (diff_of (by decide)) (sg_of (by decide))); trivial
  case imp => rcases hy with rfl | rfl | rfl; trivial; exact .inl (kp_of (by decide) ⟨_, _, rfl, by decide⟩ (diff_of (by decide)) (sg_of (by decide))); trivial
  case iff_ => rcases hy with rfl | rfl | rfl; trivial; exact .inl (kp_of (by decide) ⟨_, _, rfl, by decide⟩ (diff_of (by decide)) (sg_of (by decide))); trivial
  case var n h0 h1 => subst hy; exact .inr (.inl ⟨_, _, rfl, by decide, by rw [List.all_cons, ld_dec]; decide⟩)
theorem ok_atoms {l : List Item} {a : List Atom} (h : Its l a) : ∀ y ∈ a, AOk y := by
  induction h using Its.ind with
  | nil => intro y hy; cases hy
  | cons hx _ ih =>
    intro y hy
    rcases List.mem_append.1 hy with h | h
    · exact ok_item hx y h
    · exact ih y h
/-- P13.7, with what its atoms are. -/
theorem spells2 {f : List Nd} {T : List UInt8} (h : printF f = .ok T) : ∃ a, atext a = T ∧ WellA a ∧ (∀ y ∈ a, AOk y) ∧ ∀ t, RAs a t → t.length ≤ 1048576 → parseF t = .ok f := by
  unfold printF at h
  split at h
  · next t ht =>
    obtain ⟨hg, hp⟩ := treeOf_some ht
    split at h
    · next h1 =>
      split at h
      · cases h
        obtain ⟨a, ha⟩ := its_tree t hg 0 true
        obtain ⟨e1, e2⟩ := its_text ha
        have hw := well_atoms ha (well_tree t hg 0 true [] (.inl rfl) (fun c h => by cases h))
        refine ⟨a, e1, hw, ok_atoms ha, fun s hs hl => ?_⟩
        obtain ⟨q, tr, e3, h3, h4⟩ := respelt_well hs hw [] .nil
        rw [List.nil_append] at e3
        rw [e3, ← hp]
        exact parse_spelt t hg h1.2 (by rw [hp]; exact h1.1) q tr h3 (h4.trans e2) (by rw [← e3]; exact hl)
      · cases h
    · cases h
  · cases h
theorem RAs.snoc {l : List Atom} {t : List UInt8} (h : RAs l t) {a : Atom} {o : List UInt8} (ha : RA a o) : RAs (l ++ [a]) (t ++ o) := by
  induction h using RAs.ind with
  | nil => have := RAs.cons ha .nil; simpa using this
  | cons hx _ ih => rw [List.append_assoc]; exact .cons hx ih

/-! ### a text that is gone through atom by atom -/
def Gone (a : List Atom) (i : Nat) (t : List UInt8) (re : List Atom) : Prop := ∃ fr, a = fr ++ re ∧ i = (atext fr).length ∧ RAs fr t ∧ t.length ≤ 12 * i
theorem Gone.nil (a : List Atom) : Gone a 0 [] a := ⟨[], rfl, rfl, .nil, Nat.le_refl _⟩
theorem Gone.fin {a : List Atom} {i : Nat} {t : List UInt8} (h : Gone a i t []) : i = (atext a).length ∧ RAs a t := by
  obtain ⟨fr, e, hi, hr, _⟩ := h
  rw [List.append_nil] at e
  subst e
  exact ⟨hi, hr⟩
theorem Gone.next {a : List Atom} {i : Nat} {t : List UInt8} {x : Atom} {re : List Atom} (h : Gone a i t (x :: re)) {o : List UInt8} (ho : RA x o) (hl : o.length ≤ 12 * x.text.length) : Gone a (i + x.text.length) (t ++ o) re := by
  obtain ⟨fr, e, hi, hr, hl2⟩ := h
  refine ⟨fr ++ [x], by rw [e]; simp, ?_, hr.snoc ho, by rw [List.length_append]; omega⟩
  rw [atext_append, List.length_append, hi]
  simp [atext]
theorem Gone.here {a : List Atom} {i : Nat} {t : List UInt8} {x : Atom} {re : List Atom} (h : Gone a i t (x :: re)) : (atext a).drop i = x.text ++ atext re := by
  obtain ⟨fr, e, hi, _⟩ := h
  rw [e, atext_append, hi, List.drop_left]
  simp [atext]
theorem Gone.len {a : List Atom} {i : Nat} {t : List UInt8} {re : List Atom} (h : Gone a i t re) : t.length ≤ 12 * i ∧ i + (atext re).length = (atext a).length := by
  obtain ⟨fr, e, hi, _, hl⟩ := h
  refine ⟨hl, ?_⟩
  rw [e, atext_append, List.length_append, hi]
theorem Gone.mem {a : List Atom} {i : Nat} {t : List UInt8} {x : Atom} {re : List Atom} (h : Gone a i t (x :: re)) : x ∈ a := by
  obtain ⟨fr, e, _⟩ := h
  rw [e]; simp
theorem well_tail {fr re : List Atom} (h : WellA (fr ++ re)) : WellA re := by
  induction fr with
  | nil => exact h
  | cons x r ih =>
    cases x using Atom.cas with
    | sp => exact ih h
    | tok c k => exact ih h.2
theorem Gone.well {a : List Atom} {i : Nat} {t : List UInt8} {re : List Atom} (h : Gone a i t re) (hw : WellA a) : WellA re := by
  obtain ⟨fr, e, _⟩ := h
  rw [e] at hw
  exact well_tail hw
theorem stands_of {s r : List UInt8} {i : Nat} {p : List UInt8} (h : s.drop i = r) : standsB s i p = decide (r.take p.length = p) := by
  unfold standsB; rw [h]
theorem none_head {s t : List UInt8} {i : Nat} {c : UInt8} (h : s.drop i = c :: t) (hc : c = 32 ∨ c = 120 ∨ c = 105 ∨ c = 40 ∨ c = 41 ∨ c = 44 ∨ c = 58) : ∀ p ∈ pairsW, standsB s i p.1 = false := fun p hp => by
  rw [stands_of h]
  exact decide_eq_false (no_head rfl hp hc)
theorem kp_only {core : List UInt8} {k : Nat × Nat} (h : Kp core k) {s r : List UInt8} {i : Nat} (hd : s.drop i = core ++ r) {p : List UInt8 × List UInt8} (hp : p ∈ pairsW) (hs : standsB s i p.1 = true) : p.1 = core := by
  rw [stands_of hd] at hs
  exact (h.2.2 p hp).1 r (of_decide_eq_true hs)
theorem kp_some {core : List UInt8} {k : Nat × Nat} (h : Kp core k) {s r : List UInt8} {i : Nat} (hd : s.drop i = core ++ r) : ∃ p ∈ pairsW, standsB s i p.1 = true := by
  obtain ⟨p, hp, e⟩ := h.1
  refine ⟨p, hp, ?_⟩
  rw [stands_of hd, e]
  exact decide_eq_true (List.take_left' rfl)
theorem ra_core {core : List UInt8} {k : Nat × Nat} : RA (.tok core k) core := ⟨core, [], by simp, .inl rfl, .inr ⟨rfl, .inl rfl⟩⟩
theorem ra_core_sp {core : List UInt8} {k : Nat × Nat} : RA (.tok core k) (core ++ [32]) := ⟨core, [32], rfl, .inl rfl, .inl rfl⟩
theorem ra_alt_sp {core : List UInt8} {k : Nat × Nat} (h : Kp core k) {p : List UInt8 × List UInt8} (hp : p ∈ pairsW) (e : p.1 = core) : RA (.tok core k) (p.2 ++ [32]) := by
  refine ⟨p.2, [32], rfl, ?_, .inl rfl⟩
  rcases (h.2.2 p hp).2 e with h | ⟨_, h⟩
  · exact .inr (.inl h)
  · exact h
theorem ra_alt {core : List UInt8} {k : Nat × Nat} (h : Kp core k) {p : List UInt8 × List UInt8} (hp : p ∈ pairsW) (e : p.1 = core) (h0 : p.2 ≠ [48]) (h1 : p.2 ≠ [49]) : RA (.tok core k) p.2 := by
  rcases (h.2.2 p hp).2 e with h | ⟨h | h, _⟩
  · exact ⟨p.2, [], by simp, .inr (.inl h), .inr ⟨rfl, .inr h⟩⟩
  · exact absurd h h0
  · exact absurd h h1
end PureForm
/-
  FormulaSpells: spelling.
-/
namespace Go.Proofs.YtdkboifpdodonabGreatDoor.Doc
open Go.RowKit Go.Deep PureCnf PureForm
set_option maxRecDepth 100000

theorem extract_list (s : ByteArray) (i j : Nat) : (s.extract i j).data.toList = (s.data.toList.drop i).take (j - i) := by
  rw [ByteArray.data_extract, Array.toList_extract]
theorem extract_str (s : ByteArray) (i j : Nat) : s.extract i j = ⟨((s.data.toList.take j).drop i).toArray⟩ := by
  apply ByteArray.ext
  apply Array.ext'
  rw [extract_list, List.drop_take]
theorem ByteArray_toList (l : List UInt8) : (⟨l.toArray⟩ : ByteArray).toList = l := by
  simp
theorem add_block (a : Addr) (j : Nat) : (a.add j).block = a.block := by unfold Addr.add; split <;> rfl

def wordAt (j : Nat) : List UInt8 := if j % 2 = 0 then (pairsW.getD (j / 2) ([], [])).1 else (pairsW.getD (j / 2) ([], [])).2
/-- what spelling answers. -/
def SpellOut (s : List UInt8) (i : Nat) (e : Ending) : Prop :=
  (∃ p ∈ pairsW, standsB s i p.1 = true ∧ e = .returned (.tuple #[str p.2, .int .i64 (p.1.length : Int)])) ∨ ((∀ p ∈ pairsW, standsB s i p.1 = false) ∧ e = .returned (.tuple #[.string ⟨#[]⟩, .int .i64 0]))

set_option maxHeartbeats 1000000 in
set_option maxRecDepth 100000 in
theorem spelling_any (s : ByteArray) (i : Nat) (x : Int) (w : World) (hs : s.size ≤ 1048576) (hi : i < s.size) :
    Calls Tryz.prog 31 #[.string s, .int .i64 (i : Int), .int .i64 x] w fun e w' =>
      SpellOut s.data.toList i e ∧ Below w.heap.size w w' := by
  go_enter Tryz.func31, Tryz.ntmps31
  go_wp2
  obtain ⟨X, hX⟩ : ∃ X : World, X = w.alloc (Obj.cells #[Value.string ⟨#[101, 120, 105, 115, 116, 115]⟩, Value.string ⟨#[226, 136, 131]⟩, Value.string ⟨#[102, 111, 114, 97, 108, 108]⟩, Value.string ⟨#[226, 136, 128]⟩, Value.string ⟨#[116, 114, 117, 101]⟩, Value.string ⟨#[49]⟩, Value.string ⟨#[102, 97, 108, 115, 101]⟩, Value.string ⟨#[48]⟩, Value.string ⟨#[60, 45, 62]⟩, Value.string ⟨#[226, 134, 148]⟩, Value.string ⟨#[45, 62]⟩, Value.string ⟨#[226, 134, 146]⟩, Value.string ⟨#[38]⟩, Value.string ⟨#[226, 136, 167]⟩, Value.string ⟨#[124]⟩, Value.string ⟨#[226, 136, 168]⟩, Value.string ⟨#[94]⟩, Value.string ⟨#[226, 138, 149]⟩, Value.string ⟨#[33]⟩, Value.string ⟨#[126]⟩, Value.string ⟨#[33]⟩, Value.string ⟨#[194, 172]⟩, Value.string ⟨#[116, 114, 117, 101]⟩, Value.string ⟨#[226, 138, 164]⟩, Value.string ⟨#[102, 97, 108, 115, 101]⟩, Value.string ⟨#[226, 138, 165]⟩] 9) := ⟨_, rfl⟩
  have HB : Hid (Below w.heap.size w X) := by rw [hX]; exact (Below.refl _ _).alloc (Nat.le_refl _) _
  have HC : Hid (∀ j : Nat, j < 26 → X.cell? ⟨w.heap.size, j, none⟩ = some (str (wordAt j))) := fun j hj => by
    rw [hX, cell_row (heap_alloc_new w _)]
    obtain rfl | rfl | rfl | rfl | rfl | rfl | rfl | rfl | rfl | rfl | rfl | rfl | rfl | rfl | rfl | rfl | rfl | rfl | rfl | rfl | rfl | rfl | rfl | rfl | rfl | rfl : j = 0 ∨ j = 1 ∨ j = 2 ∨ j = 3 ∨ j = 4 ∨ j = 5 ∨ j = 6 ∨ j = 7 ∨ j = 8 ∨ j = 9 ∨ j = 10 ∨ j = 11 ∨ j = 12 ∨ j = 13 ∨ j = 14 ∨ j = 15 ∨ j = 16 ∨ j = 17 ∨ j = 18 ∨ j = 19 ∨ j = 20 ∨ j = 21 ∨ j = 22 ∨ j = 23 ∨ j = 24 ∨ j = 25 := by omega
    all_goals rfl
  have hsz : w.heap.size < X.heap.size := by rw [hX]; simp
  rw [← hX]
  clear hX
  have HLEN : Hid (∀ j : Nat, j < 26 → 1 ≤ (wordAt j).length ∧ (wordAt j).length ≤ 6) := by
    show ∀ j : Nat, j < 26 → 1 ≤ (wordAt j).length ∧ (wordAt j).length ≤ 6
    decide
  have HMEM : Hid (∀ q : Nat, q < 13 → (wordAt (2 * q), wordAt (2 * q + 1)) ∈ pairsW) := by
    show ∀ q : Nat, q < 13 → (wordAt (2 * q), wordAt (2 * q + 1)) ∈ pairsW
    decide
  have HALL : Hid (∀ p ∈ pairsW, ∃ q, q < 13 ∧ p.1 = wordAt (2 * q)) := by
    intro p hp
    simp only [pairsW, List.mem_cons, List.not_mem_nil, or_false] at hp
    rcases hp with rfl | rfl | rfl | rfl | rfl | rfl | rfl | rfl | rfl | rfl | rfl | rfl | rfl
    · exact ⟨0, by decide, rfl⟩
    · exact ⟨1, by decide, rfl⟩
    · exact ⟨2, by decide, rfl⟩
    · exact ⟨3, by decide, rfl⟩
    · exact ⟨4, by decide, rfl⟩
    · exact ⟨5, by decide, rfl⟩
    · exact ⟨6, by decide, rfl⟩
    · exact ⟨7, by decide, rfl⟩
    · exact ⟨8, by decide, rfl⟩
    · exact ⟨9, by decide, rfl⟩
    · exact ⟨10, by decide, rfl⟩
    · exact ⟨11, by decide, rfl⟩
    · exact ⟨12, by decide, rfl⟩
  obtain ⟨c, hc⟩ : ∃ c : Bool, (bits BinOp.and IntKind.i64 x 1 == 1) = c := ⟨_, rfl⟩
  go_loopw [9] (fun kv W => ∃ m : Nat, m ≤ 13 ∧ kv = .int .i64 ((2 * m : Nat) : Int) ∧ W = X ∧ Hid (∀ q, q < m → standsB s.data.toList i (wordAt (2 * (if c = true then 12 - q else q))) = false)) (fun kv _ => 26 - (intOf kv).toNat)
  case atStart => exact ⟨0, by omega, rfl, rfl, fun q hq => by omega⟩
  case round =>
    obtain ⟨m, hm, rfl, rfl, HQ⟩ := hrel
    by_cases hlt : m < 13
    · obtain ⟨j, hj⟩ : ∃ j, j = 2 * (if c = true then 12 - m else m) := ⟨_, rfl⟩
      have hj26 : j + 1 < 26 := by rw [hj]; split <;> omega
      obtain ⟨wd, hwd⟩ : ∃ wd, wd = wordAt j := ⟨_, rfl⟩
      obtain ⟨alt, halt⟩ : ∃ alt, alt = wordAt (j + 1) := ⟨_, rfl⟩
      have c1 := HC.out j (by omega)
      have c2 := HC.out (j + 1) hj26
      obtain ⟨l1, l2⟩ := HLEN.out j (by omega)
      rw [← hwd] at c1 l1 l2
      rw [← halt] at c2
      have HP : Hid ((wd, alt) ∈ pairsW) := by
        have := HMEM.out (if c = true then 12 - m else m) (by split <;> omega)
        rw [hwd, halt, hj]
        exact this
      have HNX : standsB s.data.toList i wd = false → Hid (∀ q, q < m + 1 → standsB s.data.toList i (wordAt (2 * (if c = true then 12 - q else q))) = false) := fun h q hq => by
        by_cases hqm : q < m
        · exact HQ.out q hqm
        · obtain rfl : q = m := by omega
          rw [← hj, ← hwd]
          exact h
      have hjc : (c = true ∧ j = 24 - 2 * m) ∨ (c = false ∧ j = 2 * m) := by
        cases c with
        | true => left; rw [hj]; simp; omega
        | false => right; rw [hj]; simp
      have HW := hid hwd
      clear hwd halt hj HQ
      by_cases hle : i + wd.length ≤ s.size
      · have hleI : (i : Int) + (wd.length : Int) ≤ (s.size : Int) := by omega
        by_cases hst : s.extract i (i + wd.length) = ⟨wd.toArray⟩
        · have HST : Hid (standsB s.data.toList i wd = true) := by
            rw [extract_str] at hst
            have h2 : ((s.data.toList.take (i + wd.length)).drop i) = wd := by
              have := congrArg (fun b : ByteArray => b.data.toList) hst
              simpa using this
            rw [List.drop_take, Nat.add_sub_cancel_left] at h2
            exact decide_eq_true h2
          rcases hjc with ⟨rfl, rfl⟩ | ⟨rfl, rfl⟩
          all_goals
            go_wp2
            exact bodyPost_ret (v := .tuple #[str alt, .int .i64 (wd.length : Int)]) (by simp [results, Tryz.results31, go_sem]) rfl ⟨.inl ⟨(wd, alt), HP.out, HST.out, rfl⟩, HB.out⟩
        · have HST : Hid (standsB s.data.toList i wd = false) := by
            show _ = _
            cases h : standsB s.data.toList i wd with
            | false => rfl
            | true =>
              exfalso
              apply hst
              have h2 := of_decide_eq_true h
              rw [extract_str, List.drop_take, Nat.add_sub_cancel_left, h2]
          have hstB : ((s.extract i (i + wd.length)).toList == wd) = false := by
            rw [beq_eq_false_iff_ne]
            intro h
            apply hst
            rw [ByteArray_toList] at h
            apply ByteArray.ext
            apply Array.ext'
            simpa using h
          have HN2 := hid (HNX HST.out)
          clear HNX
          rcases hjc with ⟨rfl, rfl⟩ | ⟨rfl, rfl⟩
          all_goals
            go_wp2
            exact ⟨⟨m + 1, by omega, by go_num, by first | rfl | trivial, by first | exact HN2.out | simpa using HN2.out⟩, by simp [intOf]; omega⟩
      · have hleI : ¬ (i : Int) + (wd.length : Int) ≤ (s.size : Int) := by omega
        have HST : Hid (standsB s.data.toList i wd = false) := by
          refine decide_eq_false fun h => ?_
          have := congrArg List.length h
          simp at this
          omega
        have HN2 := hid (HNX HST.out)
        clear HNX
        rcases hjc with ⟨rfl, rfl⟩ | ⟨rfl, rfl⟩
        all_goals
          go_wp2
          exact ⟨⟨m + 1, by omega, by go_num, by first | rfl | trivial, by first | exact HN2.out | simpa using HN2.out⟩, by simp [intOf]; omega⟩
    · obtain rfl : m = 13 := by omega
      have HNO : Hid (∀ p ∈ pairsW, standsB s.data.toList i p.1 = false) := fun p hp => by
        obtain ⟨q, hq, e⟩ := HALL.out p hp
        rw [e]
        cases hcc : c with
        | true =>
          have := HQ.out (12 - q) (by omega)
          rw [hcc, if_pos rfl, show 12 - (12 - q) = q by omega] at this
          exact this
        | false =>
          have := HQ.out q hq
          rw [hcc, if_neg (by decide)] at this
          exact this
      clear HQ
      go_wp2
      exact bodyPost_ret (v := .tuple #[.string ⟨#[]⟩, .int .i64 0]) (by simp [results, Tryz.results31, go_sem]) rfl ⟨.inr ⟨HNO.out, rfl⟩, HB.out⟩
end Go.Proofs.YtdkboifpdodonabGreatDoor.Doc
