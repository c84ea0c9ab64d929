import Derived.Test.YtdkboifpdodonacGreatDoorZ04
set_option linter.unusedSimpArgs false
/-
 A formula printed and read is the same: plain mathematics.
-/
namespace PureForm
open PureCnf Go.Lib

theorem noAln_head {c : UInt8} {t : List UInt8} (h : alnB c = false) : noAln (c :: t) := fun d hd => by simp at hd; subst hd; exact h
theorem no_close (r : List Item) (tl : List UInt8) : noAln (textOf (closeI :: r) ++ tl) := by rw [textOf_cons]; exact noAln_head (by decide)
theorem no_open (r : List Item) (tl : List UInt8) : noAln (textOf (openI :: r) ++ tl) := by rw [textOf_cons]; exact noAln_head (by decide)
theorem no_comma (r : List Item) (tl : List UInt8) : noAln (textOf (commaI :: r) ++ tl) := by rw [textOf_cons]; exact noAln_head (by decide)
theorem no_colon (r : List Item) (tl : List UInt8) : noAln (textOf (colonI :: r) ++ tl) := by rw [textOf_cons]; exact noAln_head (by decide)
theorem no_sign (op : Int) (r : List Item) (tl : List UInt8) : noAln (textOf (signI op :: r) ++ tl) := by
 rw [textOf_cons]
 unfold signI
 split
 ·exact noAln_head (by decide)
 ·split
  ·exact noAln_head (by decide)
  ·split
   ·exact noAln_head (by decide)
   ·split
    ·exact noAln_head (by decide)
    ·exact noAln_head (by decide)

theorem bl_nil : blanks [] := fun _ h => by cases h
theorem bl_one : blanks [32] := fun c h => by simp at h; subst h; decide
theorem sign_not : SignItem notI := ⟨[], [33], [], rfl, bl_nil, bl_nil, by simp [signs, notI]⟩
theorem sign_open : SignItem openI := ⟨[], [40], [], rfl, bl_nil, bl_nil, by simp [signs, openI]⟩
theorem sign_close : SignItem closeI := ⟨[], [41], [], rfl, bl_nil, bl_nil, by simp [signs, closeI]⟩
theorem sign_comma : SignItem commaI := ⟨[], [44], [32], rfl, bl_nil, bl_one, by simp [signs, commaI]⟩
theorem sign_colon : SignItem colonI := ⟨[], [58], [32], rfl, bl_nil, bl_one, by simp [signs, colonI]⟩
theorem sign_op {op : Int} (h : two op = true) : SignItem (signI op) := by
 rcases two_cases h with rfl | rfl | rfl | rfl | rfl
 ·exact ⟨[32], [38], [32], rfl, bl_one, bl_one, by simp [signs, signI]⟩
 ·exact ⟨[32], [124], [32], rfl, bl_one, bl_one, by simp [signs, signI]⟩
 ·exact ⟨[32], [94], [32], rfl, bl_one, bl_one, by simp [signs, signI]⟩
 ·exact ⟨[32], [45, 62], [32], rfl, bl_one, bl_one, by simp [signs, signI]⟩
 ·exact ⟨[32], [60, 45, 62], [32], rfl, bl_one, bl_one, by simp [signs, signI]⟩

theorem word_const {n : Int} (r : List UInt8) (h : n = 0 ∨ n = 1) (hr : noAln r) : WordItem (constI n) r := by
 rcases h with rfl | rfl
 ·exact ⟨102, [97, 108, 115, 101], [], rfl, bl_nil, by decide, by decide, by decide, fun p => by simp [wordT, constI], .inr hr⟩
 ·exact ⟨116, [114, 117, 101], [], rfl, bl_nil, by decide, by decide, by decide, fun p => by simp [wordT, constI], .inr hr⟩
theorem word_ite (r : List UInt8) (hr : noAln r) : WordItem iteI r := ⟨105, [116, 101], [], rfl, bl_nil, by decide, by decide, by decide, fun p => by simp [wordT, iteI], .inr hr⟩
theorem word_quant {o : Int} (r : List UInt8) (h : isQ o = true) : WordItem (quantI o) r := by
 have h' : o = 4 ∨ o = 5 := by simpa [isQ] using h
 rcases h' with rfl | rfl
 ·exact ⟨101, [120, 105, 115, 116, 115], [32], rfl, bl_one, by decide, by decide, by decide, fun p => by simp [wordT, quantI], .inl (by simp)⟩
 ·exact ⟨102, [111, 114, 97, 108, 108], [32], rfl, bl_one, by decide, by decide, by decide, fun p => by simp [wordT, quantI], .inl (by simp)⟩
theorem word_var {n : Int} (r : List UInt8) (h : n < 65536) (hr : noAln r) : WordItem (varI n) r := by
 refine ⟨120, decDigits n.toNat, [], by simp [varI], bl_nil, by decide, ?_, by simp [varI], fun p => ?_, .inr hr⟩
 ·refine List.all_eq_true.2 fun c hc => ?_
  have := List.all_eq_true.1 (dec_all n.toNat) c hc
  simp [alnB, this]
 ·obtain ⟨c, t, e⟩ : ∃ c t, decDigits n.toNat = c :: t := List.exists_cons_of_ne_nil (by rw [decDigits]; split <;> simp)
  have hc : digB c = true := List.all_eq_true.1 (dec_all n.toNat) c (by rw [e]; exact List.mem_cons_self ..)
  have hn := dec_num n.toNat 65535 (by omega)
  unfold wordT
  rw [if_neg (by simp), if_neg (by simp), if_neg (by simp), if_neg (by simp), if_neg (by simp), if_pos ⟨rfl, .inr ⟨c, by rw [e]; rfl, hc⟩⟩]
  simp only [List.tail_cons, hn]
  rw [if_pos (by omega)]
  simp [varI]; omega

theorem no_q {q : Int} (hq : isQ q = true) (t : Tr) (last : Bool) (tl : List UInt8) : noAln (textOf (t.its q last) ++ tl) := by
 by_cases h : ∃ x a, t = .un x a ∧ isQ x.1 = true ∧ x.1 = q
 ·obtain ⟨x, a, rfl, h1, h2⟩ := h
  (first | rw [Tr.its_un, if_pos h1, if_pos h2] | rw [Tr.its_bi, if_pos h1, if_pos h2] | rw [Tr.its_te, if_pos h1, if_pos h2] | rw [Tr.its_lf, if_pos h1, if_pos h2])
  exact no_comma _ _
 ·rw [its_q hq h]
  exact no_colon _ _

theorem well_wrap {b : Bool} {l : List Item} {tl : List UInt8} (h : ∀ tl, noAln tl → Well l tl) (ht : noAln tl) : Well (wrapI b l) tl := by
 unfold wrapI
 split
 ·exact ⟨.inl sign_open, Well.app (h _ (no_close _ _)) ⟨.inl sign_close, trivial⟩⟩
 ·exact h _ ht
theorem well_tree (t : Tr) : t.good → ∀ q last tl, (q = 0 ∨ isQ q = true) → noAln tl → Well (t.its q last) tl := by
 have colon : ∀ (t : Tr) (last : Bool) (tl : List UInt8), Well (t.its 0 last) tl → ∀ q, (q = 0 ∨ isQ q = true) → (¬ ∃ x a, t = .un x a ∧ isQ x.1 = true ∧ x.1 = q) → Well (t.its q last) tl := by
  intro t last tl h q hq hn
  rcases hq with rfl | hq
  ·exact h
  ·rw [its_q hq hn]
   exact ⟨.inl sign_colon, h⟩
 induction t using Tr.ind with
 | lf x =>
  intro hx q last tl hq ht
  refine colon _ _ _ ?_ q hq (by rintro ⟨x, a, e, _⟩; cases e)
  obtain ⟨p, v⟩ := x
  rcases hx with ⟨rfl, hv⟩ | ⟨rfl, h5, h6⟩
  ·exact ⟨.inr (word_const _ hv ht), trivial⟩
  ·exact ⟨.inr (word_var _ h6 ht), trivial⟩
 | un x a ih =>
  rintro ⟨hx, hg⟩ q last tl hq ht
  by_cases hi : isQ x.1 = true
  ·have hn0 : x.1 ≠ 0 := by simp [isQ] at hi; omega
   have hv : x.2 < 65536 := by
    rcases hx with ⟨h, _⟩ | ⟨_, _, h⟩
    ·rw [h] at hi; simp [isQ] at hi
    ·exact h
   have hrest : Well (varI x.2 :: a.its x.1 true) tl := ⟨.inr (word_var _ hv (no_q hi a true tl)), ih hg x.1 true tl (.inr hi) ht⟩
   by_cases hxq : x.1 = q
   ·(first | rw [Tr.its_un, if_pos hi, if_pos hxq] | rw [Tr.its_bi, if_pos hi, if_pos hxq] | rw [Tr.its_te, if_pos hi, if_pos hxq] | rw [Tr.its_lf, if_pos hi, if_pos hxq])
    rw [hxq] at hrest
    exact ⟨.inl sign_comma, hrest⟩
   ·(first | rw [Tr.its_un, if_pos hi, if_neg hxq] | rw [Tr.its_bi, if_pos hi, if_neg hxq] | rw [Tr.its_te, if_pos hi, if_neg hxq] | rw [Tr.its_lf, if_pos hi, if_neg hxq])
    have : Well (quantI x.1 :: varI x.2 :: a.its x.1 true) tl := ⟨.inr (word_quant _ hi), hrest⟩
    rcases hq with rfl | hq
    ·simpa [sepI] using this
    ·have h0 : q ≠ 0 := by simp [isQ] at hq; omega
     rw [sepI, if_neg h0]
     exact ⟨.inl sign_colon, this⟩
  ·refine colon _ _ _ ?_ q hq (by rintro ⟨x', a', e, h, _⟩; have e1 := congrArg Tr.root e; rw [Tr.root_un, Tr.root_un] at e1; subst e1; exact hi h)
   (first | rw [Tr.its_un, if_neg hi, sepI, if_pos rfl, List.nil_append] | rw [Tr.its_bi, if_neg hi, sepI, if_pos rfl, List.nil_append] | rw [Tr.its_te, if_neg hi, sepI, if_pos rfl, List.nil_append] | rw [Tr.its_lf, if_neg hi, sepI, if_pos rfl, List.nil_append])
   exact ⟨.inl sign_not, well_wrap (fun tl h => ih hg 0 _ tl (.inl rfl) h) ht⟩
 | bi x a b iha ihb =>
  rintro ⟨⟨hx, _⟩, hga, hgb⟩ q last tl hq ht
  refine colon _ _ _ ?_ q hq (by rintro ⟨x, a, e, _⟩; cases e)
  (first | rw [Tr.its_un, sepI, if_pos rfl, List.nil_append] | rw [Tr.its_bi, sepI, if_pos rfl, List.nil_append] | rw [Tr.its_te, sepI, if_pos rfl, List.nil_append] | rw [Tr.its_lf, sepI, if_pos rfl, List.nil_append])
  exact Well.app (well_wrap (fun tl h => iha hga 0 _ tl (.inl rfl) h) (no_sign _ _ _)) ⟨.inl (sign_op hx), well_wrap (fun tl h => ihb hgb 0 _ tl (.inl rfl) h) ht⟩
 | te x a b c iha ihb ihc =>
  rintro ⟨_, hga, hgb, hgc⟩ q last tl hq ht
  refine colon _ _ _ ?_ q hq (by rintro ⟨x, a, e, _⟩; cases e)
  (first | rw [Tr.its_un, sepI, if_pos rfl, List.nil_append] | rw [Tr.its_bi, sepI, if_pos rfl, List.nil_append] | rw [Tr.its_te, sepI, if_pos rfl, List.nil_append] | rw [Tr.its_lf, sepI, if_pos rfl, List.nil_append])
  have w3 : Well (commaI :: (c.its 0 true ++ [closeI])) tl := ⟨.inl sign_comma, Well.app (ihc hgc 0 true _ (.inl rfl) (no_close _ _)) ⟨.inl sign_close, trivial⟩⟩
  have w2 : Well (commaI :: (b.its 0 true ++ commaI :: (c.its 0 true ++ [closeI]))) tl := ⟨.inl sign_comma, Well.app (ihb hgb 0 true _ (.inl rfl) (no_comma _ _)) w3⟩
  have w1 : Well (iteI :: openI :: (a.its 0 true ++ commaI :: (b.its 0 true ++ commaI :: (c.its 0 true ++ [closeI])))) tl :=
   ⟨.inr (word_ite _ (no_open _ _)), .inl sign_open, Well.app (iha hga 0 true _ (.inl rfl) (no_comma _ _)) w2⟩
  simpa using w1

/-- the text of a tree. -/
def Tr.text (t : Tr) : List UInt8 := textOf (t.its 0 true)

/-- P13.2: a formula printed and read is the same again. -/
theorem parse_text (t : Tr) (hg : t.good) (hn : t.need true ≤ 64) (hm : t.post.length ≤ 65536) (hl : t.text.length ≤ 1048576) : parseF t.text = .ok t.post := by
 obtain ⟨s, h1, h2⟩ := feed_tree t hg hn hm
 have h3 := lex (t.its 0 true) [] [] bl_nil (well_tree t hg 0 true [] (.inl rfl) (fun c h => by cases h))
 have h4 := run_feed _ _ _ _ h3 h1 h2
 simp only [List.nil_append, List.length_nil] at h4
 unfold parseF
 rw [if_neg (by omega)]
 unfold Tr.text
 rw [h4]
end PureForm
/-
 A list of nodes is one tree, or none; formed, printed, named variables: plain mathematics.
-/
namespace PureForm
open PureCnf Go.Lib

/-- may a node have these numbers? -/
def nodeB (x : Nd) : Bool :=
 if x.1 = 1 then decide (x.2 = 0 ∨ x.2 = 1)
 else if x.1 = 2 ∨ x.1 = 4 ∨ x.1 = 5 then decide (0 ≤ x.2 ∧ x.2 < 65536)
 else decide ((x.1 = 3 ∨ (6 ≤ x.1 ∧ x.1 ≤ 11)) ∧ x.2 = 0)
/-- a node joins the trees so far, the last on top. -/
def joinT (x : Nd) (st : List Tr) : Option (List Tr) :=
 if nodeB x = true then
  (if x.1 = 1 ∨ x.1 = 2 then some (.lf x :: st)
   else if x.1 ≤ 5 then (match st with
    | a :: t => some (.un x a :: t)
    | [] => none)
   else if x.1 ≤ 10 then (match st with
    | b :: a :: t => some (.bi x a b :: t)
    | _ => none)
   else (match st with
    | c :: b :: a :: t => some (.te x a b c :: t)
    | _ => none))
 else none
def build : List Nd → List Tr → Option (List Tr)
 | [], st => some st
 | x :: r, st => (joinT x st).bind (build r)



def postAll (st : List Tr) : List Nd := st.reverse.flatMap Tr.post
theorem postAll_cons (t : Tr) (st : List Tr) : postAll (t :: st) = postAll st ++ t.post := by simp [postAll]
theorem build_inv (f : List Nd) : ∀ (st st' : List Tr), (∀ t ∈ st, t.good) → build f st = some st' → postAll st' = postAll st ++ f ∧ ∀ t ∈ st', t.good := by
 induction f with
 | nil =>
  intro st st' h e
  rw [build] at e
  cases e
  exact ⟨by simp, h⟩
 | cons x r ih =>
  intro st st' h e
  obtain ⟨o, v⟩ := x
  rw [build, Option.bind_eq_some_iff] at e
  obtain ⟨s1, ej, e⟩ := e
  rw [joinT.eq_def] at ej
  split at ej
  ·next hn =>
   have hn' : nodeB (o, v) = true := hn
   unfold nodeB at hn'
   simp only at hn' ej
   split at ej
   ·next h12 =>
    cases ej
    have hg : (Tr.lf (o, v)).good := by
     rcases h12 with rfl | rfl
     ·exact .inl ⟨rfl, by simpa using hn'⟩
     ·exact .inr ⟨rfl, by simpa using hn'⟩
    obtain ⟨e1, e2⟩ := ih _ _ (fun t ht => by
     rcases List.mem_cons.1 ht with rfl | ht
     ·exact hg
     ·exact h t ht) e
    refine ⟨?_, e2⟩
    rw [e1, postAll_cons]
    simp [Tr.post_lf, Tr.post_un, Tr.post_bi, Tr.post_te]
   ·next h12 =>
    split at ej
    ·next h5 =>
     split at ej
     ·next a t =>
      cases ej
      have hx : (o = 3 ∧ v = 0) ∨ (isQ o = true ∧ 0 ≤ v ∧ v < 65536) := by
       by_cases h45 : o = 4 ∨ o = 5
       ·right
        rw [if_neg (by omega), if_pos (by omega)] at hn'
        exact ⟨by simp [isQ, h45], by simpa using hn'⟩
       ·left
        rw [if_neg (by omega), if_neg (by omega)] at hn'
        have := of_decide_eq_true hn'
        omega
      obtain ⟨e1, e2⟩ := ih _ _ (fun s hs => by
       rcases List.mem_cons.1 hs with rfl | hs
       ·exact ⟨hx, h a (List.mem_cons_self ..)⟩
       ·exact h s (List.mem_cons_of_mem _ hs)) e
      refine ⟨?_, e2⟩
      rw [e1, postAll_cons, postAll_cons]
      simp [Tr.post_lf, Tr.post_un, Tr.post_bi, Tr.post_te]
     ·cases ej
    ·next h5 =>
     have hv : v = 0 := by
      rw [if_neg (by omega), if_neg (by omega)] at hn'
      exact (of_decide_eq_true hn').2
     have ho : 6 ≤ o ∧ o ≤ 11 := by
      rw [if_neg (by omega), if_neg (by omega)] at hn'
      have := (of_decide_eq_true hn').1
      omega
     split at ej
     ·next h10 =>
      split at ej
      ·next b a t =>
       cases ej
       obtain ⟨e1, e2⟩ := ih _ _ (fun s hs => by
        rcases List.mem_cons.1 hs with rfl | hs
        ·exact ⟨⟨by simp [two]; omega, hv⟩, h a (List.mem_cons_of_mem _ (List.mem_cons_self ..)), h b (List.mem_cons_self ..)⟩
        ·exact h s (List.mem_cons_of_mem _ (List.mem_cons_of_mem _ hs))) e
       refine ⟨?_, e2⟩
       rw [e1, postAll_cons, postAll_cons, postAll_cons]
       simp [Tr.post_lf, Tr.post_un, Tr.post_bi, Tr.post_te]
      ·cases ej
     ·next h10 =>
      split at ej
      ·next c b a t =>
       cases ej
       obtain ⟨e1, e2⟩ := ih _ _ (fun s hs => by
        rcases List.mem_cons.1 hs with rfl | hs
        ·exact ⟨⟨by show o = 11; omega, hv⟩, h a (List.mem_cons_of_mem _ (List.mem_cons_of_mem _ (List.mem_cons_self ..))), h b (List.mem_cons_of_mem _ (List.mem_cons_self ..)), h c (List.mem_cons_self ..)⟩
        ·exact h s (List.mem_cons_of_mem _ (List.mem_cons_of_mem _ (List.mem_cons_of_mem _ hs)))) e
       refine ⟨?_, e2⟩
       rw [e1, postAll_cons, postAll_cons, postAll_cons, postAll_cons]
       simp [Tr.post_lf, Tr.post_un, Tr.post_bi, Tr.post_te]
      ·cases ej
  ·cases ej

/-- the one tree of a list. -/
def treeOf (f : List Nd) : Option Tr := match build f [] with
 | some [t] => some t
 | _ => none
theorem treeOf_some {f : List Nd} {t : Tr} (h : treeOf f = some t) : t.good ∧ t.post = f := by
 unfold treeOf at h
 split at h
 ·next s hs =>
  cases h
  obtain ⟨e1, e2⟩ := build_inv f [] [t] (fun _ hx => by cases hx) hs
  refine ⟨e2 t (List.mem_cons_self ..), ?_⟩
  simpa [postAll] using e1
 ·cases h

/-- P13.2: the text, 134: no formula, 5: too long. -/
def printF (f : List Nd) : Except Nat (List UInt8) := match treeOf f with
 | some t => if f.length ≤ 65536 ∧ t.need true ≤ 64 then (if t.text.length ≤ 1048576 then .ok t.text else .error 5) else .error 134
 | none => .error 134
/-- a formula printed and read is the same again. -/
theorem parse_print {f : List Nd} {T : List UInt8} (h : printF f = .ok T) : parseF T = .ok f := by
 unfold printF at h
 split at h
 ·next t ht =>
  obtain ⟨hg, hp⟩ := treeOf_some ht
  split at h
  ·next h1 =>
   split at h
   ·next h2 =>
    cases h
    rw [← hp]
    exact parse_text t hg h1.2 (by rw [hp]; exact h1.1) h2
   ·cases h
  ·cases h
 ·cases h
end PureForm
/-
 The landed program's trees: which kind of node a tree is.
-/
namespace Go.Proofs.YtdkboifpdodonacGreatDoor
open Go.RowKit Go.Deep PureCnf PureForm
set_option maxRecDepth 100000

theorem ta139_hit (v : Value) (x : TypeId) (w : World) : (Instr.typeAssert (.iface 139 v) x 139 true).run Tryz.prog w = .ok (.tuple #[v, .bool true]) w := by
 simp [Instr.typeAssert, run_underlying Tryz.underlying139]
theorem ta139_miss (t : TypeId) (h : t ≠ 139) (v : Value) (x : TypeId) (w : World) : (Instr.typeAssert (.iface t v) x 139 true).run Tryz.prog w = .ok (.tuple #[.agg #[.int .i64 0], .bool false]) w := by
 simp [Instr.typeAssert, run_underlying Tryz.underlying139, h, Tryz.zeroValue139]
theorem ta141_hit (v : Value) (x : TypeId) (w : World) : (Instr.typeAssert (.iface 141 v) x 141 true).run Tryz.prog w = .ok (.tuple #[v, .bool true]) w := by
 simp [Instr.typeAssert, run_underlying Tryz.underlying141]
theorem ta141_miss (t : TypeId) (h : t ≠ 141) (v : Value) (x : TypeId) (w : World) : (Instr.typeAssert (.iface t v) x 141 true).run Tryz.prog w = .ok (.tuple #[.agg #[.int .i64 0], .bool false]) w := by
 simp [Instr.typeAssert, run_underlying Tryz.underlying141, h, Tryz.zeroValue141]
theorem ta90_hit (v : Value) (x : TypeId) (w : World) : (Instr.typeAssert (.iface 90 v) x 90 true).run Tryz.prog w = .ok (.tuple #[v, .bool true]) w := by
 simp [Instr.typeAssert, run_underlying Tryz.underlying90]
theorem ta90_miss (t : TypeId) (h : t ≠ 90) (v : Value) (x : TypeId) (w : World) : (Instr.typeAssert (.iface t v) x 90 true).run Tryz.prog w = .ok (.tuple #[.agg #[.nilIface], .bool false]) w := by
 simp [Instr.typeAssert, run_underlying Tryz.underlying90, h, Tryz.zeroValue90]
theorem ta92_hit (v : Value) (x : TypeId) (w : World) : (Instr.typeAssert (.iface 92 v) x 92 true).run Tryz.prog w = .ok (.tuple #[v, .bool true]) w := by
 simp [Instr.typeAssert, run_underlying Tryz.underlying92]
theorem ta92_miss (t : TypeId) (h : t ≠ 92) (v : Value) (x : TypeId) (w : World) : (Instr.typeAssert (.iface t v) x 92 true).run Tryz.prog w = .ok (.tuple #[.agg #[.int .i64 0, .int .i64 0, .nilIface], .bool false]) w := by
 simp [Instr.typeAssert, run_underlying Tryz.underlying92, h, Tryz.zeroValue92]
theorem ta94_hit (v : Value) (x : TypeId) (w : World) : (Instr.typeAssert (.iface 94 v) x 94 true).run Tryz.prog w = .ok (.tuple #[v, .bool true]) w := by
 simp [Instr.typeAssert, run_underlying Tryz.underlying94]
theorem ta94_miss (t : TypeId) (h : t ≠ 94) (v : Value) (x : TypeId) (w : World) : (Instr.typeAssert (.iface t v) x 94 true).run Tryz.prog w = .ok (.tuple #[.agg #[.int .i64 0, .nilIface, .nilIface], .bool false]) w := by
 simp [Instr.typeAssert, run_underlying Tryz.underlying94, h, Tryz.zeroValue94]
theorem ta96_hit (v : Value) (x : TypeId) (w : World) : (Instr.typeAssert (.iface 96 v) x 96 true).run Tryz.prog w = .ok (.tuple #[v, .bool true]) w := by
 simp [Instr.typeAssert, run_underlying Tryz.underlying96]
theorem ta96_miss (t : TypeId) (h : t ≠ 96) (v : Value) (x : TypeId) (w : World) : (Instr.typeAssert (.iface t v) x 96 true).run Tryz.prog w = .ok (.tuple #[.agg #[.nilIface, .nilIface, .nilIface], .bool false]) w := by
 simp [Instr.typeAssert, run_underlying Tryz.underlying96, h, Tryz.zeroValue96]

end Go.Proofs.YtdkboifpdodonacGreatDoor
/-
 The landed program's trees as values; binding, sides, brackets.
-/
namespace Go.Proofs.YtdkboifpdodonacGreatDoor
open Go.RowKit Go.Deep PureCnf PureForm
set_option maxRecDepth 100000

/-- a tree, as the landed program holds it. -/
def tv : Tr → Value := Tr.fold (fun x => if x.1 = 1 then .iface 139 (.agg #[.int .i64 x.2]) else .iface 141 (.agg #[.int .i64 x.2]))
 (fun x _ a => if x.1 = 3 then .iface 90 (.agg #[a]) else .iface 92 (.agg #[.int .i64 x.1, .int .i64 x.2, a]))
 (fun x _ _ a b => .iface 94 (.agg #[.int .i64 x.1, a, b])) (fun _ _ _ _ a b c => .iface 96 (.agg #[a, b, c]))
theorem tv_lf (x : Nd) : tv (.lf x) = if x.1 = 1 then .iface 139 (.agg #[.int .i64 x.2]) else .iface 141 (.agg #[.int .i64 x.2]) := rfl
theorem tv_un (x : Nd) (a : Tr) : tv (.un x a) = if x.1 = 3 then .iface 90 (.agg #[tv a]) else .iface 92 (.agg #[.int .i64 x.1, .int .i64 x.2, tv a]) := rfl
theorem tv_bi (x : Nd) (a b : Tr) : tv (.bi x a b) = .iface 94 (.agg #[.int .i64 x.1, tv a, tv b]) := rfl
theorem tv_te (x : Nd) (a b c : Tr) : tv (.te x a b c) = .iface 96 (.agg #[tv a, tv b, tv c]) := rfl

set_option maxHeartbeats 400000 in
theorem binding_any (o : Int) (w : World) (h : two o = true) : Calls Tryz.prog 86 #[.int .i64 o] w fun e w' => e = .returned (.int .i64 (bindsI o : Nat)) ∧ w' = w := by
 rcases two_cases h with rfl | rfl | rfl | rfl | rfl
 all_goals
  go_enter Tryz.func86, Tryz.ntmps86
  go_wp2
  go_ret
  exact ⟨rfl, rfl⟩

/-- a spot. -/
abbrev spotV (least : Int) (fol : Bool) : Value := .agg #[.int .i64 least, .bool fol]
/-- is a tree in brackets there? -/
def brkT (t : Tr) (least : Int) (fol : Bool) : Bool := (two t.root.1 && decide ((bindsI t.root.1 : Int) < least)) || (isQ t.root.1 && fol)

theorem below_box (w : World) (o : Obj) : Below w.heap.size w (w.alloc o) := (Below.refl _ _).alloc (Nat.le_refl _) _

set_option maxHeartbeats 1000000 in
theorem brackets_other (k : TypeId) (hk1 : k ≠ 94) (hk2 : k ≠ 92) (v : Value) (least : Int) (fol : Bool) (w : World) :
  Calls Tryz.prog 68 #[spotV least fol, .iface k v] w fun e w' => e = .returned (.bool false) ∧ Below w.heap.size w w' := by
 have m1 := fun x W => ta94_miss k hk1 v x W
 have m2 := fun x W => ta92_miss k hk2 v x W
 have HB := hid (below_box w (Obj.cells #[.int .i64 least, .bool fol] 117))
 clear hk1 hk2
 go_enter Tryz.func68, Tryz.ntmps68
 go_wp2
 go_ret
 exact ⟨rfl, HB.out⟩
theorem tv_form (t : Tr) : ∃ k u, tv t = .iface k u := by
 cases t using Tr.cas with
 | lf x => (first | rw [tv_lf] | rw [tv_un]); split <;> exact ⟨_, _, rfl⟩
 | un x a => (first | rw [tv_lf] | rw [tv_un]); split <;> exact ⟨_, _, rfl⟩
 | bi x a b => exact ⟨_, _, rfl⟩
 | te x a b c => exact ⟨_, _, rfl⟩

set_option maxHeartbeats 1000000 in
theorem brackets_quant (o n : Int) (k : TypeId) (u : Value) (least : Int) (fol : Bool) (w : World) :
  Calls Tryz.prog 68 #[spotV least fol, .iface 92 (.agg #[.int .i64 o, .int .i64 n, .iface k u])] w fun e w' => e = .returned (.bool fol) ∧ Below w.heap.size w w' := by
 have m1 := fun x W => ta94_miss 92 (by decide) (.agg #[.int .i64 o, .int .i64 n, .iface k u]) x W
 have m2 := fun x W => ta92_hit (.agg #[.int .i64 o, .int .i64 n, .iface k u]) x W
 obtain ⟨WA, hWA⟩ : ∃ WA, WA = (w.alloc (Obj.cells #[.int .i64 least, .bool fol] 117)).alloc (Obj.cells #[.int .i64 o, .int .i64 n, .iface k u] 92) := ⟨_, rfl⟩
 have HB : Hid (Below w.heap.size w WA) := by show Below _ _ _; rw [hWA]; exact (below_box _ _).alloc (by simp) _
 have r0 : WA.heap[w.heap.size]? = some (.cells #[.int .i64 least, .bool fol] 117 (0, 0)) := by rw [hWA]; exact (Below.heap_alloc _ _ _ (by simp)).trans (heap_alloc_new w _)
 have c0 := fun j => cell_row r0 j
 have HWA := hid hWA
 clear hWA r0
 go_enter Tryz.func68, Tryz.ntmps68
 go_wp2_with (rw [← HWA.out])
 go_ret
 exact ⟨rfl, HB.out⟩
set_option maxHeartbeats 1000000 in
theorem brackets_two (o : Int) (h : two o = true) (k k2 : TypeId) (u u2 : Value) (least : Int) (fol : Bool) (w : World) :
  Calls Tryz.prog 68 #[spotV least fol, .iface 94 (.agg #[.int .i64 o, .iface k u, .iface k2 u2])] w fun e w' => e = .returned (.bool (decide ((bindsI o : Int) < least))) ∧ Below w.heap.size w w' := by
 have m1 := fun x W => ta94_hit (.agg #[.int .i64 o, .iface k u, .iface k2 u2]) x W
 obtain ⟨WA, hWA⟩ : ∃ WA, WA = (w.alloc (Obj.cells #[.int .i64 least, .bool fol] 117)).alloc (Obj.cells #[.int .i64 o, .iface k u, .iface k2 u2] 94) := ⟨_, rfl⟩
 have HB : Hid (Below w.heap.size w WA) := by show Below _ _ _; rw [hWA]; exact (below_box _ _).alloc (by simp) _
 have r0 : WA.heap[w.heap.size]? = some (.cells #[.int .i64 least, .bool fol] 117 (0, 0)) := by rw [hWA]; exact (Below.heap_alloc _ _ _ (by simp)).trans (heap_alloc_new w _)
 have r1 : WA.heap[w.heap.size + 1]? = some (.cells #[.int .i64 o, .iface k u, .iface k2 u2] 94 (0, 0)) := by
  have := heap_alloc_new (w.alloc (Obj.cells #[.int .i64 least, .bool fol] 117)) (Obj.cells #[.int .i64 o, .iface k u, .iface k2 u2] 94)
  rw [hWA]; simpa using this
 have c0 := fun j => cell_row r0 j
 have c1 := fun j => cell_row r1 j
 have HBI := fun W => hid (binding_any o W h)
 have HWA := hid hWA
 clear hWA r0 r1 h
 go_enter Tryz.func68, Tryz.ntmps68
 go_wp2_with (rw [← HWA.out])
 go_region_held3 (fun W' => W'.cell? ⟨w.heap.size, 0, none⟩ = some (.int .i64 least) ∧ W'.cell? ⟨w.heap.size + 1, 0, none⟩ = some (.int .i64 o)) (go_keep) (first | (go_at_call 86; refine (HBI _).out.mono ?_; rintro e w' ⟨rfl, rfl⟩))
 all_goals
  go_wp2
  go_ret
  exact ⟨rfl, HB.out.drew⟩

end Go.Proofs.YtdkboifpdodonacGreatDoor
/-
 How long the text of a tree is at most, and how deep it goes: plain mathematics.
-/
namespace PureForm
open PureCnf Go.Lib

theorem digits_le {n : Int} (h0 : 0 ≤ n) (h : n < 65536) : (decDigits n.toNat).length ≤ 21 := by
 have := itoa_length_le n (by omega) (by omega)
 obtain ⟨m, rfl⟩ : ∃ m : Nat, n = m := ⟨n.toNat, by omega⟩
 rw [itoa_nonneg] at this
 exact this
theorem len_var {n : Int} (h0 : 0 ≤ n) (h : n < 65536) : (varI n).1.length ≤ 22 := by
 have := digits_le h0 h
 simp only [varI, List.length_cons]
 omega
theorem len_sep (q : Int) : (textOf (sepI q)).length ≤ 2 := by
 unfold sepI; split <;> simp [textOf, colonI]
theorem len_wrap (b : Bool) (l : List Item) : (textOf (wrapI b l)).length ≤ (textOf l).length + 2 := by
 unfold wrapI; split <;> simp [textOf, openI, closeI]
theorem len_sign (o : Int) : (signI o).1.length ≤ 5 := by
 unfold signI; split
 ·simp
 ·split
  ·simp
  ·split
   ·simp
   ·split <;> simp
theorem len_const (n : Int) : (constI n).1.length ≤ 5 := by
 unfold constI; split <;> simp
theorem len_quant (o : Int) : (quantI o).1.length ≤ 7 := by
 unfold quantI; split <;> simp

theorem text_len (t : Tr) : t.good → ∀ q last, (textOf (t.its q last)).length ≤ 32 * t.post.length := by
 induction t using Tr.ind with
 | lf x =>
  intro h q last
  have h1 := len_sep q
  simp only [Tr.its_lf, Tr.its_un, Tr.its_bi, Tr.its_te, Tr.post_lf, Tr.post_un, Tr.post_bi, Tr.post_te, textOf_append, List.length_append, textOf_cons, List.length_cons, List.length_nil]
  split
  ·have := len_const x.2
   simp [textOf] at h1 ⊢; omega
  ·next hx =>
   rcases h with h | h
   ·exact absurd h.1 hx
   ·have := len_var h.2.1 h.2.2
    simp [textOf] at h1 ⊢; omega
 | un x a ih =>
  rintro ⟨hx, ha⟩ q last
  have h1 := len_sep q
  (first | rw [Tr.its_un] | rw [Tr.its_bi] | rw [Tr.its_te] | rw [Tr.its_lf])
  simp only [Tr.post_lf, Tr.post_un, Tr.post_bi, Tr.post_te, List.length_append, List.length_cons, List.length_nil]
  split
  ·next hq =>
   have hv := len_var (n := x.2) (by rcases hx with h | h <;> omega) (by rcases hx with h | h <;> omega)
   split
   ·have := ih ha q true
    simp only [textOf_cons, List.length_append, commaI, List.length_cons, List.length_nil]
    omega
   ·have := ih ha x.1 true
    have h2 := len_quant x.1
    simp only [textOf_append, textOf_cons, List.length_append]
    omega
  ·have h2 := len_wrap (brk (two a.root.1) last a.root.1) (a.its 0 (brk (two a.root.1) last a.root.1 || last))
   have := ih ha 0 (brk (two a.root.1) last a.root.1 || last)
   simp only [textOf_append, textOf_cons, List.length_append, notI, List.length_cons, List.length_nil]
   omega
 | bi x a b iha ihb =>
  rintro ⟨hx, ha, hb⟩ q last
  have h1 := len_sep q
  have h2 := len_sign x.1
  have h3 := len_wrap (brk (firstB x.1 a.root.1) false a.root.1) (a.its 0 (brk (firstB x.1 a.root.1) false a.root.1 || false))
  have h4 := len_wrap (brk (secondB x.1 b.root.1) last b.root.1) (b.its 0 (brk (secondB x.1 b.root.1) last b.root.1 || last))
  have h5 := iha ha 0 (brk (firstB x.1 a.root.1) false a.root.1 || false)
  have h6 := ihb hb 0 (brk (secondB x.1 b.root.1) last b.root.1 || last)
  simp only [Tr.its_lf, Tr.its_un, Tr.its_bi, Tr.its_te, Tr.post_lf, Tr.post_un, Tr.post_bi, Tr.post_te, textOf_append, textOf_cons, List.length_append, List.length_cons, List.length_nil]
  omega
 | te x a b c iha ihb ihc =>
  rintro ⟨hx, ha, hb, hc⟩ q last
  have h1 := len_sep q
  have h2 := iha ha 0 true
  have h3 := ihb hb 0 true
  have h4 := ihc hc 0 true
  simp only [Tr.its_lf, Tr.its_un, Tr.its_bi, Tr.its_te, Tr.post_lf, Tr.post_un, Tr.post_bi, Tr.post_te, List.cons_append, textOf_append, textOf_cons, List.length_append, List.length_cons, List.length_nil, iteI, openI, commaI, closeI]
  simp only [textOf, List.flatMap_nil, List.length_nil] at h1 h2 h3 h4 ⊢
  omega

theorem wrapN_le (b : Bool) (n : Nat) : wrapN b n ≤ n + 1 := by unfold wrapN; split <;> omega
theorem need_le (t : Tr) : ∀ last, t.need last ≤ 2 * t.post.length := by
 induction t using Tr.ind with
 | lf x => intro last; simp [Tr.need_lf, Tr.need_un, Tr.need_bi, Tr.need_te]
 | un x a ih =>
  intro last
  (first | rw [Tr.need_un] | rw [Tr.need_bi] | rw [Tr.need_te] | rw [Tr.need_lf])
  simp only [Tr.post_lf, Tr.post_un, Tr.post_bi, Tr.post_te, List.length_append, List.length_cons, List.length_nil]
  split
  ·have := ih true; omega
  ·have h1 := wrapN_le (brk (two a.root.1) last a.root.1) (a.need (brk (two a.root.1) last a.root.1 || last))
   have := ih (brk (two a.root.1) last a.root.1 || last)
   omega
 | bi x a b iha ihb =>
  intro last
  have h1 := wrapN_le (brk (firstB x.1 a.root.1) false a.root.1) (a.need (brk (firstB x.1 a.root.1) false a.root.1 || false))
  have h2 := wrapN_le (brk (secondB x.1 b.root.1) last b.root.1) (b.need (brk (secondB x.1 b.root.1) last b.root.1 || last))
  have h3 := iha (brk (firstB x.1 a.root.1) false a.root.1 || false)
  have h4 := ihb (brk (secondB x.1 b.root.1) last b.root.1 || last)
  simp only [Tr.need_lf, Tr.need_un, Tr.need_bi, Tr.need_te, Tr.post_lf, Tr.post_un, Tr.post_bi, Tr.post_te, List.length_append, List.length_cons, List.length_nil]
  omega
 | te x a b c iha ihb ihc =>
  intro last
  have h1 := iha true
  have h2 := ihb true
  have h3 := ihc true
  simp only [Tr.need_lf, Tr.need_un, Tr.need_bi, Tr.need_te, Tr.post_lf, Tr.post_un, Tr.post_bi, Tr.post_te, List.length_append, List.length_cons, List.length_nil]
  omega

/-- a tree that is no quantifier of the one around it is printed behind a colon. -/
theorem its_sep (t : Tr) (q : Int) (h0 : q ≠ 0) (hr : t.root.1 ≠ q) (last : Bool) : t.its q last = colonI :: t.its 0 last := by
 have hs : sepI q = [colonI] := by unfold sepI; rw [if_neg h0]
 have hs0 : sepI 0 = [] := rfl
 cases t using Tr.cas with
 | lf x => simp [Tr.its_lf, Tr.its_un, Tr.its_bi, Tr.its_te, hs, hs0]
 | un x a =>
  have hr' : x.1 ≠ q := hr
  (first | rw [Tr.its_un, Tr.its_un, hs, hs0] | rw [Tr.its_bi, Tr.its_bi, hs, hs0] | rw [Tr.its_te, Tr.its_te, hs, hs0] | rw [Tr.its_lf, Tr.its_lf, hs, hs0])
  by_cases hx : isQ x.1 = true
  ·rw [if_pos hx, if_pos hx, if_neg hr', if_neg (by intro h; rw [h] at hx; exact absurd hx (by decide))]
   simp
  ·rw [if_neg hx, if_neg hx]
   simp
 | bi x a b => simp [Tr.its_lf, Tr.its_un, Tr.its_bi, Tr.its_te, hs, hs0]
 | te x a b c => simp [Tr.its_lf, Tr.its_un, Tr.its_bi, Tr.its_te, hs, hs0]
end PureForm
/-
 The landed program's sides, brackets, nest over a tree.
-/
namespace Go.Proofs.YtdkboifpdodonacGreatDoor
open Go.RowKit Go.Deep PureCnf PureForm
set_option maxRecDepth 100000

theorem not_q {o : Int} (h : two o = true) : isQ o = false := by
 rcases two_cases h with rfl | rfl | rfl | rfl | rfl <;> rfl
theorem brackets_any (t : Tr) (ht : t.good) (least : Int) (fol : Bool) (w : World) :
  Calls Tryz.prog 68 #[spotV least fol, tv t] w fun e w' => e = .returned (.bool (brkT t least fol)) ∧ Below w.heap.size w w' := by
 cases t using Tr.cas with
 | lf x =>
  obtain ⟨o, n⟩ := x
  rcases ht with ⟨h1, _⟩ | ⟨h1, _⟩
  ·simp only at h1
   subst h1
   exact brackets_other 139 (by decide) (by decide) _ least fol w
  ·simp only at h1
   subst h1
   exact brackets_other 141 (by decide) (by decide) _ least fol w
 | un x a =>
  obtain ⟨o, n⟩ := x
  obtain ⟨hx, _⟩ := ht
  rcases hx with ⟨h1, h2⟩ | ⟨h1, _⟩
  ·simp only at h1 h2
   subst h1 h2
   exact brackets_other 90 (by decide) (by decide) _ least fol w
  ·obtain ⟨k, u, e⟩ := tv_form a
   have h45 : o = 4 ∨ o = 5 := by simpa [isQ] using h1
   have e1 : tv (.un (o, n) a) = .iface 92 (.agg #[.int .i64 o, .int .i64 n, .iface k u]) := by
    (first | rw [tv_un, if_neg (by simp; omega), e] | rw [tv_bi, if_neg (by simp; omega), e] | rw [tv_te, if_neg (by simp; omega), e] | rw [tv_lf, if_neg (by simp; omega), e])
   have e2 : brkT (.un (o, n) a) least fol = fol := by
    have : two o = false := by rcases h45 with rfl | rfl <;> rfl
    simp [brkT, Tr.root_lf, Tr.root_un, Tr.root_bi, Tr.root_te, this, show isQ o = true from h1]
   rw [e1, e2]
   exact brackets_quant o n k u least fol w
 | bi x a b =>
  obtain ⟨o, n⟩ := x
  obtain ⟨⟨h1, _⟩, _, _⟩ := ht
  obtain ⟨k, u, e⟩ := tv_form a
  obtain ⟨k2, u2, e'⟩ := tv_form b
  have e1 : tv (.bi (o, n) a b) = .iface 94 (.agg #[.int .i64 o, .iface k u, .iface k2 u2]) := by (first | rw [tv_un, e, e'] | rw [tv_bi, e, e'] | rw [tv_te, e, e'] | rw [tv_lf, e, e'])
  have e2 : brkT (.bi (o, n) a b) least fol = decide ((bindsI o : Int) < least) := by
   unfold brkT
   show (two o && decide ((bindsI o : Int) < least) || isQ o && fol) = _
   rw [show two o = true from h1, not_q h1]
   cases decide ((bindsI o : Int) < least) <;> rfl
  rw [e1, e2]
  exact brackets_two o h1 k k2 u u2 least fol w
 | te x a b c =>
  obtain ⟨o, n⟩ := x
  obtain ⟨⟨h1, _⟩, _⟩ := ht
  simp only at h1
  subst h1
  exact brackets_other 96 (by decide) (by decide) _ least fol w

/-- where an operand stands. -/
def leastF (o : Int) : Int := if o = 9 then (bindsI o : Int) + 1 else bindsI o
def leastS (o : Int) : Int := if o = 9 then bindsI o else (bindsI o : Int) + 1
set_option maxHeartbeats 1000000 in
theorem sides_any (o : Int) (h : two o = true) (fol : Bool) (w : World) :
  Calls Tryz.prog 87 #[.int .i64 o, .bool fol] w fun e w' => e = .returned (.tuple #[spotV (leastF o) true, spotV (leastS o) fol]) ∧ Below w.heap.size w w' := by
 obtain ⟨WA, hWA⟩ : ∃ WA, WA = (w.alloc (Obj.cells #[.int .i64 0, .bool false] 117)).alloc (Obj.cells #[.int .i64 0, .bool false] 117) := ⟨_, rfl⟩
 have HB : Hid (Below w.heap.size w WA) := by show Below _ _ _; rw [hWA]; exact (below_box _ _).alloc (by simp) _
 have r0 : WA.heap[w.heap.size]? = some (.cells #[.int .i64 0, .bool false] 117 (0, 0)) := by rw [hWA]; exact (Below.heap_alloc _ _ _ (by simp)).trans (heap_alloc_new w _)
 have r1 : WA.heap[w.heap.size + 1]? = some (.cells #[.int .i64 0, .bool false] 117 (0, 0)) := by
  have := heap_alloc_new (w.alloc (Obj.cells #[.int .i64 0, .bool false] 117)) (Obj.cells #[.int .i64 0, .bool false] 117)
  rw [hWA]; simpa using this
 have c0 := fun j => cell_row r0 j
 have c1 := fun j => cell_row r1 j
 have f0 := fun j => unfrozen_row r0 j
 have f1 := fun j => unfrozen_row r1 j
 have HBI := hid (binding_any o WA h)
 have HWA := hid hWA
 clear hWA r0 r1
 rcases two_cases h with rfl | rfl | rfl | rfl | rfl
 all_goals
  clear h
  go_enter Tryz.func87, Tryz.ntmps87
  go_wp2_with (first | (rw [← HWA.out]) | (go_at_call 86; refine HBI.out.mono ?_; rintro e w' ⟨rfl, rfl⟩))
  exact bodyPost_ret (v := .tuple #[spotV (leastF _) true, spotV (leastS _) fol]) (by simp [results, Tryz.results87, go_sem, c0, c1, leastF, leastS, bindsI]; exact IntWalk.wrap64_in _ ⟨by omega, by omega⟩) rfl ⟨rfl, (((HB.out.setCell (p := ⟨w.heap.size, 0, none⟩) (by simp) _).setCell (p := ⟨w.heap.size, 1, none⟩) (by simp) _).setCell (p := ⟨w.heap.size + 1, 0, none⟩) (by simp) _).setCell (p := ⟨w.heap.size + 1, 1, none⟩) (by simp) _⟩

/-- what nestBare answers of a tree. -/
def NestB (t : Tr) : Prop := ∀ (fol : Bool) (w : World), Calls Tryz.prog 69 #[tv t, .bool fol] w fun e w' => e = .returned (.int .i64 (t.need (!fol) : Nat)) ∧ Below w.heap.size w w'
set_option maxHeartbeats 1000000 in
theorem nest_any (t : Tr) (ht : t.good) (hn : t.post.length ≤ 1000000) (H : NestB t) (least : Int) (fol : Bool) (w : World) :
  Calls Tryz.prog 51 #[tv t, spotV least fol] w fun e w' => e = .returned (.int .i64 (wrapN (brkT t least fol) (t.need (brkT t least fol || !fol)) : Nat)) ∧ Below w.heap.size w w' := by
 obtain ⟨WA, hWA⟩ : ∃ WA, WA = w.alloc (Obj.cells #[.int .i64 least, .bool fol] 117) := ⟨_, rfl⟩
 have hB : Below w.heap.size w WA := by rw [hWA]; exact below_box _ _
 have r0 : WA.heap[w.heap.size]? = some (.cells #[.int .i64 least, .bool fol] 117 (0, 0)) := by rw [hWA]; exact heap_alloc_new w _
 have c0 := fun j => cell_row r0 j
 have HBR := hid (brackets_any t ht least fol WA)
 have HN := fun f W => hid (H f W)
 have n1 := need_le t true
 have n2 := need_le t (!fol)
 have HWA := hid hWA
 have HB := hid hB
 have HR0 := hid r0
 obtain ⟨k, u, e⟩ := tv_form t
 rw [e] at HBR ⊢
 simp only [e] at HN
 clear hWA hB r0 H e ht
 cases hb : brkT t least fol with
 | true =>
  rw [hb] at HBR
  have HN1 := fun W => HN false W
  simp only [Bool.not_false] at HN1
  obtain ⟨m, hm⟩ : ∃ m, m = t.need true := ⟨_, rfl⟩
  simp only [← hm] at HN1 n1
  have HG : Hid (wrapN true (t.need (true || !fol)) = m + 1) := by show _ = _; rw [Bool.true_or, ← hm]; rfl
  clear hb HN n2 hm
  go_enter Tryz.func51, Tryz.ntmps51
  go_wp2_with (first | (rw [← HWA.out]) | (go_at_call 68; refine HBR.out.mono ?_; rintro e w1 ⟨rfl, b1⟩; have HB1 := hid (HB.out.trans (b1.mono HB.out.size)); clear b1) | (go_at_call 69; refine (HN1 _).out.mono ?_; rintro e w2 ⟨rfl, b2⟩; have HB2 := hid (HB1.out.trans (b2.mono HB1.out.size)); clear b2))
  go_ret
  rw [HG.out]
  refine ⟨?_, HB2.out⟩
  rw [show (1 : Int) + (m : Int) = ((m + 1 : Nat) : Int) by omega]
  rfl
 | false =>
  rw [hb] at HBR
  have HN1 := fun W => HN fol W
  have HG : Hid (wrapN false (t.need (false || !fol)) = t.need (!fol)) := rfl
  clear hb HN n1
  go_enter Tryz.func51, Tryz.ntmps51
  go_wp2_with (first | (rw [← HWA.out]) | (go_at_call 68; refine HBR.out.mono ?_; rintro e w1 ⟨rfl, b1⟩; have HB1 := hid (HB.out.trans (b1.mono HB.out.size)); have r1 := (b1.block _ (Array.getElem?_eq_some_iff.1 HR0.out).1).trans HR0.out; have c1 := fun j => cell_row r1 j; clear b1 r1) | (go_at_call 69; refine (HN1 _).out.mono ?_; rintro e w2 ⟨rfl, b2⟩; have HB2 := hid (HB1.out.trans (b2.mono HB1.out.size)); clear b2))
  go_ret
  rw [HG.out]
  exact ⟨rfl, HB2.out⟩

end Go.Proofs.YtdkboifpdodonacGreatDoor
/-
 The landed program's nestBare: how many brackets and prefixes a tree has open at most.
-/
namespace Go.Proofs.YtdkboifpdodonacGreatDoor
open Go.RowKit Go.Deep PureCnf PureForm
set_option maxRecDepth 100000

theorem brk_not (a : Tr) (last : Bool) : brkT a 6 (!last) = brk (two a.root.1) last a.root.1 := by
 unfold brkT brk
 by_cases h : two a.root.1 = true
 ·rcases two_cases h with e | e | e | e | e <;> rw [e] <;> cases last <;> rfl
 ·have : two a.root.1 = false := by simpa using h
  rw [this]; simp
theorem brk_first {o : Int} (ho : two o = true) (a : Tr) : brkT a (leastF o) true = brk (firstB o a.root.1) false a.root.1 := by
 unfold brkT brk firstB
 by_cases h : two a.root.1 = true
 ·rcases two_cases h with e | e | e | e | e <;> rw [e] <;> rcases two_cases ho with rfl | rfl | rfl | rfl | rfl <;> decide
 ·have : two a.root.1 = false := by simpa using h
  rw [this]; simp
theorem brk_second {o : Int} (ho : two o = true) (a : Tr) (last : Bool) : brkT a (leastS o) (!last) = brk (secondB o a.root.1) last a.root.1 := by
 unfold brkT brk secondB
 by_cases h : two a.root.1 = true
 ·rcases two_cases h with e | e | e | e | e <;> rw [e] <;> rcases two_cases ho with rfl | rfl | rfl | rfl | rfl <;> cases last <;> decide
 ·have : two a.root.1 = false := by simpa using h
  rw [this]; simp
theorem brk_zero (a : Tr) : brkT a 0 false = false := by
 unfold brkT
 have : ¬ ((bindsI a.root.1 : Int) < 0) := by omega
 simp [this]

set_option maxHeartbeats 1000000 in
theorem nb_leaf (k : TypeId) (h1 : k ≠ 90) (h2 : k ≠ 92) (h3 : k ≠ 94) (h4 : k ≠ 96) (v : Value) (fol : Bool) (w : World) :
  Calls Tryz.prog 69 #[.iface k v, .bool fol] w fun e w' => e = .returned (.int .i64 0) ∧ Below w.heap.size w w' := by
 have m1 := fun x W => ta90_miss k h1 v x W
 have m2 := fun x W => ta92_miss k h2 v x W
 have m3 := fun x W => ta94_miss k h3 v x W
 have m4 := fun x W => ta96_miss k h4 v x W
 clear h1 h2 h3 h4
 go_enter Tryz.func69, Tryz.ntmps69
 go_wp2
 go_ret
 exact ⟨rfl, Below.refl _ _⟩

set_option maxHeartbeats 1000000 in
theorem nb_not (a : Tr) (ha : a.good) (hn : a.post.length ≤ 900000) (HA : NestB a) (fol : Bool) (w : World) :
  Calls Tryz.prog 69 #[.iface 90 (.agg #[tv a]), .bool fol] w fun e w' => e = .returned (.int .i64 ((Tr.un (3, 0) a).need (!fol) : Nat)) ∧ Below w.heap.size w w' := by
 have HN := fun W => hid (nest_any a ha (by omega) HA 6 fol W)
 have hb := brk_not a (!fol)
 rw [Bool.not_not] at hb
 obtain ⟨m, hm⟩ : ∃ m, m = wrapN (brkT a 6 fol) (a.need (brkT a 6 fol || !fol)) := ⟨_, rfl⟩
 have HG : Hid ((Tr.un (3, 0) a).need (!fol) = m + 1) := by
  show _ = _
  (first | rw [Tr.need_un, if_neg (by decide), hm, hb] | rw [Tr.need_bi, if_neg (by decide), hm, hb] | rw [Tr.need_te, if_neg (by decide), hm, hb] | rw [Tr.need_lf, if_neg (by decide), hm, hb])
 have hle := need_le (Tr.un (3, 0) a) (!fol)
 rw [HG.out] at hle
 simp only [Tr.post_lf, Tr.post_un, Tr.post_bi, Tr.post_te, List.length_append, List.length_cons, List.length_nil] at hle
 simp only [← hm] at HN
 obtain ⟨k, u, e⟩ := tv_form a
 rw [e]
 simp only [e] at HN
 have m1 := fun x W => ta90_hit (.agg #[.iface k u]) x W
 obtain ⟨WA, hWA⟩ : ∃ WA, WA = w.alloc (Obj.cells #[.iface k u] 90) := ⟨_, rfl⟩
 have hB : Below w.heap.size w WA := by rw [hWA]; exact below_box _ _
 have r0 : WA.heap[w.heap.size]? = some (.cells #[.iface k u] 90 (0, 0)) := by rw [hWA]; exact heap_alloc_new w _
 have c0 := fun j => cell_row r0 j
 have HWA := hid hWA
 have HB := hid hB
 clear hWA hB r0 hm hb e HA ha
 go_enter Tryz.func69, Tryz.ntmps69
 go_wp2_with (first | (rw [← HWA.out]) | (go_at_call 51; refine (HN _).out.mono ?_; rintro e w1 ⟨rfl, b1⟩; have HB1 := hid (HB.out.trans (b1.mono HB.out.size)); clear b1))
 go_ret
 rw [HG.out]
 refine ⟨?_, HB1.out⟩
 rw [show (1 : Int) + (m : Int) = ((m + 1 : Nat) : Int) by omega]
 rfl

set_option maxHeartbeats 1000000 in
theorem nb_quant (o n : Int) (hq : isQ o = true) (a : Tr) (ha : a.good) (hn : a.post.length ≤ 900000) (HA : NestB a) (fol : Bool) (w : World) :
  Calls Tryz.prog 69 #[.iface 92 (.agg #[.int .i64 o, .int .i64 n, tv a]), .bool fol] w fun e w' => e = .returned (.int .i64 ((Tr.un (o, n) a).need (!fol) : Nat)) ∧ Below w.heap.size w w' := by
 have HN := fun W => hid (nest_any a ha (by omega) HA 0 false W)
 simp only [brk_zero] at HN
 obtain ⟨m, hm⟩ : ∃ m, m = wrapN false (a.need (false || !false)) := ⟨_, rfl⟩
 have HG : Hid ((Tr.un (o, n) a).need (!fol) = m + 1) := by
  show _ = _
  (first | rw [Tr.need_un, if_pos hq, hm] | rw [Tr.need_bi, if_pos hq, hm] | rw [Tr.need_te, if_pos hq, hm] | rw [Tr.need_lf, if_pos hq, hm]); rfl
 have hle := need_le (Tr.un (o, n) a) (!fol)
 rw [HG.out] at hle
 simp only [Tr.post_lf, Tr.post_un, Tr.post_bi, Tr.post_te, List.length_append, List.length_cons, List.length_nil] at hle
 simp only [← hm] at HN
 obtain ⟨k, u, e⟩ := tv_form a
 rw [e]
 simp only [e] at HN
 have m1 := fun x W => ta90_miss 92 (by decide) (.agg #[.int .i64 o, .int .i64 n, .iface k u]) x W
 have m2 := fun x W => ta92_hit (.agg #[.int .i64 o, .int .i64 n, .iface k u]) x W
 obtain ⟨WA, hWA⟩ : ∃ WA, WA = w.alloc (Obj.cells #[.int .i64 o, .int .i64 n, .iface k u] 92) := ⟨_, rfl⟩
 have hB : Below w.heap.size w WA := by rw [hWA]; exact below_box _ _
 have r0 : WA.heap[w.heap.size]? = some (.cells #[.int .i64 o, .int .i64 n, .iface k u] 92 (0, 0)) := by rw [hWA]; exact heap_alloc_new w _
 have c0 := fun j => cell_row r0 j
 have HWA := hid hWA
 have HB := hid hB
 clear hWA hB r0 hm e HA ha hq
 go_enter Tryz.func69, Tryz.ntmps69
 go_wp2_with (first | (rw [← HWA.out]) | (go_at_call 51; refine (HN _).out.mono ?_; rintro e w1 ⟨rfl, b1⟩; have HB1 := hid (HB.out.trans (b1.mono HB.out.size)); clear b1))
 go_ret
 rw [HG.out]
 refine ⟨?_, HB1.out⟩
 rw [show (1 : Int) + (m : Int) = ((m + 1 : Nat) : Int) by omega]
 rfl

set_option maxHeartbeats 2000000 in
theorem nb_two (o : Int) (ho : two o = true) (a b : Tr) (ha : a.good) (hb : b.good) (hn : a.post.length + b.post.length ≤ 900000) (HA : NestB a) (HBB : NestB b) (fol : Bool) (w : World) :
  Calls Tryz.prog 69 #[.iface 94 (.agg #[.int .i64 o, tv a, tv b]), .bool fol] w fun e w' => e = .returned (.int .i64 ((Tr.bi (o, 0) a b).need (!fol) : Nat)) ∧ Below w.heap.size w w' := by
 have HNA := fun W => hid (nest_any a ha (by omega) HA (leastF o) true W)
 have HNB := fun W => hid (nest_any b hb (by omega) HBB (leastS o) fol W)
 have e1 := brk_first ho a
 have e2 := brk_second ho b (!fol)
 rw [Bool.not_not] at e2
 obtain ⟨m, hm⟩ : ∃ m, m = wrapN (brkT a (leastF o) true) (a.need (brkT a (leastF o) true || !true)) := ⟨_, rfl⟩
 obtain ⟨n, hnn⟩ : ∃ n, n = wrapN (brkT b (leastS o) fol) (b.need (brkT b (leastS o) fol || !fol)) := ⟨_, rfl⟩
 have HG : Hid ((Tr.bi (o, 0) a b).need (!fol) = max m n) := by
  show _ = _
  (first | rw [Tr.need_un, hm, hnn, e1, e2] | rw [Tr.need_bi, hm, hnn, e1, e2] | rw [Tr.need_te, hm, hnn, e1, e2] | rw [Tr.need_lf, hm, hnn, e1, e2]); rfl
 simp only [← hm] at HNA
 simp only [← hnn] at HNB
 have HSD := fun W => hid (sides_any o ho fol W)
 obtain ⟨x, hx⟩ : ∃ x, x = leastF o := ⟨_, rfl⟩
 obtain ⟨y, hy⟩ : ∃ y, y = leastS o := ⟨_, rfl⟩
 simp only [← hx, ← hy] at HNA HNB HSD
 obtain ⟨k, u, e⟩ := tv_form a
 obtain ⟨k2, u2, e'⟩ := tv_form b
 rw [e, e']
 simp only [e] at HNA
 simp only [e'] at HNB
 have m1 := fun x W => ta90_miss 94 (by decide) (.agg #[.int .i64 o, .iface k u, .iface k2 u2]) x W
 have m2 := fun x W => ta92_miss 94 (by decide) (.agg #[.int .i64 o, .iface k u, .iface k2 u2]) x W
 have m3 := fun x W => ta94_hit (.agg #[.int .i64 o, .iface k u, .iface k2 u2]) x W
 obtain ⟨WA, hWA⟩ : ∃ WA, WA = w.alloc (Obj.cells #[.int .i64 o, .iface k u, .iface k2 u2] 94) := ⟨_, rfl⟩
 have hB : Below w.heap.size w WA := by rw [hWA]; exact below_box _ _
 have r0 : WA.heap[w.heap.size]? = some (.cells #[.int .i64 o, .iface k u, .iface k2 u2] 94 (0, 0)) := by rw [hWA]; exact heap_alloc_new w _
 have c0 := fun j => cell_row r0 j
 have HWA := hid hWA
 have HB := hid hB
 have HR0 := hid r0
 clear hWA hB r0 hm hnn e e' HA HBB ha hb e1 e2 hx hy ho
 go_enter Tryz.func69, Tryz.ntmps69
 go_wp2_with (first | (rw [← HWA.out]) | (go_at_call 87; refine (HSD _).out.mono ?_; rintro e w1 ⟨rfl, b1⟩; obtain ⟨X2, hX2⟩ : ∃ X2, X2 = (w1.alloc (Obj.cells #[Value.int .i64 x, Value.bool true] 117)).alloc (Obj.cells #[Value.int .i64 y, Value.bool fol] 117) := ⟨_, rfl⟩; have B12 : Below w1.heap.size w1 X2 := (by rw [hX2]; exact ((Below.refl _ _).alloc (Nat.le_refl _) _).alloc (by simp) _); have BX : Hid (Below w.heap.size w X2) := (HB.out.trans ((b1.trans (B12.mono b1.size)).mono HB.out.size)); have KP : Hid (∀ W, Below X2.heap.size X2 W → W.cell? ⟨w.heap.size, 1, none⟩ = some (.iface k u) ∧ W.cell? ⟨w.heap.size, 2, none⟩ = some (.iface k2 u2) ∧ W.cell? ⟨w1.heap.size, 0, none⟩ = some (.int .i64 x) ∧ W.cell? ⟨w1.heap.size, 1, none⟩ = some (.bool true) ∧ W.cell? ⟨w1.heap.size + 1, 0, none⟩ = some (.int .i64 y) ∧ W.cell? ⟨w1.heap.size + 1, 1, none⟩ = some (.bool fol)) := (fun W hW => by
   have s1 : (w1.alloc (Obj.cells #[Value.int .i64 x, Value.bool true] 117)).heap.size = w1.heap.size + 1 := by simp
   have q0 := (b1.block _ (Array.getElem?_eq_some_iff.1 HR0.out).1).trans HR0.out
   have q1 := (B12.block _ (Array.getElem?_eq_some_iff.1 q0).1).trans q0
   have q2 := (hW.block _ (Array.getElem?_eq_some_iff.1 q1).1).trans q1
   have r1 : X2.heap[w1.heap.size]? = some (.cells #[Value.int .i64 x, Value.bool true] 117 (0, 0)) := by rw [hX2, Below.heap_alloc _ _ _ (by omega)]; exact heap_alloc_new w1 _
   have r2 : X2.heap[w1.heap.size + 1]? = some (.cells #[Value.int .i64 y, Value.bool fol] 117 (0, 0)) := by rw [hX2, ← s1]; exact heap_alloc_new _ _
   have r3 := (hW.block _ (Array.getElem?_eq_some_iff.1 r1).1).trans r1
   have r4 := (hW.block _ (Array.getElem?_eq_some_iff.1 r2).1).trans r2
   exact ⟨cell_row q2 1, cell_row q2 2, cell_row r3 0, cell_row r3 1, cell_row r4 0, cell_row r4 1⟩); obtain ⟨d1, d2, d3, d4, d5, d6⟩ := KP.out X2 (Below.refl _ _); have HX2 := hid hX2; clear b1 hX2 B12) | (have q := HX2; clear q; rw [← HX2.out]; clear HX2))
 go_region_held3 (fun W => W.cell? ⟨w.heap.size, 1, none⟩ = some (.iface k u) ∧ W.cell? ⟨w.heap.size, 2, none⟩ = some (.iface k2 u2) ∧ W.cell? ⟨w1.heap.size, 0, none⟩ = some (.int .i64 x) ∧ W.cell? ⟨w1.heap.size, 1, none⟩ = some (.bool true) ∧ W.cell? ⟨w1.heap.size + 1, 0, none⟩ = some (.int .i64 y) ∧ W.cell? ⟨w1.heap.size + 1, 1, none⟩ = some (.bool fol)) (go_keep) (first
  | (have q := B2; clear q; go_at_call 51; refine (HNB _).out.mono ?_; rintro e w3 ⟨rfl, b3⟩; have B3 := hid (B2.out.trans (b3.mono B2.out.size)); obtain ⟨f1, f2, f3, f4, f5, f6⟩ := KP.out w3 B3.out; clear b3)
  | (go_at_call 51; refine (HNA _).out.mono ?_; rintro e w2 ⟨rfl, b2⟩; have B2 : Hid (Below X2.heap.size X2 w2) := ((Below.refl _ _).drew.trans b2); obtain ⟨e1, e2, e3, e4, e5, e6⟩ := KP.out w2 B2.out; clear b2))
 all_goals go_wp2
 all_goals go_ret
 all_goals
  rw [HG.out]
  refine ⟨?_, BX.out.trans (B3.out.mono BX.out.size)⟩
  first
   | (rw [show max m n = n from Nat.max_eq_right (by omega)]; rfl)
   | (rw [show max m n = m from Nat.max_eq_left (by omega)]; rfl)
   | exact congrArg (fun z : Int => Ending.returned (Value.int .i64 z)) (show max (m : Int) (n : Int) = ((max m n : Nat) : Int) by omega)

end Go.Proofs.YtdkboifpdodonacGreatDoor
/-
 The landed program's nestBare and nest, over every tree.
-/
namespace Go.Proofs.YtdkboifpdodonacGreatDoor
open Go.RowKit Go.Deep PureCnf PureForm
set_option maxRecDepth 100000

theorem run_max3 (W : World) (ts : Array TypeId) (t : TypeId) (p q r m : Nat) (hm : m = max (max p q) r) :
  (Builtin.max_ ts t #[.int .i64 (p : Int), .int .i64 (q : Int), .int .i64 (r : Int)]).run Tryz.prog W = .ok (.int .i64 (m : Int)) W := by
 subst hm
 simp [Builtin.max_, Builtin.max2]
 omega
set_option maxHeartbeats 2000000 in
theorem nb_three (a b c : Tr) (ha : a.good) (hb : b.good) (hc : c.good) (hn : a.post.length + b.post.length + c.post.length ≤ 900000) (HA : NestB a) (HBB : NestB b) (HC : NestB c) (fol : Bool) (w : World) :
  Calls Tryz.prog 69 #[.iface 96 (.agg #[tv a, tv b, tv c]), .bool fol] w fun e w' => e = .returned (.int .i64 ((Tr.te (11, 0) a b c).need (!fol) : Nat)) ∧ Below w.heap.size w w' := by
 have HNA := fun W => hid (nest_any a ha (by omega) HA 0 false W)
 have HNB := fun W => hid (nest_any b hb (by omega) HBB 0 false W)
 have HNC := fun W => hid (nest_any c hc (by omega) HC 0 false W)
 simp only [brk_zero] at HNA HNB HNC
 obtain ⟨m, hm⟩ : ∃ m, m = wrapN false (a.need (false || !false)) := ⟨_, rfl⟩
 obtain ⟨n, hnn⟩ : ∃ n, n = wrapN false (b.need (false || !false)) := ⟨_, rfl⟩
 obtain ⟨p, hp⟩ : ∃ p, p = wrapN false (c.need (false || !false)) := ⟨_, rfl⟩
 obtain ⟨r, hr⟩ : ∃ r, r = max (max m n) p := ⟨_, rfl⟩
 have HG : Hid ((Tr.te (11, 0) a b c).need (!fol) = r + 1) := by
  show _ = _
  (first | rw [Tr.need_un, hr, hm, hnn, hp] | rw [Tr.need_bi, hr, hm, hnn, hp] | rw [Tr.need_te, hr, hm, hnn, hp] | rw [Tr.need_lf, hr, hm, hnn, hp]); rfl
 have hle := need_le (Tr.te (11, 0) a b c) (!fol)
 rw [HG.out] at hle
 simp only [Tr.post_lf, Tr.post_un, Tr.post_bi, Tr.post_te, List.length_append, List.length_cons, List.length_nil] at hle
 simp only [← hm] at HNA
 simp only [← hnn] at HNB
 simp only [← hp] at HNC
 have mx := fun W => run_max3 W #[3, 3, 3] 3 m n p r hr
 obtain ⟨k, u, e⟩ := tv_form a
 obtain ⟨k2, u2, e'⟩ := tv_form b
 obtain ⟨k3, u3, e''⟩ := tv_form c
 rw [e, e', e'']
 simp only [e] at HNA
 simp only [e'] at HNB
 simp only [e''] at HNC
 have m1 := fun x W => ta90_miss 96 (by decide) (.agg #[.iface k u, .iface k2 u2, .iface k3 u3]) x W
 have m2 := fun x W => ta92_miss 96 (by decide) (.agg #[.iface k u, .iface k2 u2, .iface k3 u3]) x W
 have m3 := fun x W => ta94_miss 96 (by decide) (.agg #[.iface k u, .iface k2 u2, .iface k3 u3]) x W
 have m4 := fun x W => ta96_hit (.agg #[.iface k u, .iface k2 u2, .iface k3 u3]) x W
 obtain ⟨WA, hWA⟩ : ∃ WA, WA = w.alloc (Obj.cells #[.iface k u, .iface k2 u2, .iface k3 u3] 96) := ⟨_, rfl⟩
 have hB : Below w.heap.size w WA := by rw [hWA]; exact below_box _ _
 have r0 : WA.heap[w.heap.size]? = some (.cells #[.iface k u, .iface k2 u2, .iface k3 u3] 96 (0, 0)) := by rw [hWA]; exact heap_alloc_new w _
 have KP : Hid (∀ W, Below WA.heap.size WA W → W.cell? ⟨w.heap.size, 0, none⟩ = some (.iface k u) ∧ W.cell? ⟨w.heap.size, 1, none⟩ = some (.iface k2 u2) ∧ W.cell? ⟨w.heap.size, 2, none⟩ = some (.iface k3 u3)) := fun W hW => by
  have q2 := (hW.block _ (Array.getElem?_eq_some_iff.1 r0).1).trans r0
  exact ⟨cell_row q2 0, cell_row q2 1, cell_row q2 2⟩
 obtain ⟨d1, d2, d3⟩ := KP.out WA (Below.refl _ _)
 have HWA := hid hWA
 have HB := hid hB
 clear hWA hB r0 hm hnn hp hr e e' e'' HA HBB HC ha hb hc
 go_enter Tryz.func69, Tryz.ntmps69
 go_wp2_with (rw [← HWA.out])
 go_region_held3 (fun W => W.cell? ⟨w.heap.size, 0, none⟩ = some (.iface k u) ∧ W.cell? ⟨w.heap.size, 1, none⟩ = some (.iface k2 u2) ∧ W.cell? ⟨w.heap.size, 2, none⟩ = some (.iface k3 u3)) (go_keep) (first
  | (have q := B3; clear q; go_at_call 51; refine (HNC _).out.mono ?_; rintro e w4 ⟨rfl, b4⟩; have B4 := hid (B3.out.trans (b4.mono B3.out.size)); obtain ⟨g1, g2, g3⟩ := KP.out w4 B4.out; clear b4)
  | (have q := B2; clear q; go_at_call 51; refine (HNB _).out.mono ?_; rintro e w3 ⟨rfl, b3⟩; have B3 := hid (B2.out.trans (b3.mono B2.out.size)); obtain ⟨f1, f2, f3⟩ := KP.out w3 B3.out; clear b3)
  | (go_at_call 51; refine (HNA _).out.mono ?_; rintro e w2 ⟨rfl, b2⟩; have B2 : Hid (Below WA.heap.size WA w2) := ((Below.refl _ _).drew.trans b2); obtain ⟨e1, e2, e3⟩ := KP.out w2 B2.out; clear b2))
 all_goals go_wp2
 all_goals go_ret
 all_goals
  rw [HG.out]
  refine ⟨?_, HB.out.trans (B4.out.mono HB.out.size)⟩
  have hw : IntKind.i64.wrap ((r + 1 : Nat) : Int) = ((r + 1 : Nat) : Int) := by rw [IntKind.wrap_i64]; omega
  rw [show (1 : Int) + (r : Int) = ((r + 1 : Nat) : Int) by omega, hw]
  rfl
theorem nest_bare (t : Tr) : t.good → t.post.length ≤ 900000 → NestB t := by
 induction t using Tr.ind with
 | lf x =>
  obtain ⟨o, n⟩ := x
  intro ht _ fol w
  rcases ht with ⟨h1, _⟩ | ⟨h1, _⟩
  ·simp only at h1
   subst h1
   exact nb_leaf 139 (by decide) (by decide) (by decide) (by decide) _ fol w
  ·simp only at h1
   subst h1
   exact nb_leaf 141 (by decide) (by decide) (by decide) (by decide) _ fol w
 | un x a iha =>
  obtain ⟨o, n⟩ := x
  intro ht hl fol w
  obtain ⟨hx, ha⟩ := ht
  have hl2 : a.post.length ≤ 900000 := by simp only [Tr.post_lf, Tr.post_un, Tr.post_bi, Tr.post_te, List.length_append, List.length_cons, List.length_nil] at hl; omega
  have ih := iha ha hl2
  rcases hx with ⟨h1, h2⟩ | ⟨h1, _⟩
  ·simp only at h1 h2
   subst h1 h2
   exact nb_not a ha hl2 ih fol w
  ·have h45 : o = 4 ∨ o = 5 := by simpa [isQ] using h1
   have e1 : tv (.un (o, n) a) = .iface 92 (.agg #[.int .i64 o, .int .i64 n, tv a]) := by (first | rw [tv_un, if_neg (by simp; omega)] | rw [tv_bi, if_neg (by simp; omega)] | rw [tv_te, if_neg (by simp; omega)] | rw [tv_lf, if_neg (by simp; omega)])
   rw [e1]
   exact nb_quant o n h1 a ha hl2 ih fol w
 | bi x a b iha ihb =>
  obtain ⟨o, n⟩ := x
  intro ht hl fol w
  obtain ⟨⟨h1, h2⟩, ha, hb⟩ := ht
  simp only at h1 h2
  subst h2
  have hl2 : a.post.length + b.post.length ≤ 900000 := by simp only [Tr.post_lf, Tr.post_un, Tr.post_bi, Tr.post_te, List.length_append, List.length_cons, List.length_nil] at hl; omega
  exact nb_two o h1 a b ha hb hl2 (iha ha (by omega)) (ihb hb (by omega)) fol w
 | te x a b c iha ihb ihc =>
  obtain ⟨o, n⟩ := x
  intro ht hl fol w
  obtain ⟨⟨h1, h2⟩, ha, hb, hc⟩ := ht
  simp only at h1 h2
  subst h1 h2
  have hl2 : a.post.length + b.post.length + c.post.length ≤ 900000 := by simp only [Tr.post_lf, Tr.post_un, Tr.post_bi, Tr.post_te, List.length_append, List.length_cons, List.length_nil] at hl; omega
  exact nb_three a b c ha hb hc hl2 (iha ha (by omega)) (ihb hb (by omega)) (ihc hc (by omega)) fol w
theorem nest_top (t : Tr) (ht : t.good) (hn : t.post.length ≤ 900000) (w : World) :
  Calls Tryz.prog 51 #[tv t, spotV 0 false] w fun e w' => e = .returned (.int .i64 (t.need true : Nat)) ∧ Below w.heap.size w w' := by
 have h := nest_any t ht (by omega) (nest_bare t ht hn) 0 false w
 rw [brk_zero] at h
 exact h

end Go.Proofs.YtdkboifpdodonacGreatDoor
