import Derived.Test.YtdkboifpdodonacGreatDoorZ17
set_option linter.unusedSimpArgs false
/-
 The document's own spot.
-/
namespace Go.Proofs.YtdkboifpdodonacGreatDoor.Ref
open Go.RowKit Go.Deep PureCnf PureForm
set_option maxRecDepth 100000

/-- the place behind these bytes: line and column. -/
def spotN (l : List UInt8) : Nat × Nat := l.foldl (fun p c => if c.toNat = 10 then (p.1 + 1, 1) else (p.1, p.2 + 1)) (1, 1)
theorem spotN_snoc (l : List UInt8) (c : UInt8) : spotN (l ++ [c]) = if c.toNat = 10 then ((spotN l).1 + 1, 1) else ((spotN l).1, (spotN l).2 + 1) := by simp [spotN, List.foldl_append]
theorem spotN_le (l : List UInt8) : (spotN l).1 ≤ l.length + 1 ∧ (spotN l).2 ≤ l.length + 1 := by
 have e : ∀ m : List UInt8, (spotN m.reverse).1 ≤ m.length + 1 ∧ (spotN m.reverse).2 ≤ m.length + 1 := by
  intro m
  induction m with
  | nil => simp [spotN]
  | cons c t ih =>
   rw [List.reverse_cons, spotN_snoc]
   split <;> simp <;> omega
 have := e l.reverse
 simpa using this

/-- one box of two numbers, and the place of the result. -/
structure PosBox (w W : World) (line col : Nat) : Prop where
 r0 : W.heap[w.heap.size]? = some (.cells #[.int .i64 0, .int .i64 0] 26 (0, 0))
 r1 : W.heap[w.heap.size + 1]? = some (.cells #[.int .i64 line, .int .i64 col] 26 (0, 0))
 below : Below w.heap.size w W

theorem PosBox.store {w W : World} {line col : Nat} (h : PosBox w W line col) (a b : Nat) : PosBox w ((W.setCell ⟨w.heap.size + 1, 0, none⟩ (.int .i64 a)).setCell ⟨w.heap.size + 1, 1, none⟩ (.int .i64 b)) a b := by
 refine ⟨?_, ?_, (h.below.setCell (by simp) _).setCell (by simp) _⟩
 ·rw [Below.heap_setCell _ _ _ _ (by simp), Below.heap_setCell _ _ _ _ (by simp)]; exact h.r0
 ·have hb := (Array.getElem?_eq_some_iff.1 h.r1).1
  simp [World.setCell, Array.getElem?_modify, h.r1]
theorem PosBox.store1 {w W : World} {line col : Nat} (h : PosBox w W line col) (b : Nat) : PosBox w (W.setCell ⟨w.heap.size + 1, 1, none⟩ (.int .i64 b)) line b := by
 refine ⟨?_, ?_, h.below.setCell (by simp) _⟩
 ·rw [Below.heap_setCell _ _ _ _ (by simp)]; exact h.r0
 ·have hb := (Array.getElem?_eq_some_iff.1 h.r1).1
  simp [World.setCell, Array.getElem?_modify, h.r1]

set_option maxHeartbeats 1000000 in
theorem spot_any (s : ByteArray) (i : Nat) (w : World) (hs : s.size ≤ 1099511627776) (hi : i ≤ s.size) :
  Calls Tryz.prog 26 #[.string s, .int .i64 (i : Int)] w fun e w' => e = .returned (.agg #[.int .i64 ((spotN (s.data.toList.take i)).1 : Int), .int .i64 ((spotN (s.data.toList.take i)).2 : Int)]) ∧ Below w.heap.size w w' := by
 go_enter Tryz.func26, Tryz.ntmps26
 go_wp2
 go_loopw [6] (fun q W => ∃ k : Nat, k ≤ i ∧ q = .int .i64 k ∧ Hid (PosBox w W (spotN (s.data.toList.take k)).1 (spotN (s.data.toList.take k)).2)) (fun q _ => i - (intOf q).toNat)
 case atStart =>
  refine ⟨0, Nat.zero_le _, rfl, ?_⟩
  show PosBox _ _ _ _
  refine ⟨?_, ?_, ((Below.refl _ _).alloc (Nat.le_refl _) _).alloc (by simp) _⟩
  ·exact (Below.heap_alloc _ _ _ (by simp)).trans (heap_alloc_new w _)
  ·have := heap_alloc_new (w.alloc (Obj.cells #[.int .i64 0, .int .i64 0] 26 (0, 0))) (Obj.cells #[.int .i64 1, .int .i64 1] 26 (0, 0))
   simpa [spotN] using this
 case round =>
  obtain ⟨k, hk, rfl, HB⟩ := hrel
  have c0 := fun j => cell_row HB.out.r1 j
  have f0 := fun j => unfrozen_row HB.out.r1 j
  have hle := spotN_le (s.data.toList.take k)
  have hl : (s.data.toList.take k).length ≤ k := List.length_take_le _ _
  by_cases hlt : k < i
  ·have hks : k < s.size := by omega
   have HSN : Hid (spotN (s.data.toList.take (k + 1)) = if s[k].toNat = 10 then ((spotN (s.data.toList.take k)).1 + 1, 1) else ((spotN (s.data.toList.take k)).1, (spotN (s.data.toList.take k)).2 + 1)) := by
    show _ = _
    rw [take_snoc _ k (by simpa using hks), spotN_snoc, list_at s k hks]
   obtain ⟨line, hline⟩ : ∃ x, x = (spotN (s.data.toList.take k)).1 := ⟨_, rfl⟩
   obtain ⟨col, hcol⟩ : ∃ x, x = (spotN (s.data.toList.take k)).2 := ⟨_, rfl⟩
   rw [← hline, ← hcol] at HB HSN c0 hle
   clear hline hcol
   obtain ⟨l1, l2⟩ := hle
   by_cases h10 : (s[k].toNat : Int) = 10
   ·have e : s[k].toNat = 10 := by omega
    have HR : Hid (spotN (s.data.toList.take (k + 1)) = (line + 1, 1)) := by show _ = _; rw [HSN.out, if_pos e]
    clear e HSN
    go_wp2
    refine ⟨⟨k + 1, hlt, by go_num, ?_⟩, by simp [intOf]; omega⟩
    show PosBox _ _ _ _
    rw [HR.out]
    exact HB.out.store (line + 1) 1
   ·have h10b : ((s[k].toNat : Int) == 10) = false := by rw [beq_eq_false_iff_ne]; omega
    have HR : Hid (spotN (s.data.toList.take (k + 1)) = (line, col + 1)) := by show _ = _; rw [HSN.out, if_neg (by omega)]
    clear HSN h10
    go_wp2
    refine ⟨⟨k + 1, hlt, by go_num, ?_⟩, by simp [intOf]; omega⟩
    show PosBox _ _ _ _
    rw [HR.out]
    exact HB.out.store1 (col + 1)
  ·have hkk : k = i := by omega
   subst hkk
   have c1 := fun j => cell_row HB.out.r0 j
   have f1 := fun j => unfrozen_row HB.out.r0 j
   go_wp2
   exact bodyPost_ret (v := .agg #[.int .i64 ((spotN (s.data.toList.take k)).1 : Int), .int .i64 ((spotN (s.data.toList.take k)).2 : Int)]) (by simp [results, Tryz.results26, go_sem, c1]) rfl ⟨rfl, (HB.out.below.setCell (by simp) _).setCell (by simp) _⟩


end Go.Proofs.YtdkboifpdodonacGreatDoor.Ref
/-
 One token keeps the state of the loop in its bounds.
-/
namespace Go.Proofs.YtdkboifpdodonacGreatDoor.Ref
open Go.RowKit Go.Deep PureCnf PureForm
set_option maxRecDepth 100000

/-- the state of the loop. -/
structure PSok (s : PS) : Prop where
 want : s.want ≤ 4
 quant : s.quant ≤ 5
 made : s.made ≤ 65536
 opn : opnOf s.st ≤ 64
 kinds : okSt s.st
 ops : ∀ w ∈ s.st, w.op ≤ 100

theorem settleOps_len (op : Nat) (st : List Wt) : ∀ out, (settleOps op st out).1.length + (settleOps op st out).2.length = st.length + out.length := by
 induction st with
 | nil => intro out; simp [settleOps]
 | cons w t ih =>
  intro out
  rw [settleOps]
  split
  ·rw [ih]; simp; omega
  ·rfl
theorem settleOps_opn (op : Nat) (st : List Wt) : ∀ out, opnOf (settleOps op st out).1 ≤ opnOf st := by
 induction st with
 | nil => intro out; simp [settleOps]
 | cons w t ih =>
  intro out
  rw [settleOps]
  split
  ·have := ih (out ++ [nodeOf w])
   have h2 : opnOf t ≤ opnOf (w :: t) := by simp only [opnOf, List.countP_cons]; omega
   omega
  ·exact Nat.le_refl _
theorem settleOps_sub (op : Nat) (st : List Wt) : ∀ out, ∀ w ∈ (settleOps op st out).1, w ∈ st := by
 induction st with
 | nil => intro out w hw; simp [settleOps] at hw
 | cons x t ih =>
  intro out w hw
  rw [settleOps] at hw
  split at hw
  ·exact List.mem_cons_of_mem _ (ih _ w hw)
  ·exact hw

theorem stepP_end {p p' : PS} {t : PureForm.Tok} (h : t.kind = 0) : stepP p t ≠ .ok (.inl p') := by
 intro e
 unfold stepP at e
 rw [if_neg (by omega)] at e
 split at e
 ·rw [if_neg (by omega), if_neg (by omega), if_neg (by omega), if_neg (by omega), if_neg (by omega)] at e
  cases e
 ·split at e
  ·rw [if_neg (by omega)] at e; cases e
  ·split at e
   ·rw [if_neg (by omega)] at e; cases e
   ·split at e
    ·rw [if_neg (by omega), if_neg (by omega)] at e; cases e
    ·rw [if_neg (by omega), if_neg (by omega), if_neg (by omega)] at e
     unfold endsP at e
     split at e <;> simp at e

/-- which states may follow. -/
def Next (p : PS) (t : PureForm.Tok) (p' : PS) : Prop := ∀ C : Prop, ((p' = { p with out := p.out ++ [((if t.kind = 3 then 2 else 1 : Int), (t.n : Int))], made := p.made + 1, want := 1 }) → (p.made < 65536) → C) → ((p' = { p with quant := t.n, want := 3 }) → (t.kind = 5) → C) → (∀ (w : Wt), ∀ (d wn : Nat), (p' = { p with st := w :: p.st, made := p.made + d, want := wn }) → (¬ 64 ≤ opnOf p.st) → (d = 0 ∨ (d = 1 ∧ p.made < 65536)) → (1 ≤ w.kind ∧ w.kind ≤ 4) → (wn ≤ 4) → (w.op ≤ 5) → C) → (∀ (wn : Nat), (p' = { p with want := wn }) → (wn ≤ 4) → C) → ((p' = { p with st := ⟨5, t.n, 0⟩ :: (settleOps t.n p.st p.out).1, out := (settleOps t.n p.st p.out).2, made := p.made + 1, want := 0 }) → (p.made < 65536) → (t.kind = 7) → C) → (∀ (x : Wt), ∀ (s : List Wt), ∀ (o : List Nd), (settleIn p.st p.out = (x :: s, o)) → ∀ (o' : List Nd), (p' = { p with st := s, out := o' }) → (o'.length ≤ o.length + 1) → C) → (∀ (x : Wt), ∀ (s : List Wt), ∀ (o : List Nd), (settleIn p.st p.out = (x :: s, o)) → (p' = { p with st := { x with n := x.n + 1 } :: s, out := o, want := 0 }) → C) → C
theorem Next.node {p : PS} {t : PureForm.Tok} {p' : PS} (e : p' = { p with out := p.out ++ [((if t.kind = 3 then 2 else 1 : Int), (t.n : Int))], made := p.made + 1, want := 1 }) (h : p.made < 65536) : Next p t p' := fun _ k _ _ _ _ _ _ => k e h
theorem Next.quant {p : PS} {t : PureForm.Tok} {p' : PS} (e : p' = { p with quant := t.n, want := 3 }) (h : t.kind = 5) : Next p t p' := fun _ _ k _ _ _ _ _ => k e h
theorem Next.opens {p : PS} {t : PureForm.Tok} {p' : PS} (w : Wt) (d wn : Nat) (e : p' = { p with st := w :: p.st, made := p.made + d, want := wn }) (h1 : ¬ 64 ≤ opnOf p.st) (h2 : d = 0 ∨ (d = 1 ∧ p.made < 65536)) (h3 : 1 ≤ w.kind ∧ w.kind ≤ 4) (h4 : wn ≤ 4) (h5 : w.op ≤ 5) : Next p t p' := fun _ _ _ k _ _ _ _ => k w d wn e h1 h2 h3 h4 h5
theorem Next.want {p : PS} {t : PureForm.Tok} {p' : PS} (wn : Nat) (e : p' = { p with want := wn }) (h : wn ≤ 4) : Next p t p' := fun _ _ _ _ k _ _ _ => k wn e h
theorem Next.oper {p : PS} {t : PureForm.Tok} {p' : PS} (e : p' = { p with st := ⟨5, t.n, 0⟩ :: (settleOps t.n p.st p.out).1, out := (settleOps t.n p.st p.out).2, made := p.made + 1, want := 0 }) (h : p.made < 65536) (h7 : t.kind = 7) : Next p t p' := fun _ _ _ _ _ k _ _ => k e h h7
theorem Next.close {p : PS} {t : PureForm.Tok} {p' : PS} (x : Wt) (s : List Wt) (o : List Nd) (h : settleIn p.st p.out = (x :: s, o)) (o' : List Nd) (e : p' = { p with st := s, out := o' }) (h2 : o'.length ≤ o.length + 1) : Next p t p' := fun _ _ _ _ _ _ k _ => k x s o h o' e h2
theorem Next.comma {p : PS} {t : PureForm.Tok} {p' : PS} (x : Wt) (s : List Wt) (o : List Nd) (h : settleIn p.st p.out = (x :: s, o)) (e : p' = { p with st := { x with n := x.n + 1 } :: s, out := o, want := 0 }) : Next p t p' := fun _ _ _ _ _ _ _ k => k x s o h e
theorem Next.cas {p : PS} {t : PureForm.Tok} {p' : PS} {motive : Next p t p' → Prop} (node : ∀ (e : p' = { p with out := p.out ++ [((if t.kind = 3 then 2 else 1 : Int), (t.n : Int))], made := p.made + 1, want := 1 }) (h : p.made < 65536), motive (Next.node e h)) (quant : ∀ (e : p' = { p with quant := t.n, want := 3 }) (h : t.kind = 5), motive (Next.quant e h)) (opens : ∀ (w : Wt) (d wn : Nat) (e : p' = { p with st := w :: p.st, made := p.made + d, want := wn }) (h1 : ¬ 64 ≤ opnOf p.st) (h2 : d = 0 ∨ (d = 1 ∧ p.made < 65536)) (h3 : 1 ≤ w.kind ∧ w.kind ≤ 4) (h4 : wn ≤ 4) (h5 : w.op ≤ 5), motive (Next.opens w d wn e h1 h2 h3 h4 h5)) (want : ∀ (wn : Nat) (e : p' = { p with want := wn }) (h : wn ≤ 4), motive (Next.want wn e h)) (oper : ∀ (e : p' = { p with st := ⟨5, t.n, 0⟩ :: (settleOps t.n p.st p.out).1, out := (settleOps t.n p.st p.out).2, made := p.made + 1, want := 0 }) (h : p.made < 65536) (h7 : t.kind = 7), motive (Next.oper e h h7)) (close : ∀ (x : Wt) (s : List Wt) (o : List Nd) (h : settleIn p.st p.out = (x :: s, o)) (o' : List Nd) (e : p' = { p with st := s, out := o' }) (h2 : o'.length ≤ o.length + 1), motive (Next.close x s o h o' e h2)) (comma : ∀ (x : Wt) (s : List Wt) (o : List Nd) (h : settleIn p.st p.out = (x :: s, o)) (e : p' = { p with st := { x with n := x.n + 1 } :: s, out := o, want := 0 }), motive (Next.comma x s o h e)) (x : Next p t p') : motive x :=
 x (motive x) (fun e h => node e h) (fun e h => quant e h) (fun w d wn e h1 h2 h3 h4 h5 => opens w d wn e h1 h2 h3 h4 h5) (fun wn e h => want wn e h) (fun e h h7 => oper e h h7) (fun x s o h o' e h2 => close x s o h o' e h2) (fun x s o h e => comma x s o h e)

theorem opensP_next {p p' : PS} {t : PureForm.Tok} {w : Wt} {d wn : Nat} (hw : 1 ≤ w.kind ∧ w.kind ≤ 4) (hn : wn ≤ 4) (hop : w.op ≤ 5) (hd : d = 0 ∨ d = 1) (h : opensP p w d wn = .ok (.inl p')) : Next p t p' := by
 unfold opensP at h
 split at h
 ·cases h
 ·next h1 =>
  split at h
  ·cases h
  ·next h2 =>
   simp at h
   exact .opens w d wn h.symm h1 (by omega) hw hn hop

theorem stepP_next {p p' : PS} {t : PureForm.Tok} (hq : p.quant ≤ 5) (h : stepP p t = .ok (.inl p')) : Next p t p' := by
 unfold stepP at h
 split at h
 ·cases h
 ·split at h
  ·split at h
   ·split at h
    ·cases h
    ·next h1 => simp at h; exact .node h.symm (by omega)
   ·split at h
    ·next h5 => simp at h; exact .quant h.symm h5
    ·split at h
     ·exact opensP_next (by simp) (by omega) (by simp) (.inl rfl) h
     ·split at h
      ·exact opensP_next (by simp) (by omega) (by simp) (.inr rfl) h
      ·split at h
       ·exact opensP_next (by simp) (by omega) (by simp) (.inr rfl) h
       ·cases h
  ·split at h
   ·split at h
    ·simp at h; exact .want 0 h.symm (by omega)
    ·cases h
   ·split at h
    ·split at h
     ·exact opensP_next (by simp) (by omega) (by simpa using hq) (.inr rfl) h
     ·cases h
    ·split at h
     ·split at h
      ·simp at h; exact .want 3 h.symm (by omega)
      ·split at h
       ·simp at h; exact .want 0 h.symm (by omega)
       ·cases h
     ·split at h
      ·next h7 =>
       split at h
       ·cases h
       ·simp at h; exact .oper h.symm (by omega) h7
      ·split at h
       ·unfold closesP at h
        split at h
        ·next x s o hs =>
         split at h
         ·simp at h; exact .close x s o hs o h.symm (by omega)
         ·split at h
          ·simp at h; exact .close x s o hs (o ++ [nodeOf x]) h.symm (by simp)
          ·cases h
        ·cases h
       ·split at h
        ·unfold commaP at h
         split at h
         ·next x s o hs =>
          split at h
          ·simp at h; exact .comma x s o hs h.symm
          ·cases h
         ·cases h
        ·split at h
         ·unfold endsP at h
          split at h <;> simp at h
         ·cases h

theorem stepP_len {p p' : PS} {t : PureForm.Tok} (hq : p.quant ≤ 5) (h : stepP p t = .ok (.inl p')) : p'.st.length + p'.out.length ≤ p.st.length + p.out.length + 1 := by
 cases stepP_next hq h using Next.cas with
 | node e _ => subst e; simp; omega
 | quant e _ => subst e; simp
 | opens w d wn e _ _ _ _ _ => subst e; simp; omega
 | want wn e _ => subst e; simp
 | oper e _ _ => subst e; have := settleOps_len t.n p.st p.out; simp; omega
 | close x s o hs o' e h2 =>
  subst e
  have := settleIn_len p.st p.out
  rw [hs] at this
  simp at this ⊢; omega
 | comma x s o hs e =>
  subst e
  have := settleIn_len p.st p.out
  rw [hs] at this
  simp at this ⊢; omega

theorem stepP_ok {p p' : PS} {t : PureForm.Tok} {l : List UInt8} {i : Nat} (hp : PSok p) (ht : TokOk l i t) (h : stepP p t = .ok (.inl p')) : PSok p' := by
 cases stepP_next hp.quant h using Next.cas with
 | node e h1 => subst e; exact ⟨by simp, hp.quant, by simp; omega, hp.opn, hp.kinds, hp.ops⟩
 | quant e h1 => subst e; exact ⟨by simp, ht.quant h1, hp.made, hp.opn, hp.kinds, hp.ops⟩
 | opens w d wn e h1 h2 h3 h4 h5 =>
  subst e
  have := hp.made
  refine ⟨h4, hp.quant, by simp; omega, ?_, fun x hx => ?_, fun x hx => ?_⟩
  ·have e : opnOf (w :: p.st) = opnOf p.st + 1 := opn_pos w.op w.n p.st (by omega)
   show opnOf (w :: p.st) ≤ 64
   omega
  ·rcases List.mem_cons.1 hx with rfl | h
   ·exact ⟨h3.1, by omega⟩
   ·exact hp.kinds x h
  ·rcases List.mem_cons.1 hx with rfl | h
   ·omega
   ·exact hp.ops x h
 | want wn e h1 => subst e; exact ⟨h1, hp.quant, hp.made, hp.opn, hp.kinds, hp.ops⟩
 | oper e h1 h7 =>
  subst e
  have h10 := ht.op h7
  refine ⟨by simp, hp.quant, by simp; omega, ?_, fun x hx => ?_, fun x hx => ?_⟩
  ·have h2 := settleOps_opn t.n p.st p.out
   have h3 := hp.opn
   have e : opnOf (⟨5, t.n, 0⟩ :: (settleOps t.n p.st p.out).1) = opnOf (settleOps t.n p.st p.out).1 := by simp [opnOf]
   show opnOf (⟨5, t.n, 0⟩ :: (settleOps t.n p.st p.out).1) ≤ 64
   omega
  ·rcases List.mem_cons.1 hx with rfl | h
   ·simp
   ·exact hp.kinds x (settleOps_sub _ _ _ x h)
  ·rcases List.mem_cons.1 hx with rfl | h
   ·show t.n ≤ 100; omega
   ·exact hp.ops x (settleOps_sub _ _ _ x h)
 | close x s o hs o' e h2 =>
  subst e
  have h3 := settleIn_opn p.st p.out
  have h4 := settleIn_sub p.st p.out
  rw [hs] at h3 h4
  have h5 : opnOf s ≤ opnOf (x :: s) := by simp only [opnOf, List.countP_cons]; omega
  have h6 := hp.opn
  exact ⟨hp.want, hp.quant, hp.made, by show opnOf s ≤ 64; dsimp only at h3; omega, fun y hy => hp.kinds y (h4 y (List.mem_cons_of_mem _ hy)), fun y hy => hp.ops y (h4 y (List.mem_cons_of_mem _ hy))⟩
 | comma x s o hs e =>
  subst e
  have h3 := settleIn_opn p.st p.out
  have h4 := settleIn_sub p.st p.out
  rw [hs] at h3 h4
  have h5 : opnOf ({ x with n := x.n + 1 } :: s) = opnOf (x :: s) := by simp only [opnOf, List.countP_cons]
  have h6 := hp.opn
  refine ⟨by simp, hp.quant, hp.made, by show opnOf ({ x with n := x.n + 1 } :: s) ≤ 64; dsimp only at h3; omega, fun y hy => ?_, fun y hy => ?_⟩
  ·rcases List.mem_cons.1 hy with rfl | h
   ·exact hp.kinds x (h4 x (List.mem_cons_self ..))
   ·exact hp.kinds y (h4 y (List.mem_cons_of_mem _ h))
  ·rcases List.mem_cons.1 hy with rfl | h
   ·exact hp.ops x (h4 x (List.mem_cons_self ..))
   ·exact hp.ops y (h4 y (List.mem_cons_of_mem _ h))
end Go.Proofs.YtdkboifpdodonacGreatDoor.Ref
