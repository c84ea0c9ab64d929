import Derived.Test.YtdkboifpdodonacGreatDoorZ12
set_option linter.unusedSimpArgs false
/-
 The landed reader: its small steps.
-/
namespace Go.Proofs.YtdkboifpdodonacGreatDoor
open Go.RowKit Go.Deep PureCnf PureForm PureRd
set_option maxRecDepth 100000

/-- the reader in memory. -/
structure RM (W : World) (p : Nat) (s : ByteArray) (q : Q) : Prop where
 live : q.fault = none → ∃ e : Nat, W.heap[p]? = some (.cells (rr s e (kindL (nextT s.data.toList q.at_)) (numL (nextT s.data.toList q.at_)) (codeL (nextT s.data.toList q.at_)) (nextT s.data.toList q.at_).at_ q.opn q.made 0 0 0) 86 (0, 0)) ∧
  ((nextT s.data.toList q.at_).kind ≠ 1 → (nextT s.data.toList q.at_).end_ = e) ∧ e ≤ s.size
 dead : ∀ f, q.fault = some f → ∃ e o m : Int, f.1 ≠ 0 ∧ W.heap[p]? = some (.cells (rr s e 17 0 0 0 o m f.1 (spotN (s.data.toList.take f.2)).1 (spotN (s.data.toList.take f.2)).2) 86 (0, 0))
 at_ : q.fault = none → q.at_ ≤ s.size
 size : s.size ≤ 1099511627776
 opn : q.fault = none → q.opn ≤ 64
 made : q.fault = none → q.made ≤ 65536
 tabs : Lib.Utf8Tabs 2 3 W
 h3 : p ≠ 2
 h4 : p ≠ 3

theorem RM.cells {W : World} {p : Nat} {s : ByteArray} {q : Q} (h : RM W p s q) : ∃ (e c a o m f1 f2 f3 : Int), W.heap[p]? = some (.cells (rr s e (q.kind s.data.toList) (q.num s.data.toList) c a o m f1 f2 f3) 86 (0, 0)) ∧ (q.fault = none → o = q.opn ∧ m = q.made) := by
 cases hq : q.fault with
 | none =>
  obtain ⟨e, hr, _⟩ := h.live hq
  have ek : q.kind s.data.toList = kindL (nextT s.data.toList q.at_) := by unfold Q.kind; rw [if_pos hq]
  have en : q.num s.data.toList = numL (nextT s.data.toList q.at_) := by unfold Q.num; rw [if_pos hq]
  rw [ek, en]
  exact ⟨_, _, _, _, _, _, _, _, hr, fun _ => ⟨rfl, rfl⟩⟩
 | some f =>
  obtain ⟨e, o, m, _, hr⟩ := h.dead f hq
  have ek : q.kind s.data.toList = 17 := kind_dead hq
  have en : q.num s.data.toList = 0 := by unfold Q.num; rw [if_neg (by rw [hq]; simp)]
  rw [ek, en]
  exact ⟨_, _, _, _, _, _, _, _, hr, fun x => by cases x⟩
theorem RM.lt {W : World} {p : Nat} {s : ByteArray} {q : Q} (h : RM W p s q) : p < W.heap.size := by
 obtain ⟨_, _, _, _, _, _, _, _, hr, _⟩ := h.cells
 exact (Array.getElem?_eq_some_iff.1 hr).1
theorem RM.step {W W' : World} {p : Nat} {s : ByteArray} {q : Q} (h : RM W p s q) (hb : Below W.heap.size W W') : RM W' p s q := by
 refine ⟨fun hq => ?_, fun f hf => ?_, h.at_, h.size, h.opn, h.made, Utf8Tabs_below h.tabs hb, h.h3, h.h4⟩
 ·obtain ⟨e, hr, r⟩ := h.live hq
  exact ⟨e, step_row hr hb, r⟩
 ·obtain ⟨e, o, m, h0, hr⟩ := h.dead f hf
  exact ⟨e, o, m, h0, step_row hr hb⟩

/-! ### advance -/
theorem set_tok {W : World} {p : Nat} {s : ByteArray} {e k n c a o m f1 f2 f3 : Int} (h : W.heap[p]? = some (.cells (rr s e k n c a o m f1 f2 f3) 86 (0, 0))) (k' n' c' a' : Int) :
  ((((W.setCell ⟨p, 2, none⟩ (.int .i64 k')).setCell ⟨p, 3, none⟩ (.int .i64 n')).setCell ⟨p, 4, none⟩ (.int .i64 c')).setCell ⟨p, 5, none⟩ (.int .i64 a')).heap[p]? = some (.cells (rr s e k' n' c' a' o m f1 f2 f3) 86 (0, 0)) := by
 simp [World.setCell, Array.getElem?_modify, h]
theorem kr_tok {W : World} {p : Nat} (v2 v3 v4 v5 : Value) : Kr p W ((((W.setCell ⟨p, 2, none⟩ v2).setCell ⟨p, 3, none⟩ v3).setCell ⟨p, 4, none⟩ v4).setCell ⟨p, 5, none⟩ v5) :=
 ((Kr.set.trans Kr.set).trans Kr.set).trans Kr.set

set_option maxHeartbeats 1000000 in
/-- the reader's scanner moves on: whatever its token was. -/
theorem advance_raw (p : Nat) (s : ByteArray) (i : Nat) (k n c a : Int) (o m : Nat) (w : World) (hr : w.heap[p]? = some (.cells (rr s i k n c a o m 0 0 0) 86 (0, 0))) (hi : i ≤ s.size) (hs : s.size ≤ 1099511627776) (ho : o ≤ 64) (hm : m ≤ 65536) (hT : Lib.Utf8Tabs 2 3 w) (h3 : p ≠ 2) (h4 : p ≠ 3) :
  Calls Tryz.prog 35 #[.pointer (some ⟨p, 0, none⟩)] w fun e w' => e = .returned (.tuple #[]) ∧ RM w' p s ⟨none, i, o, m⟩ ∧ Kr p w w' := by
 have HN := hid (next_any p s i k n c a o m 0 0 0 w hr hi hs hT h3 h4)
 have c0 := fun j => cell_row hr j
 have HT := hid hT
 clear hr hT
 go_enter Tryz.func35, Tryz.ntmps35
 go_wp2_with (go_at_call 54; refine HN.out.mono ?_; rintro e w1 ⟨j, rfl, r1, hj, he, k1⟩; have c1 := fun j => cell_row r1 j; have f1 := fun j => unfrozen_row r1 j; have HR1 := hid r1; have HK1 := hid k1; have HE := hid he; clear r1 k1 he)
 go_end0
 have hr := set_tok HR1.out (kindL (nextT s.data.toList i)) (numL (nextT s.data.toList i)) (codeL (nextT s.data.toList i)) (nextT s.data.toList i).at_
 have hk := HK1.out.trans (kr_tok (W := w1) (p := p) (.int .i64 (kindL (nextT s.data.toList i))) (.int .i64 (numL (nextT s.data.toList i))) (.int .i64 (codeL (nextT s.data.toList i))) (.int .i64 (nextT s.data.toList i).at_))
 exact ⟨rfl, ⟨fun _ => ⟨j, hr, HE.out, hj⟩, fun f hf => by simp at hf, fun _ => hi, hs, fun _ => ho, fun _ => hm, tabs_kr HT.out hk h3 h4, h3, h4⟩, hk⟩

set_option maxHeartbeats 1000000 in
theorem advance_any {W : World} {p : Nat} {s : ByteArray} {q : Q} (h : RM W p s q) (hk : q.fault = none → (nextT s.data.toList q.at_).kind ≠ 1) :
  Calls Tryz.prog 35 #[.pointer (some ⟨p, 0, none⟩)] W fun e w' => e = .returned (.tuple #[]) ∧ RM w' p s (q.adv s.data.toList) ∧ Kr p W w' := by
 cases hq : q.fault with
 | none =>
  obtain ⟨e, hr, he, hes⟩ := h.live hq
  have hee := he (hk hq)
  have ea : q.adv s.data.toList = ⟨none, e, q.opn, q.made⟩ := by
   unfold Q.adv Q.step
   rw [if_pos hq, hee, hq]
  rw [ea]
  exact advance_raw p s e _ _ _ _ q.opn q.made W hr hes h.size (h.opn hq) (h.made hq) h.tabs h.h3 h.h4
 | some f =>
  obtain ⟨e, o, m, h0, hr⟩ := h.dead f hq
  have ea : q.adv s.data.toList = q := by unfold Q.adv; rw [if_neg (by rw [hq]; simp)]
  rw [ea]
  have c0 := fun j => cell_row hr j
  have hz : ((f.1 : Int) == 0) = false := by simp; exact h0
  have HRM := hid h
  clear h hr hq h0 ea hk
  go_enter Tryz.func35, Tryz.ntmps35
  go_wp2
  go_end0
  exact ⟨rfl, HRM.out, Kr.refl _ _⟩

theorem Kr.undrew {p : Nat} {w W : World} (h : Kr p w.drew W) : Kr p w W := ⟨h.os, h.tape, h.output, h.size, h.block⟩
/-! ### refuse -/
theorem set_fault {W : World} {p : Nat} {s : ByteArray} {e k n c a o m f1 f2 f3 : Int} (h : W.heap[p]? = some (.cells (rr s e k n c a o m f1 f2 f3) 86 (0, 0))) (x y z : Int) :
  (((W.setCell ⟨p, 8, none⟩ (.int .i64 x)).setCell ⟨p, 9, none⟩ (.int .i64 y)).setCell ⟨p, 10, none⟩ (.int .i64 z)).heap[p]? = some (.cells (rr s e k n c a o m x y z) 86 (0, 0)) := by
 simp [World.setCell, Array.getElem?_modify, h]
theorem kr_fault {W : World} {p : Nat} (v2 v3 v4 : Value) : Kr p W (((W.setCell ⟨p, 8, none⟩ v2).setCell ⟨p, 9, none⟩ v3).setCell ⟨p, 10, none⟩ v4) := (Kr.set.trans Kr.set).trans Kr.set

set_option maxHeartbeats 2000000 in
/-- a fault is told: its code is x. -/
theorem refuse_raw (p : Nat) (s : ByteArray) (T : PureForm.Tok) (e x c : Int) (o m : Int) (w : World) (hr : w.heap[p]? = some (.cells (rr s e (kindL T) (numL T) (codeL T) T.at_ o m 0 0 0) 86 (0, 0))) (hs : s.size ≤ 1099511627776) (hat : T.at_ ≤ s.size)
  (hx : ((kindL T : Int) = 17 ∧ (codeL T : Int) = x) ∨ (((kindL T : Int) == 17) = false ∧ c = x)) :
  Calls Tryz.prog 57 #[.pointer (some ⟨p, 0, none⟩), .int .i64 c] w fun e' w' => e' = .returned (.tuple #[]) ∧ w'.heap[p]? = some (.cells (rr s e 17 0 0 0 o m x (spotN (s.data.toList.take T.at_)).1 (spotN (s.data.toList.take T.at_)).2) 86 (0, 0)) ∧ Kr p w w' := by
 have c0 := fun j => cell_row hr j
 have HP := fun W => hid (place16 s T.at_ W hs hat)
 obtain ⟨l1, hl1⟩ : ∃ y, y = (spotN (s.data.toList.take T.at_)).1 := ⟨_, rfl⟩
 obtain ⟨l2, hl2⟩ : ∃ y, y = (spotN (s.data.toList.take T.at_)).2 := ⟨_, rfl⟩
 rw [← hl1, ← hl2]
 simp only [← hl1, ← hl2] at HP
 have HR := hid hr
 clear hr hl1 hl2
 rcases hx with ⟨hk, hx⟩ | ⟨hk, hx⟩
 ·rw [hk] at c0
  rw [hk] at HR
  go_enter Tryz.func57, Tryz.ntmps57
  go_upto_region 3 with fail
  go_cut [] (fun wx => Hid (wx.heap[p]? = some (.cells (rr s e 17 (numL T) (codeL T) T.at_ o m x l1 l2) 86 (0, 0)) ∧ Kr p w wx))
  case first =>
   go_region_law (first | (go_simp; go_at_call 41; refine (HP _).out.mono ?_; rintro e w1 ⟨rfl, b1⟩; have r1 := step_row (drew_row HR.out) b1; have c1 := fun j => cell_row r1 j; have fr1 := fun j => unfrozen_row r1 j; have HR1 := hid r1; have HB1 := hid b1; clear b1 r1))
   all_goals
    go_wp2_with fail
    go_meet
    exact ⟨set_fault HR1.out x l1 l2, (Kr.of_below HB1.out).undrew.trans (kr_fault _ _ _)⟩
  case rest =>
   obtain ⟨we, hwe⟩ : ∃ we, we = wc := ⟨_, rfl⟩
   subst hwe
   have c2 := fun j => cell_row hcut.out.1 j
   have fr2 := fun j => unfrozen_row hcut.out.1 j
   clear c0
   go_wp2_with fail
   go_end0
   exact ⟨rfl, set_tok hcut.out.1 17 0 0 0, hcut.out.2.trans (kr_tok _ _ _ _)⟩
 ·subst hx
  go_enter Tryz.func57, Tryz.ntmps57
  go_upto_region 3 with fail
  go_cut [] (fun wx => Hid (wx.heap[p]? = some (.cells (rr s e (kindL T) (numL T) (codeL T) T.at_ o m c l1 l2) 86 (0, 0)) ∧ Kr p w wx))
  case first =>
   go_region_law (first | (go_simp; go_at_call 41; refine (HP _).out.mono ?_; rintro e w1 ⟨rfl, b1⟩; have r1 := step_row (drew_row HR.out) b1; have c1 := fun j => cell_row r1 j; have fr1 := fun j => unfrozen_row r1 j; have HR1 := hid r1; have HB1 := hid b1; clear b1 r1))
   all_goals
    go_wp2_with fail
    go_meet
    exact ⟨set_fault HR1.out c l1 l2, (Kr.of_below HB1.out).undrew.trans (kr_fault _ _ _)⟩
  case rest =>
   obtain ⟨we, hwe⟩ : ∃ we, we = wc := ⟨_, rfl⟩
   subst hwe
   have c2 := fun j => cell_row hcut.out.1 j
   have fr2 := fun j => unfrozen_row hcut.out.1 j
   clear c0
   go_wp2_with fail
   go_end0
   exact ⟨rfl, set_tok hcut.out.1 17 0 0 0, hcut.out.2.trans (kr_tok _ _ _ _)⟩

theorem errc_nz (l : List UInt8) (i c : Nat) (hc : c ≠ 0) : errc (nextT l i) c ≠ 0 := by
 unfold errc
 split
 ·next h => exact (next_ok l i).bad h
 ·exact hc
theorem refuse_live {W : World} {p : Nat} {s : ByteArray} (i : Nat) (e o m : Int) (hr : W.heap[p]? = some (.cells (rr s e (kindL (nextT s.data.toList i)) (numL (nextT s.data.toList i)) (codeL (nextT s.data.toList i)) (nextT s.data.toList i).at_ o m 0 0 0) 86 (0, 0)))
  (hs : s.size ≤ 1099511627776) (hT : Lib.Utf8Tabs 2 3 W) (h3 : p ≠ 2) (h4 : p ≠ 3) (c : Nat) (hc : c ≠ 0) (i' a b : Nat) :
  Calls Tryz.prog 57 #[.pointer (some ⟨p, 0, none⟩), .int .i64 (c : Int)] W fun e w' => e = .returned (.tuple #[]) ∧ RM w' p s ⟨some (errc (nextT s.data.toList i) c, (nextT s.data.toList i).at_), i', a, b⟩ ∧ Kr p W w' := by
 have hlen : s.data.toList.length = s.size := by simp
 have kk := kinds_next s.data.toList i
 have hat := (next_ok s.data.toList i).at_
 have hnz := errc_nz s.data.toList i c hc
 refine (refuse_raw p s (nextT s.data.toList i) e (errc (nextT s.data.toList i) c) c o m W hr hs (by omega) ?_).mono ?_
 ·by_cases hb : (nextT s.data.toList i).kind = 1
  ·exact .inl ⟨by rw [kk.k1.2 hb]; rfl, by simp [codeL, errc, hb]⟩
  ·refine .inr ⟨?_, by simp [errc, hb]⟩
   have : kindL (nextT s.data.toList i) ≠ 17 := fun x => hb (kk.k1.1 x)
   simp
   omega
 ·rintro e' w' ⟨rfl, hr', hk'⟩
  exact ⟨rfl, ⟨fun hx => (by cases hx), fun f hf => (by cases hf; exact ⟨_, _, _, hnz, hr'⟩), fun hx => (by cases hx), hs, fun hx => (by cases hx), fun hx => (by cases hx), tabs_kr hT hk' h3 h4, h3, h4⟩, hk'⟩
theorem refuse_any {W : World} {p : Nat} {s : ByteArray} {q : Q} (h : RM W p s q) (c : Nat) (hc : c ≠ 0) :
  Calls Tryz.prog 57 #[.pointer (some ⟨p, 0, none⟩), .int .i64 (c : Int)] W fun e w' => e = .returned (.tuple #[]) ∧ RM w' p s (q.ref s.data.toList c) ∧ Kr p W w' := by
 cases hq : q.fault with
 | none =>
  obtain ⟨e, hr, he, hes⟩ := h.live hq
  have ea : q.ref s.data.toList c = q.err s.data.toList c := by unfold Q.ref; rw [if_pos hq]
  rw [ea]
  exact refuse_live q.at_ e q.opn q.made hr h.size h.tabs h.h3 h.h4 c hc q.at_ q.opn q.made
 | some f =>
  obtain ⟨e, o, m, h0, hr⟩ := h.dead f hq
  have ea : q.ref s.data.toList c = q := by unfold Q.ref; rw [if_neg (by rw [hq]; simp)]
  rw [ea]
  have c0 := fun j => cell_row hr j
  have hz : ((f.1 : Int) != 0) = true := by simp; exact h0
  have HRM := hid h
  clear h hr hq h0 ea hc
  go_enter Tryz.func57, Tryz.ntmps57
  go_wp2
  exact bodyPost_ret (v := .tuple #[]) (by simp [results, Tryz.results57, go_sem]) rfl ⟨rfl, HRM.out, Kr.refl _ _⟩

end Go.Proofs.YtdkboifpdodonacGreatDoor
/-
 The landed reader: pass, passNode, enter, leave.
-/
namespace Go.Proofs.YtdkboifpdodonacGreatDoor
open Go.RowKit Go.Deep PureCnf PureForm PureRd
set_option maxRecDepth 100000

set_option maxHeartbeats 1000000 in
theorem pass_any {W : World} {p : Nat} {s : ByteArray} {q : Q} (h : RM W p s q) (k : Nat) (hk : k ≠ 17) :
  Calls Tryz.prog 37 #[.pointer (some ⟨p, 0, none⟩), .int .i64 (k : Int)] W fun e w' => e = .returned (.tuple #[]) ∧ RM w' p s (q.pass s.data.toList k) ∧ Kr p W w' := by
 obtain ⟨e, c, a, o, m, f1, f2, f3, hr, _⟩ := h.cells
 have c0 := fun j => cell_row hr j
 unfold Q.pass
 by_cases hkk : q.kind s.data.toList = k
 ·have kk := kinds_next s.data.toList q.at_
  have HA := hid (advance_any h (fun hq hb => by
   obtain ⟨_, e1⟩ := kind_live hk hkk
   exact hk (by rw [← e1]; exact kk.k1.2 hb)))
  rw [if_pos hkk]
  rw [hkk] at c0
  clear h hr hkk kk
  go_enter Tryz.func37, Tryz.ntmps37
  go_wp2_with (go_at_call 35; refine HA.out.mono ?_; rintro e w' ⟨rfl, r1, k1⟩; have HR1 := hid r1; have HK1 := hid k1; clear r1 k1)
  go_end0
  exact ⟨rfl, HR1.out, HK1.out⟩
 ·have HF := hid (refuse_any h 131 (by decide))
  have hn : (((q.kind s.data.toList : Nat) : Int) != (k : Int)) = true := by simp; omega
  rw [if_neg hkk]
  have HD : Hid (∃ f, (q.ref s.data.toList 131).fault = some f) := by
   show ∃ f, _
   unfold Q.ref
   split
   ·exact ⟨_, rfl⟩
   ·next hx =>
    cases hq : q.fault with
    | none => exact absurd hq hx
    | some f => exact ⟨f, rfl⟩
  have ea : (q.ref s.data.toList 131).adv s.data.toList = q.ref s.data.toList 131 := by
   obtain ⟨f, hf⟩ := HD.out
   unfold Q.adv
   rw [if_neg (by rw [hf]; simp)]
  have HE := hid ea
  clear h hr hkk ea
  go_enter Tryz.func37, Tryz.ntmps37
  go_wp2_with (first | (go_at_call 57; refine HF.out.mono ?_; rintro e w1 ⟨rfl, r1, k1⟩; have HA := hid (advance_any r1 (fun hx => by obtain ⟨f, hf⟩ := HD.out; rw [hf] at hx; cases hx)); have HK1 := hid k1; clear r1 k1) | (go_at_call 35; refine HA.out.mono ?_; rintro e w2 ⟨rfl, r2, k2⟩; have HR2 := hid r2; have HK2 := hid k2; clear r2 k2))
  go_end0
  have h2 := HR2.out
  rw [HE.out] at h2
  exact ⟨rfl, h2, HK1.out.trans HK2.out⟩

/-! ### passNode -/
theorem set_made {W : World} {p : Nat} {s : ByteArray} {e k n c a o m f1 f2 f3 : Int} (h : W.heap[p]? = some (.cells (rr s e k n c a o m f1 f2 f3) 86 (0, 0))) (x : Int) :
  (W.setCell ⟨p, 7, none⟩ (.int .i64 x)).heap[p]? = some (.cells (rr s e k n c a o x f1 f2 f3) 86 (0, 0)) := by
 simp [World.setCell, Array.getElem?_modify, h]
theorem set_opn {W : World} {p : Nat} {s : ByteArray} {e k n c a o m f1 f2 f3 : Int} (h : W.heap[p]? = some (.cells (rr s e k n c a o m f1 f2 f3) 86 (0, 0))) (x : Int) :
  (W.setCell ⟨p, 6, none⟩ (.int .i64 x)).heap[p]? = some (.cells (rr s e k n c a x m f1 f2 f3) 86 (0, 0)) := by
 simp [World.setCell, Array.getElem?_modify, h]
theorem RM.setMade {W : World} {p : Nat} {s : ByteArray} {q : Q} (h : RM W p s q) (hq : q.fault = none) (hm : q.made < 65536) : RM (W.setCell ⟨p, 7, none⟩ (.int .i64 ((q.made : Int) + 1))) p s { q with made := q.made + 1 } := by
 obtain ⟨e, hr, he, hes⟩ := h.live hq
 exact ⟨fun _ => ⟨e, set_made hr _, he, hes⟩, fun f hf => (by rw [hq] at hf; cases hf), h.at_, h.size, h.opn, fun _ => hm, tabs_kr h.tabs Kr.set h.h3 h.h4, h.h3, h.h4⟩
theorem RM.setOpn {W : World} {p : Nat} {s : ByteArray} {q : Q} (h : RM W p s q) (hq : q.fault = none) (x : Nat) (hx : x ≤ 64) : RM (W.setCell ⟨p, 6, none⟩ (.int .i64 (x : Int))) p s { q with opn := x } := by
 obtain ⟨e, hr, he, hes⟩ := h.live hq
 exact ⟨fun _ => ⟨e, set_opn hr _, he, hes⟩, fun f hf => (by rw [hq] at hf; cases hf), h.at_, h.size, fun _ => hx, h.made, tabs_kr h.tabs Kr.set h.h3 h.h4, h.h3, h.h4⟩
theorem RM.deadMade {W : World} {p : Nat} {s : ByteArray} {q : Q} {f : Nat × Nat} (h : RM W p s q) (hq : q.fault = some f) (x : Int) : RM (W.setCell ⟨p, 7, none⟩ (.int .i64 x)) p s q := by
 obtain ⟨e, o, m, h0, hr⟩ := h.dead f hq
 exact ⟨fun hx => (by rw [hq] at hx; cases hx), fun g hg => (by rw [hq] at hg; cases hg; exact ⟨e, o, x, h0, set_made hr _⟩), h.at_, h.size, h.opn, h.made, tabs_kr h.tabs Kr.set h.h3 h.h4, h.h3, h.h4⟩
theorem RM.deadOpn {W : World} {p : Nat} {s : ByteArray} {q : Q} {f : Nat × Nat} (h : RM W p s q) (hq : q.fault = some f) (x : Int) : RM (W.setCell ⟨p, 6, none⟩ (.int .i64 x)) p s q := by
 obtain ⟨e, o, m, h0, hr⟩ := h.dead f hq
 exact ⟨fun hx => (by rw [hq] at hx; cases hx), fun g hg => (by rw [hq] at hg; cases hg; exact ⟨e, x, m, h0, set_opn hr _⟩), h.at_, h.size, h.opn, h.made, tabs_kr h.tabs Kr.set h.h3 h.h4, h.h3, h.h4⟩
theorem ref_dead {l : List UInt8} {q : Q} {f : Nat × Nat} (hq : q.fault = some f) (c : Nat) : q.ref l c = q := by unfold Q.ref; rw [if_neg (by rw [hq]; simp)]
theorem adv_dead {l : List UInt8} {q : Q} {f : Nat × Nat} (hq : q.fault = some f) : q.adv l = q := by unfold Q.adv; rw [if_neg (by rw [hq]; simp)]

set_option maxHeartbeats 2000000 in
theorem passN_any {W : World} {p : Nat} {s : ByteArray} {q : Q} (h : RM W p s q) (hk : q.fault = none → (nextT s.data.toList q.at_).kind ≠ 1) :
  Calls Tryz.prog 74 #[.pointer (some ⟨p, 0, none⟩)] W fun e w' => e = .returned (.tuple #[]) ∧ RM w' p s (q.passN s.data.toList) ∧ Kr p W w' := by
 cases hq : q.fault with
 | none =>
  obtain ⟨e, hr, he, hes⟩ := h.live hq
  have c0 := fun j => cell_row hr j
  have f0 := fun j => unfrozen_row hr j
  have hm := h.made hq
  by_cases h5 : 65536 ≤ q.made
  ·have em : q.made = 65536 := by omega
   obtain ⟨q', hq'⟩ : ∃ q' : Q, q' = ⟨some (errc (nextT s.data.toList q.at_) 8, (nextT s.data.toList q.at_).at_), q.at_, q.opn, q.made + 1⟩ := ⟨_, rfl⟩
   have ea : q.passN s.data.toList = q' := by
    unfold Q.passN Q.err; rw [if_pos hq, if_pos h5, hq']
   have HD : Hid (q'.fault = some (errc (nextT s.data.toList q.at_) 8, (nextT s.data.toList q.at_).at_)) := by rw [hq']; rfl
   have HF := hid (refuse_live (W := W.setCell ⟨p, 7, none⟩ (.int .i64 65537)) q.at_ e q.opn 65537 (set_made hr 65537) h.size (tabs_kr h.tabs Kr.set h.h3 h.h4) h.h3 h.h4 8 (by decide) q.at_ q.opn (q.made + 1))
   rw [← hq'] at HF
   rw [ea]
   rw [em] at c0
   have HE := hid (adv_dead (l := s.data.toList) HD.out)
   clear ea hr h hk hq' em hm h5 hq he
   go_enter Tryz.func74, Tryz.ntmps74
   go_wp2_with (first | (go_at_call 57; refine HF.out.mono ?_; rintro e w1 ⟨rfl, r1, k1⟩; have HA := hid (advance_any r1 (fun hx => by rw [HD.out] at hx; cases hx)); have HK1 := hid k1; clear r1 k1) | (go_at_call 35; refine HA.out.mono ?_; rintro e w2 ⟨rfl, r2, k2⟩; have HR2 := hid r2; have HK2 := hid k2; clear r2 k2))
   go_end0
   have h2 := HR2.out
   rw [HE.out] at h2
   exact ⟨rfl, h2, (Kr.set.trans HK1.out).trans HK2.out⟩
  ·have H1 := h.setMade hq (by omega)
   have ea : q.passN s.data.toList = ({ q with made := q.made + 1 } : Q).adv s.data.toList := by
    unfold Q.passN Q.adv; rw [if_pos hq, if_neg h5, if_pos hq]
   have HA := hid (advance_any H1 (fun _ => hk hq))
   rw [ea]
   obtain ⟨qm, hqm⟩ : ∃ qm : Int, qm = q.made := ⟨_, rfl⟩
   rw [← hqm] at c0 HA
   have m1 : 0 ≤ qm := by omega
   have m2 : qm < 65536 := by omega
   clear ea H1 hr h hk hm h5 hq he hqm
   go_enter Tryz.func74, Tryz.ntmps74
   go_wp2_with (go_at_call 35; refine HA.out.mono ?_; rintro e w2 ⟨rfl, r2, k2⟩; have HR2 := hid r2; have HK2 := hid k2; clear r2 k2)
   go_end0
   exact ⟨rfl, HR2.out, Kr.set.trans HK2.out⟩
 | some f =>
  obtain ⟨e, o, m, h0, hr⟩ := h.dead f hq
  have c0 := fun j => cell_row hr j
  have f0 := fun j => unfrozen_row hr j
  have H1 := h.deadMade hq (wrap64 (m + 1))
  have HF := hid (refuse_any H1 8 (by decide))
  have HA0 := hid (advance_any H1 (fun hx => by rw [hq] at hx; cases hx))
  rw [adv_dead hq] at HA0
  rw [ref_dead hq] at HF
  have ea : q.passN s.data.toList = q := by unfold Q.passN; rw [if_neg (by rw [hq]; simp)]
  rw [ea]
  have HQ := hid hq
  have HL := hid (adv_dead (l := s.data.toList) hq)
  clear h hr h0 H1 hk ea hq
  by_cases hg : 65536 < wrap64 (m + 1)
  ·go_enter Tryz.func74, Tryz.ntmps74
   go_wp2_with (first | (go_at_call 57; refine HF.out.mono ?_; rintro e w1 ⟨rfl, r1, k1⟩; have HA := hid (advance_any r1 (fun hx => by rw [HQ.out] at hx; cases hx)); have HK1 := hid k1; clear r1 k1) | (go_at_call 35; refine HA.out.mono ?_; rintro e w2 ⟨rfl, r2, k2⟩; have HR2 := hid r2; have HK2 := hid k2; clear r2 k2))
   go_end0
   have h2 := HR2.out
   rw [HL.out] at h2
   exact ⟨rfl, h2, (Kr.set.trans HK1.out).trans HK2.out⟩
  ·go_enter Tryz.func74, Tryz.ntmps74
   go_wp2_with (first | (go_at_call 35; refine HA0.out.mono ?_; rintro e w2 ⟨rfl, r2, k2⟩; have HR2 := hid r2; have HK2 := hid k2; clear r2 k2))
   go_end0
   exact ⟨rfl, HR2.out, Kr.set.trans HK2.out⟩

/-! ### enter, leave -/
set_option maxHeartbeats 2000000 in
theorem enter_any {W : World} {p : Nat} {s : ByteArray} {q : Q} (h : RM W p s q) :
  Calls Tryz.prog 120 #[.pointer (some ⟨p, 0, none⟩)] W fun e w' => e = .returned (.tuple #[]) ∧ RM w' p s (q.ent s.data.toList) ∧ Kr p W w' := by
 cases hq : q.fault with
 | none =>
  obtain ⟨e, hr, he, hes⟩ := h.live hq
  have c0 := fun j => cell_row hr j
  have f0 := fun j => unfrozen_row hr j
  have hm := h.opn hq
  by_cases h5 : 64 ≤ q.opn
  ·have em : q.opn = 64 := by omega
   obtain ⟨q', hq'⟩ : ∃ q' : Q, q' = ⟨some (errc (nextT s.data.toList q.at_) 132, (nextT s.data.toList q.at_).at_), q.at_, q.opn + 1, q.made⟩ := ⟨_, rfl⟩
   have ea : q.ent s.data.toList = q' := by
    unfold Q.ent Q.err; rw [if_pos hq, if_pos h5, hq']
   have HF := hid (refuse_live (W := W.setCell ⟨p, 6, none⟩ (.int .i64 65)) q.at_ e 65 q.made (set_opn hr 65) h.size (tabs_kr h.tabs Kr.set h.h3 h.h4) h.h3 h.h4 132 (by decide) q.at_ (q.opn + 1) q.made)
   rw [← hq'] at HF
   rw [ea]
   rw [em] at c0
   clear ea hr h hq' em hm h5 hq he
   go_enter Tryz.func120, Tryz.ntmps120
   go_wp2_with (go_at_call 57; refine HF.out.mono ?_; rintro e w1 ⟨rfl, r1, k1⟩; have HR1 := hid r1; have HK1 := hid k1; clear r1 k1)
   go_end0
   exact ⟨rfl, HR1.out, Kr.set.trans HK1.out⟩
  ·have H1 := hid (h.setOpn hq (q.opn + 1) (by omega))
   have ea : q.ent s.data.toList = { q with opn := q.opn + 1 } := by
    unfold Q.ent; rw [if_pos hq, if_neg h5]
   rw [ea]
   obtain ⟨qm, hqm⟩ : ∃ qm : Int, qm = q.opn := ⟨_, rfl⟩
   rw [show (((q.opn + 1 : Nat) : Int)) = qm + 1 by omega] at H1
   rw [← hqm] at c0
   have m1 : 0 ≤ qm := by omega
   have m2 : qm < 64 := by omega
   clear ea hr h hm h5 hq he hqm
   go_enter Tryz.func120, Tryz.ntmps120
   go_wp2
   go_end0
   exact ⟨rfl, H1.out, Kr.set⟩
 | some f =>
  obtain ⟨e, o, m, h0, hr⟩ := h.dead f hq
  have c0 := fun j => cell_row hr j
  have f0 := fun j => unfrozen_row hr j
  have H1 := h.deadOpn hq (wrap64 (o + 1))
  have HF := hid (refuse_any H1 132 (by decide))
  rw [ref_dead hq] at HF
  have ea : q.ent s.data.toList = q := by unfold Q.ent; rw [if_neg (by rw [hq]; simp)]
  rw [ea]
  have HH := hid H1
  clear h hr h0 H1 ea hq
  by_cases hg : 64 < wrap64 (o + 1)
  ·go_enter Tryz.func120, Tryz.ntmps120
   go_wp2_with (go_at_call 57; refine HF.out.mono ?_; rintro e w1 ⟨rfl, r1, k1⟩; have HR1 := hid r1; have HK1 := hid k1; clear r1 k1)
   go_end0
   exact ⟨rfl, HR1.out, Kr.set.trans HK1.out⟩
  ·go_enter Tryz.func120, Tryz.ntmps120
   go_wp2
   go_end0
   exact ⟨rfl, HH.out, Kr.set⟩

set_option maxHeartbeats 1000000 in
theorem leave_any {W : World} {p : Nat} {s : ByteArray} {q : Q} (h : RM W p s q) (h1 : q.fault = none → 1 ≤ q.opn) :
  Calls Tryz.prog 121 #[.pointer (some ⟨p, 0, none⟩)] W fun e w' => e = .returned (.tuple #[]) ∧ RM w' p s q.lev ∧ Kr p W w' := by
 cases hq : q.fault with
 | none =>
  obtain ⟨e, hr, he, hes⟩ := h.live hq
  have c0 := fun j => cell_row hr j
  have f0 := fun j => unfrozen_row hr j
  have hm := h.opn hq
  have h1' := h1 hq
  have H1 := hid (h.setOpn hq (q.opn - 1) (by omega))
  have ea : q.lev = { q with opn := q.opn - 1 } := by unfold Q.lev; rw [if_pos hq]
  rw [ea]
  obtain ⟨qm, hqm⟩ : ∃ qm : Int, qm = q.opn := ⟨_, rfl⟩
  rw [show (((q.opn - 1 : Nat) : Int)) = qm - 1 by omega] at H1
  rw [← hqm] at c0
  have m1 : 1 ≤ qm := by omega
  have m2 : qm ≤ 64 := by omega
  clear ea hr h hm hq he hqm h1 h1'
  go_enter Tryz.func121, Tryz.ntmps121
  go_wp2
  go_end0
  exact ⟨rfl, H1.out, Kr.set⟩
 | some f =>
  obtain ⟨e, o, m, h0, hr⟩ := h.dead f hq
  have c0 := fun j => cell_row hr j
  have f0 := fun j => unfrozen_row hr j
  have HH := hid (h.deadOpn hq (wrap64 (o - 1)))
  have ea : q.lev = q := by unfold Q.lev; rw [if_neg (by rw [hq]; simp)]
  rw [ea]
  clear h hr h0 ea hq h1
  go_enter Tryz.func121, Tryz.ntmps121
  go_wp2
  go_end0
  exact ⟨rfl, HH.out, Kr.set⟩

end Go.Proofs.YtdkboifpdodonacGreatDoor
/-
 The landed reader: operators that lean to the left.
-/
namespace Go.Proofs.YtdkboifpdodonacGreatDoor
open Go.RowKit Go.Deep PureCnf PureForm PureRd
set_option maxRecDepth 100000

/-- how far the reader may yet go. -/
def mu (s : ByteArray) (q : Q) : Nat := if q.fault = none then s.size + 1 - q.at_ else 0
theorem mu_mono {s : ByteArray} {q q' : Q} {d : Int} (h : Mono s.data.toList d q q') : mu s q' ≤ mu s q := by
 unfold mu
 split
 ·next hn =>
  have hb := h.back hn
  have := (h.live hn).2.1
  rw [if_pos hb]
  omega
 ·exact Nat.zero_le _
theorem mu_pos {W : World} {p : Nat} {s : ByteArray} {q : Q} (h : RM W p s q) (hq : q.fault = none) : 1 ≤ mu s q := by
 have := h.at_ hq
 unfold mu
 rw [if_pos hq]
 omega
theorem mu_passN {W : World} {p : Nat} {s : ByteArray} {q : Q} (h : RM W p s q) (hq : q.fault = none) (hk : (nextT s.data.toList q.at_).kind ≠ 0) : mu s (q.passN s.data.toList) < mu s q := by
 have hp := mu_pos h hq
 have hat := h.at_ hq
 have hlen : s.data.toList.length = s.size := by simp
 obtain ⟨e1, e2⟩ := end_ge s.data.toList q.at_ hk
 unfold Q.passN
 rw [if_pos hq]
 split
 ·unfold mu at hp ⊢
  rw [if_neg (by simp [Q.err])]
  exact hp
 ·unfold mu
  rw [if_pos (show (Q.step s.data.toList { q with made := q.made + 1 }).fault = none from hq), if_pos hq]
  simp only [Q.step]
  omega
theorem mu_adv {W : World} {p : Nat} {s : ByteArray} {q : Q} (h : RM W p s q) (hq : q.fault = none) (hk : (nextT s.data.toList q.at_).kind ≠ 0) : mu s (q.adv s.data.toList) < mu s q := by
 have hat := h.at_ hq
 have hlen : s.data.toList.length = s.size := by simp
 obtain ⟨e1, e2⟩ := end_ge s.data.toList q.at_ hk
 unfold Q.adv mu
 rw [if_pos hq, if_pos hq, if_pos (show (q.step s.data.toList).fault = none from hq)]
 simp only [Q.step]
 omega

/-- a tree, or nothing. -/
def IfV (v : Value) : Prop := v = .nilIface ∨ ∃ k u, v = .iface k u
/-- what a rule of the reader answers. -/
def Ans1 (Pre : PS → Prop) (b : Nat) (W : World) (p : Nat) (s : ByteArray) (q : Q) (e : Ending) (w' : World) : Prop :=
 ∃ v q', e = .returned v ∧ IfV v ∧ RM w' p s q' ∧ Rel s.data.toList Pre b q v q' ∧ Kr p W w'
/-- a rule of the reader, as far as n goes. -/
def Reads (n fn : Nat) (Pre : PS → Prop) (b : Nat) : Prop := ∀ (W : World) (p : Nat) (s : ByteArray) (q : Q), RM W p s q → mu s q ≤ n → Calls Tryz.prog fn #[.pointer (some ⟨p, 0, none⟩)] W (Ans1 Pre b W p s q)
theorem kind_bad {l : List UInt8} {q : Q} {k : Nat} (hk : q.kind l = k) (h17 : k ≠ 17) : (nextT l q.at_).kind ≠ 1 := fun hb => by
 obtain ⟨_, e⟩ := kind_live h17 hk
 exact h17 (by rw [← e]; exact (kinds_next l q.at_).k1.2 hb)
theorem kind_end {l : List UInt8} {q : Q} {k : Nat} (hk : q.kind l = k) (h17 : k ≠ 17) (h16 : k ≠ 16) : (nextT l q.at_).kind ≠ 0 := fun hb => by
 obtain ⟨_, e⟩ := kind_live h17 hk
 exact h16 (by rw [← e]; exact (kinds_next l q.at_).k0.2 hb)

set_option maxHeartbeats 2000000 in
theorem left_6 {n : Nat} (HO : Reads n 118 (Pre0 (5 + 1)) (5 + 1)) (W : World) (p : Nat) (s : ByteArray) (q : Q) (h : RM W p s q) (hn : mu s q ≤ n) :
  Calls Tryz.prog 55 #[.pointer (some ⟨p, 0, none⟩), .int .i64 6, .func (.func 118) #[.pointer (some ⟨p, 0, none⟩)] #[]] W (Ans1 (Pre0 5) 5 W p s q) := by
 have H0 := hid (HO W p s q h hn)
 have HH := hid HO
 clear HO
 go_enter Tryz.func55, Tryz.ntmps55
 go_wp2_with (go_at_call 118; refine H0.out.mono ?_; rintro e w1 ⟨v1, q1, rfl, i1, r1, l1, k1⟩; have HI1 := hid i1; have HR1 := hid r1; have HL1 := hid l1; have HK1 := hid k1; have hm1 : mu s q1 ≤ n := Nat.le_trans (mu_mono l1.mono) hn; clear r1 l1 k1 i1)
 go_loopg [7] n (fun k t wr => ∃ q', mu s q' ≤ k ∧ k ≤ n ∧ Hid (IfV t) ∧ Hid (RM wr p s q' ∧ Rel s.data.toList (Pre0 5) (5 + 1) q t q' ∧ Kr p W wr))
 case atStart => exact ⟨q1, hm1, Nat.le_refl _, HI1.out, HR1.out, left_start HL1.out, HK1.out⟩
 case round =>
  obtain ⟨q', hk, hkn, HV, HI⟩ := hrel
  clear HR1 HL1 HK1 H0 HI1
  obtain ⟨e, c, a, o, m, f1, f2, f3, hr, _⟩ := HI.out.1.cells
  have c0 := fun j => cell_row hr j
  by_cases hkk : q'.kind s.data.toList = 6
  ·rw [hkk] at c0
   have hq := (kind_live (by decide) hkk).1
   have HP := hid (passN_any HI.out.1 (fun _ => kind_bad hkk (by decide)))
   have hlt := mu_passN HI.out.1 hq (kind_end hkk (by decide) (by decide))
   have HKK := hid hkk
   clear hr hkk hq
   rcases HV.out with rfl | ⟨kx, ux, rfl⟩
   all_goals
    clear HV
    go_wp2_with (go_at_call 74; refine HP.out.mono ?_; rintro e w2 ⟨rfl, r2, k2⟩; have H2 := hid (HH.out w2 p s _ r2 (by omega)); have HK2 := hid k2; clear r2 k2)
    refine H2.out.mono ?_
    rintro e w3 ⟨v3, q3, rfl, i3, r3, l3, k3⟩
    have HR3 := hid r3
    have HL3 := hid l3
    have HK3 := hid k3
    have hm3 : mu s q3 ≤ mu s (q'.passN s.data.toList) := mu_mono l3.mono
    clear r3 l3 k3
    rcases i3 with rfl | ⟨ky, uy, rfl⟩
    all_goals
     go_wp2
     go_roundg (gk - 1)
     case measure => omega
     case rel => exact ⟨q3, by omega, by omega, .inr ⟨_, _, rfl⟩, HR3.out, left_round ⟨by decide, by decide⟩ (by decide) rfl HI.out.2.1 HKK.out HL3.out, (HI.out.2.2.trans HK2.out).trans HK3.out⟩
  ·have hne : (((q'.kind s.data.toList : Nat) : Int) == 6) = false := by simp; omega
   have HE := hid (left_end HI.out.2.1 hkk (fun o h1 h2 h3 => by unfold bindsN at h3; (repeat' split at h3) <;> omega))
   clear hr hkk
   go_wp2
   go_ret
   exact ⟨_, q', rfl, HV.out, HI.out.1, HE.out, HI.out.2.2⟩
set_option maxHeartbeats 400000 in
theorem and_any {n : Nat} (HO : Reads n 118 (Pre0 (5 + 1)) (5 + 1)) : Reads n 113 (Pre0 5) 5 := by
 intro W p s q h hn
 have H0 := hid (left_6 HO W p s q h hn)
 clear HO h
 go_enter Tryz.func113, Tryz.ntmps113
 go_wp2_with (go_at_call 55; refine H0.out.mono ?_; rintro e w1 ⟨v1, q1, rfl, i1, r1, l1, k1⟩; have HI1 := hid i1; have HR1 := hid r1; have HL1 := hid l1; have HK1 := hid k1; clear r1 l1 k1 i1)
 go_ret
 exact ⟨v1, q1, rfl, HI1.out, HR1.out, HL1.out, HK1.out⟩

set_option maxHeartbeats 2000000 in
theorem left_8 {n : Nat} (HO : Reads n 113 (Pre0 (4 + 1)) (4 + 1)) (W : World) (p : Nat) (s : ByteArray) (q : Q) (h : RM W p s q) (hn : mu s q ≤ n) :
  Calls Tryz.prog 55 #[.pointer (some ⟨p, 0, none⟩), .int .i64 8, .func (.func 113) #[.pointer (some ⟨p, 0, none⟩)] #[]] W (Ans1 (Pre0 4) 4 W p s q) := by
 have H0 := hid (HO W p s q h hn)
 have HH := hid HO
 clear HO
 go_enter Tryz.func55, Tryz.ntmps55
 go_wp2_with (go_at_call 113; refine H0.out.mono ?_; rintro e w1 ⟨v1, q1, rfl, i1, r1, l1, k1⟩; have HI1 := hid i1; have HR1 := hid r1; have HL1 := hid l1; have HK1 := hid k1; have hm1 : mu s q1 ≤ n := Nat.le_trans (mu_mono l1.mono) hn; clear r1 l1 k1 i1)
 go_loopg [7] n (fun k t wr => ∃ q', mu s q' ≤ k ∧ k ≤ n ∧ Hid (IfV t) ∧ Hid (RM wr p s q' ∧ Rel s.data.toList (Pre0 4) (4 + 1) q t q' ∧ Kr p W wr))
 case atStart => exact ⟨q1, hm1, Nat.le_refl _, HI1.out, HR1.out, left_start HL1.out, HK1.out⟩
 case round =>
  obtain ⟨q', hk, hkn, HV, HI⟩ := hrel
  clear HR1 HL1 HK1 H0 HI1
  obtain ⟨e, c, a, o, m, f1, f2, f3, hr, _⟩ := HI.out.1.cells
  have c0 := fun j => cell_row hr j
  by_cases hkk : q'.kind s.data.toList = 8
  ·rw [hkk] at c0
   have hq := (kind_live (by decide) hkk).1
   have HP := hid (passN_any HI.out.1 (fun _ => kind_bad hkk (by decide)))
   have hlt := mu_passN HI.out.1 hq (kind_end hkk (by decide) (by decide))
   have HKK := hid hkk
   clear hr hkk hq
   rcases HV.out with rfl | ⟨kx, ux, rfl⟩
   all_goals
    clear HV
    go_wp2_with (go_at_call 74; refine HP.out.mono ?_; rintro e w2 ⟨rfl, r2, k2⟩; have H2 := hid (HH.out w2 p s _ r2 (by omega)); have HK2 := hid k2; clear r2 k2)
    refine H2.out.mono ?_
    rintro e w3 ⟨v3, q3, rfl, i3, r3, l3, k3⟩
    have HR3 := hid r3
    have HL3 := hid l3
    have HK3 := hid k3
    have hm3 : mu s q3 ≤ mu s (q'.passN s.data.toList) := mu_mono l3.mono
    clear r3 l3 k3
    rcases i3 with rfl | ⟨ky, uy, rfl⟩
    all_goals
     go_wp2
     go_roundg (gk - 1)
     case measure => omega
     case rel => exact ⟨q3, by omega, by omega, .inr ⟨_, _, rfl⟩, HR3.out, left_round ⟨by decide, by decide⟩ (by decide) rfl HI.out.2.1 HKK.out HL3.out, (HI.out.2.2.trans HK2.out).trans HK3.out⟩
  ·have hne : (((q'.kind s.data.toList : Nat) : Int) == 8) = false := by simp; omega
   have HE := hid (left_end HI.out.2.1 hkk (fun o h1 h2 h3 => by unfold bindsN at h3; (repeat' split at h3) <;> omega))
   clear hr hkk
   go_wp2
   go_ret
   exact ⟨_, q', rfl, HV.out, HI.out.1, HE.out, HI.out.2.2⟩
set_option maxHeartbeats 400000 in
theorem xor_any {n : Nat} (HO : Reads n 113 (Pre0 (4 + 1)) (4 + 1)) : Reads n 101 (Pre0 4) 4 := by
 intro W p s q h hn
 have H0 := hid (left_8 HO W p s q h hn)
 clear HO h
 go_enter Tryz.func101, Tryz.ntmps101
 go_wp2_with (go_at_call 55; refine H0.out.mono ?_; rintro e w1 ⟨v1, q1, rfl, i1, r1, l1, k1⟩; have HI1 := hid i1; have HR1 := hid r1; have HL1 := hid l1; have HK1 := hid k1; clear r1 l1 k1 i1)
 go_ret
 exact ⟨v1, q1, rfl, HI1.out, HR1.out, HL1.out, HK1.out⟩

set_option maxHeartbeats 2000000 in
theorem left_7 {n : Nat} (HO : Reads n 101 (Pre0 (3 + 1)) (3 + 1)) (W : World) (p : Nat) (s : ByteArray) (q : Q) (h : RM W p s q) (hn : mu s q ≤ n) :
  Calls Tryz.prog 55 #[.pointer (some ⟨p, 0, none⟩), .int .i64 7, .func (.func 101) #[.pointer (some ⟨p, 0, none⟩)] #[]] W (Ans1 (Pre0 3) 3 W p s q) := by
 have H0 := hid (HO W p s q h hn)
 have HH := hid HO
 clear HO
 go_enter Tryz.func55, Tryz.ntmps55
 go_wp2_with (go_at_call 101; refine H0.out.mono ?_; rintro e w1 ⟨v1, q1, rfl, i1, r1, l1, k1⟩; have HI1 := hid i1; have HR1 := hid r1; have HL1 := hid l1; have HK1 := hid k1; have hm1 : mu s q1 ≤ n := Nat.le_trans (mu_mono l1.mono) hn; clear r1 l1 k1 i1)
 go_loopg [7] n (fun k t wr => ∃ q', mu s q' ≤ k ∧ k ≤ n ∧ Hid (IfV t) ∧ Hid (RM wr p s q' ∧ Rel s.data.toList (Pre0 3) (3 + 1) q t q' ∧ Kr p W wr))
 case atStart => exact ⟨q1, hm1, Nat.le_refl _, HI1.out, HR1.out, left_start HL1.out, HK1.out⟩
 case round =>
  obtain ⟨q', hk, hkn, HV, HI⟩ := hrel
  clear HR1 HL1 HK1 H0 HI1
  obtain ⟨e, c, a, o, m, f1, f2, f3, hr, _⟩ := HI.out.1.cells
  have c0 := fun j => cell_row hr j
  by_cases hkk : q'.kind s.data.toList = 7
  ·rw [hkk] at c0
   have hq := (kind_live (by decide) hkk).1
   have HP := hid (passN_any HI.out.1 (fun _ => kind_bad hkk (by decide)))
   have hlt := mu_passN HI.out.1 hq (kind_end hkk (by decide) (by decide))
   have HKK := hid hkk
   clear hr hkk hq
   rcases HV.out with rfl | ⟨kx, ux, rfl⟩
   all_goals
    clear HV
    go_wp2_with (go_at_call 74; refine HP.out.mono ?_; rintro e w2 ⟨rfl, r2, k2⟩; have H2 := hid (HH.out w2 p s _ r2 (by omega)); have HK2 := hid k2; clear r2 k2)
    refine H2.out.mono ?_
    rintro e w3 ⟨v3, q3, rfl, i3, r3, l3, k3⟩
    have HR3 := hid r3
    have HL3 := hid l3
    have HK3 := hid k3
    have hm3 : mu s q3 ≤ mu s (q'.passN s.data.toList) := mu_mono l3.mono
    clear r3 l3 k3
    rcases i3 with rfl | ⟨ky, uy, rfl⟩
    all_goals
     go_wp2
     go_roundg (gk - 1)
     case measure => omega
     case rel => exact ⟨q3, by omega, by omega, .inr ⟨_, _, rfl⟩, HR3.out, left_round ⟨by decide, by decide⟩ (by decide) rfl HI.out.2.1 HKK.out HL3.out, (HI.out.2.2.trans HK2.out).trans HK3.out⟩
  ·have hne : (((q'.kind s.data.toList : Nat) : Int) == 7) = false := by simp; omega
   have HE := hid (left_end HI.out.2.1 hkk (fun o h1 h2 h3 => by unfold bindsN at h3; (repeat' split at h3) <;> omega))
   clear hr hkk
   go_wp2
   go_ret
   exact ⟨_, q', rfl, HV.out, HI.out.1, HE.out, HI.out.2.2⟩
set_option maxHeartbeats 400000 in
theorem or_any {n : Nat} (HO : Reads n 101 (Pre0 (3 + 1)) (3 + 1)) : Reads n 75 (Pre0 3) 3 := by
 intro W p s q h hn
 have H0 := hid (left_7 HO W p s q h hn)
 clear HO h
 go_enter Tryz.func75, Tryz.ntmps75
 go_wp2_with (go_at_call 55; refine H0.out.mono ?_; rintro e w1 ⟨v1, q1, rfl, i1, r1, l1, k1⟩; have HI1 := hid i1; have HR1 := hid r1; have HL1 := hid l1; have HK1 := hid k1; clear r1 l1 k1 i1)
 go_ret
 exact ⟨v1, q1, rfl, HI1.out, HR1.out, HL1.out, HK1.out⟩

set_option maxHeartbeats 2000000 in
theorem left_10 {n : Nat} (HO : Reads n 56 (Pre0 (1 + 1)) (1 + 1)) (W : World) (p : Nat) (s : ByteArray) (q : Q) (h : RM W p s q) (hn : mu s q ≤ n) :
  Calls Tryz.prog 55 #[.pointer (some ⟨p, 0, none⟩), .int .i64 10, .func (.func 56) #[.pointer (some ⟨p, 0, none⟩)] #[]] W (Ans1 (Pre0 1) 1 W p s q) := by
 have H0 := hid (HO W p s q h hn)
 have HH := hid HO
 clear HO
 go_enter Tryz.func55, Tryz.ntmps55
 go_wp2_with (go_at_call 56; refine H0.out.mono ?_; rintro e w1 ⟨v1, q1, rfl, i1, r1, l1, k1⟩; have HI1 := hid i1; have HR1 := hid r1; have HL1 := hid l1; have HK1 := hid k1; have hm1 : mu s q1 ≤ n := Nat.le_trans (mu_mono l1.mono) hn; clear r1 l1 k1 i1)
 go_loopg [7] n (fun k t wr => ∃ q', mu s q' ≤ k ∧ k ≤ n ∧ Hid (IfV t) ∧ Hid (RM wr p s q' ∧ Rel s.data.toList (Pre0 1) (1 + 1) q t q' ∧ Kr p W wr))
 case atStart => exact ⟨q1, hm1, Nat.le_refl _, HI1.out, HR1.out, left_start HL1.out, HK1.out⟩
 case round =>
  obtain ⟨q', hk, hkn, HV, HI⟩ := hrel
  clear HR1 HL1 HK1 H0 HI1
  obtain ⟨e, c, a, o, m, f1, f2, f3, hr, _⟩ := HI.out.1.cells
  have c0 := fun j => cell_row hr j
  by_cases hkk : q'.kind s.data.toList = 10
  ·rw [hkk] at c0
   have hq := (kind_live (by decide) hkk).1
   have HP := hid (passN_any HI.out.1 (fun _ => kind_bad hkk (by decide)))
   have hlt := mu_passN HI.out.1 hq (kind_end hkk (by decide) (by decide))
   have HKK := hid hkk
   clear hr hkk hq
   rcases HV.out with rfl | ⟨kx, ux, rfl⟩
   all_goals
    clear HV
    go_wp2_with (go_at_call 74; refine HP.out.mono ?_; rintro e w2 ⟨rfl, r2, k2⟩; have H2 := hid (HH.out w2 p s _ r2 (by omega)); have HK2 := hid k2; clear r2 k2)
    refine H2.out.mono ?_
    rintro e w3 ⟨v3, q3, rfl, i3, r3, l3, k3⟩
    have HR3 := hid r3
    have HL3 := hid l3
    have HK3 := hid k3
    have hm3 : mu s q3 ≤ mu s (q'.passN s.data.toList) := mu_mono l3.mono
    clear r3 l3 k3
    rcases i3 with rfl | ⟨ky, uy, rfl⟩
    all_goals
     go_wp2
     go_roundg (gk - 1)
     case measure => omega
     case rel => exact ⟨q3, by omega, by omega, .inr ⟨_, _, rfl⟩, HR3.out, left_round ⟨by decide, by decide⟩ (by decide) rfl HI.out.2.1 HKK.out HL3.out, (HI.out.2.2.trans HK2.out).trans HK3.out⟩
  ·have hne : (((q'.kind s.data.toList : Nat) : Int) == 10) = false := by simp; omega
   have HE := hid (left_end HI.out.2.1 hkk (fun o h1 h2 h3 => by unfold bindsN at h3; (repeat' split at h3) <;> omega))
   clear hr hkk
   go_wp2
   go_ret
   exact ⟨_, q', rfl, HV.out, HI.out.1, HE.out, HI.out.2.2⟩
set_option maxHeartbeats 400000 in
theorem formula_any {n : Nat} (HO : Reads n 56 (Pre0 (1 + 1)) (1 + 1)) : Reads n 36 (Pre0 1) 1 := by
 intro W p s q h hn
 have H0 := hid (left_10 HO W p s q h hn)
 clear HO h
 go_enter Tryz.func36, Tryz.ntmps36
 go_wp2_with (go_at_call 55; refine H0.out.mono ?_; rintro e w1 ⟨v1, q1, rfl, i1, r1, l1, k1⟩; have HI1 := hid i1; have HR1 := hid r1; have HL1 := hid l1; have HK1 := hid k1; clear r1 l1 k1 i1)
 go_ret
 exact ⟨v1, q1, rfl, HI1.out, HR1.out, HL1.out, HK1.out⟩


end Go.Proofs.YtdkboifpdodonacGreatDoor
/-
 The landed reader: the operator that leans to the right.
-/
namespace Go.Proofs.YtdkboifpdodonacGreatDoor
open Go.RowKit Go.Deep PureCnf PureForm PureRd
set_option maxRecDepth 100000

theorem IfV.one {v : Value} (h : IfV v) : v.oneCell' = true := by
 rcases h with rfl | ⟨k, u, rfl⟩ <;> rfl
/-- append of one value to a row of trees, in a region of the text's order. -/
theorem app_part {ops : Array Oper} {rest : List Oper} {o : Oper} {a : Act} {Q : Exit → Act → World → Prop} {w : World} (hgd : o.guard = none) (sl x : Operand)
  (ho : o.op = .call { callee := .builtin .append, args := #[sl, x], argTypes := #[112, 112] }) (B : Nat) (v : Value) (xs : List Value) (y : Value) (ad : Nat) (hs : a.eval sl = v) (hown : w.ownsRow B 48 1 v xs.length xs) (hx : a.eval x = .slice (some ⟨ad, 0, none⟩) 1 1)
  (hy : w.cell? ⟨ad, 0, none⟩ = some y) (h1 : IfV y) (hn : xs.length ≤ 2199023255552) (hB : B ≤ w.heap.size)
  (h : ∀ v' w', w'.ownsRow B 48 1 v' (xs ++ [y]).length (xs ++ [y]) → w.grownBy w' v.ownBlock → wpList Tryz.prog ops Q rest (a.put o.dst v') w') : wpList Tryz.prog ops Q (o :: rest) a w := by
 obtain ⟨i, hi, hz0, hz1, hz2⟩ := info_parts info56
 refine wpList_append_own _ hgd sl x 112 ho B 48 i .nilIface 1 16 Tryz.underlying112 hi hz0 hz1 hz2 rfl (by decide) v xs.length xs hs hown ⟨ad, 0, none⟩ 1 1 [y] hx rfl (fun j u hu => by
  cases j with
  | zero => simp at hu; subst hu; rw [add_zero_addr]; exact hy
  | succ j => simp at hu) (fun u hu => by simp at hu; subst hu; exact h1.one) (by unfold maxLen; omega) (by omega) hB ?_
 intro v' w' h2 h3 _
 exact h v' w' (by rw [List.length_append]; exact h2) h3
theorem own_first {W : World} (B : Nat) (hB : B ≤ W.heap.size) (v : Value) : (W.alloc (.cells #[v] 48)).ownsRow B 48 1 (.slice (some ⟨W.heap.size, 0, none⟩) 1 1) 1 [v] :=
 ⟨rfl, .inr ⟨W.heap.size, 1, #[v], rfl, hB, heap_alloc_new W _, Nat.le_refl _, by decide, rfl, rfl⟩⟩
theorem Kr.onto {p : Nat} {W W1 W2 : World} (h : Kr p W W1) (hb : Below W.heap.size W1 W2) : Kr p W W2 :=
 ⟨hb.os.trans h.os, hb.tape.trans h.tape, hb.output.trans h.output, Nat.le_trans h.size hb.size, fun k hk hp => (hb.block k hk).trans (h.block k hk hp)⟩
theorem tabs_lt {w : World} (h : Lib.Utf8Tabs 2 3 w) : 2 < w.heap.size ∧ 3 < w.heap.size := by
 have lt : ∀ {a : Addr} {v : Value}, w.cell? a = some v → a.block < w.heap.size := fun {a v} hc => by
  rcases Nat.lt_or_ge a.block w.heap.size with h' | h'
  ·exact h'
  ·simp [World.cell?, Array.getElem?_eq_none h'] at hc
 exact ⟨lt (h.1 0 (by decide)), lt (h.2 0 (by decide)).1⟩
theorem RM.onto {W W' : World} {p B : Nat} {s : ByteArray} {q : Q} (h : RM W p s q) (hb : Below B W W') (hp : p < B) (h3 : 2 < B) (h4 : 3 < B) : RM W' p s q := by
 have hrow : ∀ {o : Obj}, W.heap[p]? = some o → W'.heap[p]? = some o := fun h => (hb.block p hp).trans h
 have cell : ∀ (b i : Nat) (v : Value), b < B → W.cell? ⟨b, i, none⟩ = some v → W'.cell? ⟨b, i, none⟩ = some v := fun b i v hlt hv => by
  rw [← hv]; exact World.cell?_of_block (hb.block b hlt)
 refine ⟨fun hq => ?_, fun f hf => ?_, h.at_, h.size, h.opn, h.made, ⟨fun c hc => cell 2 c _ h3 (h.tabs.1 c hc), fun i hi => ⟨cell 3 _ _ h4 (h.tabs.2 i hi).1, cell 3 _ _ h4 (h.tabs.2 i hi).2⟩⟩, h.h3, h.h4⟩
 ·obtain ⟨e, hr, r⟩ := h.live hq
  exact ⟨e, hrow hr, r⟩
 ·obtain ⟨e, o, m, h0, hr⟩ := h.dead f hf
  exact ⟨e, o, m, h0, hrow hr⟩
theorem own_kr {p : Nat} {W W' : World} {B e n : Nat} {v : Value} {xs : List Value} (h : W.ownsRow B e 1 v n xs) (hk : Kr p W W') (hp : p < B) : W'.ownsRow B e 1 v n xs := by
 obtain ⟨h1, h2⟩ := h
 refine ⟨h1, ?_⟩
 rcases h2 with h0 | ⟨g, cap, cur, hv, hg, hh, rest⟩
 ·exact .inl h0
 ·exact .inr ⟨g, cap, cur, hv, hg, (hk.block g (Array.getElem?_eq_some_iff.1 hh).1 (by omega)).trans hh, rest⟩

theorem own_keep3 {W W' : World} {B e n : Nat} {v : Value} {xs : List Value} (h : W.ownsRow B e 1 v n xs) (hb : Below W.heap.size W W') : W'.ownsRow B e 1 v n xs := by
 obtain ⟨h1, h2⟩ := h
 refine ⟨h1, ?_⟩
 rcases h2 with h0 | ⟨g, cap, cur, hv, hg, hh, rest⟩
 ·exact .inl h0
 ·exact .inr ⟨g, cap, cur, hv, hg, (hb.block g (Array.getElem?_eq_some_iff.1 hh).1).trans hh, rest⟩
/-- the parts of an implication, in memory. -/
structure Pt (W wr : World) (p : Nat) (s : ByteArray) (q q' : Q) (sv : Value) (vs : List Value) : Prop where
 rm : RM wr p s q'
 rel : RelI s.data.toList q vs q'
 kr : Kr p W wr
 own : wr.ownsRow W.heap.size 48 1 sv vs.length vs
 ifs : ∀ v ∈ vs, IfV v
 pos : 0 < vs.length
theorem Pt.more {W w3 w4 : World} {p : Nat} {s : ByteArray} {q q3 : Q} {sv sv' v3 : Value} {vs : List Value} {ad : Value} (rm : RM w3 p s q3) (rel : RelI s.data.toList q (vs ++ [v3]) q3) (kr : Kr p W w3) (hp : p < W.heap.size) (h3 : 2 < W.heap.size) (h4 : 3 < W.heap.size)
  (own : w3.ownsRow W.heap.size 48 1 sv vs.length vs) (ifs : ∀ v ∈ vs, IfV v) (i3 : IfV v3) (o4 : w4.ownsRow W.heap.size 48 1 sv' (vs ++ [v3]).length (vs ++ [v3])) (g4 : (w3.alloc (.cells #[ad] 48)).grownBy w4 sv.ownBlock) :
  Pt W w4 p s q q3 sv' (vs ++ [v3]) := by
 have hs := kr.size
 have hb : Below W.heap.size w3 w4 := ((Below.refl W.heap.size w3).alloc hs _).grown g4 (by simp; omega) (fun k hk => (own.lt k hk).1)
 exact ⟨rm.onto hb hp h3 h4, rel, kr.onto hb, o4, fun v hv => by
  rcases List.mem_append.1 hv with h | h
  ·exact ifs v h
  ·simp at h; subst h; exact i3, by simp⟩
theorem joinV_if : ∀ vs : List Value, (∀ v ∈ vs, IfV v) → IfV (joinV vs)
 | [], _ => .inl rfl
 | [v], h => h v (by simp)
 | _ :: _ :: _, _ => .inr ⟨_, _, rfl⟩
theorem joinV_drop {vs : List Value} {j : Nat} (h : j + 1 < vs.length) : joinV (vs.drop j) = .iface 94 (.agg #[.int .i64 9, vs[j]'(by omega), joinV (vs.drop (j + 1))]) := by
 rw [List.drop_eq_getElem_cons (show j < vs.length by omega), List.drop_eq_getElem_cons h]
 rfl

theorem own_some {W : World} {B n : Nat} {v : Value} {xs : List Value} (h : W.ownsRow B 48 1 v n xs) (hn : 0 < n) : ∃ g c, v = .slice (some ⟨g, 0, none⟩) n c ∧ g < W.heap.size ∧ n ≤ c ∧ ∀ k (hk : k < xs.length), W.cell? ⟨g, k, none⟩ = some xs[k] := by
 rcases own_forms h with ⟨_, h0⟩ | ⟨g, c, rfl, h1, h2, h3⟩
 ·omega
 ·refine ⟨g, c, rfl, h1, h2, fun k hk => ?_⟩
  have := h.cells (g := g) rfl k xs[k] (by simp [hk])
  rwa [add_zero_addr] at this

set_option maxHeartbeats 4000000 in
theorem imp_any {n : Nat} (HO : Reads n 75 (Pre0 3) 3) : Reads n 56 (Pre0 2) 2 := by
 intro W p s q h hn
 have H0 := hid (HO W p s q h hn)
 have HH := hid HO
 have hp := h.lt
 obtain ⟨t3, t4⟩ := tabs_lt h.tabs
 have hsz := h.size
 have hmu : mu s q ≤ s.size + 1 := by unfold mu; split <;> omega
 clear HO h
 go_enter Tryz.func56, Tryz.ntmps56
 go_wp2_with fail
 refine H0.out.mono ?_
 rintro e w1 ⟨v1, q1, rfl, i1, r1, l1, k1⟩
 have hm1 : mu s q1 ≤ mu s q := mu_mono l1.mono
 have hp1 : Pt W (w1.alloc (.cells #[v1] 48)) p s q q1 (.slice (some ⟨w1.heap.size, 0, none⟩) 1 1) [v1] :=
  ⟨r1.step (below_box _ _), imp_start l1, k1.trans (Kr.of_below (below_box _ _)), own_first _ k1.size v1, fun v hv => (by simp at hv; subst hv; exact i1), by simp⟩
 have HP1 := hid hp1
 clear r1 l1 k1 hp1 H0
 rcases i1 with rfl | ⟨kx, ux, rfl⟩
 all_goals
  go_wp2_with fail
  go_loopg [3] (mu s q) (fun k t wr => ∃ (q' : Q) (vs : List Value), mu s q' ≤ k ∧ k ≤ mu s q ∧ vs.length + k ≤ mu s q + 1 ∧ Hid (Pt W wr p s q q' t vs))
  case atStart => exact ⟨q1, _, hm1, Nat.le_refl _, by simp; omega, HP1.out⟩
  case round =>
   obtain ⟨q', vs, hk, hkn, hvl, HP⟩ := hrel
   clear HP1 hm1
   obtain ⟨e, c, a, o, m, f1, f2, f3, hr, _⟩ := HP.out.rm.cells
   obtain ⟨g, cap, rfl, hg, hcap, hcell⟩ := own_some HP.out.own HP.out.pos
   have c0 := fun j => cell_row hr j
   by_cases hkk : q'.kind s.data.toList = 9
   ·rw [hkk] at c0
    have hq := (kind_live (by decide) hkk).1
    have HPN := hid (passN_any HP.out.rm (fun _ => kind_bad hkk (by decide)))
    have hlt := mu_passN HP.out.rm hq (kind_end hkk (by decide) (by decide))
    have HKK := hid hkk
    have HCE := hid hcell
    clear hr hkk hq hcell
    go_wp2_with (go_at_call 74; refine HPN.out.mono ?_; rintro e w2 ⟨rfl, r2, k2⟩; have H2 := hid (HH.out w2 p s _ r2 (by omega)); have HK2 := hid k2; clear r2 k2)
    refine H2.out.mono ?_
    rintro e w3 ⟨v3, q3, rfl, i3, r3, l3, k3⟩
    have hm3 : mu s q3 ≤ mu s (q'.passN s.data.toList) := mu_mono l3.mono
    have kr3 := (HP.out.kr.trans HK2.out).trans k3
    have own3 := own_kr HP.out.own (HK2.out.trans k3) hp
    have HI3 := hid i3
    have HR3 := hid r3
    have HL3 := hid (imp_round HP.out.rel HKK.out l3)
    have HKR := hid kr3
    have HO3 := hid own3
    have HO4 := hid (own_keep3 own3 (below_box w3 (.cells #[v3] 48)))
    have hs3 := kr3.size
    clear r3 l3 k3 kr3 own3
    rcases i3 with rfl | ⟨ky, uy, rfl⟩
    ·go_wp2_with (at_builtin; refine app_part rfl _ _ rfl W.heap.size _ vs .nilIface w3.heap.size rfl HO4.out rfl (cell_row (heap_alloc_new w3 _) 0) HI3.out (by omega) (by simp; omega) ?_; intro sv4 w4 o4 g4; have hp4 := Pt.more HR3.out HL3.out HKR.out hp t3 t4 HO3.out HP.out.ifs HI3.out o4 g4; obtain ⟨g', cap', rfl, hg4, hcap4, _⟩ := own_some o4 (by simp); rw [List.length_append, List.length_singleton] at hp4 hcap4; have HP4 := hid hp4; clear o4 g4 hp4)
     go_roundg (gk - 1)
     case measure => omega
     case rel => exact ⟨q3, vs ++ [Value.nilIface], by omega, by omega, by rw [List.length_append, List.length_singleton]; omega, HP4.out⟩
    ·go_wp2_with (at_builtin; refine app_part rfl _ _ rfl W.heap.size _ vs (.iface ky uy) w3.heap.size rfl HO4.out rfl (cell_row (heap_alloc_new w3 _) 0) HI3.out (by omega) (by simp; omega) ?_; intro sv4 w4 o4 g4; have hp4 := Pt.more HR3.out HL3.out HKR.out hp t3 t4 HO3.out HP.out.ifs HI3.out o4 g4; obtain ⟨g', cap', rfl, hg4, hcap4, _⟩ := own_some o4 (by simp); rw [List.length_append, List.length_singleton] at hp4 hcap4; have HP4 := hid hp4; clear o4 g4 hp4)
     go_roundg (gk - 1)
     case measure => omega
     case rel => exact ⟨q3, vs ++ [Value.iface ky uy], by omega, by omega, by rw [List.length_append, List.length_singleton]; omega, HP4.out⟩
   ·have hne : (((q'.kind s.data.toList : Nat) : Int) == 9) = false := by simp; omega
    have HE := hid (imp_end HP.out.rel hkk)
    obtain ⟨L, hL⟩ : ∃ L, vs.length = L + 1 := ⟨vs.length - 1, by have := HP.out.pos; omega⟩
    have hlast : W.heap.size = W.heap.size := rfl
    have c5 := hcell L (by omega)
    have HCE := hid hcell
    have i5 : IfV vs[L] := HP.out.ifs _ (List.getElem_mem _)
    have HLL := hid hL
    obtain ⟨vL, hvL⟩ : ∃ v, v = vs[L] := ⟨_, rfl⟩
    have HVL := hid hvL
    rw [← hvL] at c5 i5
    rw [hL] at *
    clear hr hkk hcell hL hvL
    have HD : ∀ k, k < L → Hid (joinV (vs.drop k) = .iface 94 (.agg #[.int .i64 9, (vs[k]?).getD .nilIface, joinV (vs.drop (k + 1))])) := fun k hk => by
     have hlt : k < vs.length := by have := HLL.out; omega
     show _ = _
     rw [joinV_drop (by have := HLL.out; omega), List.getElem?_eq_getElem hlt]
     rfl
    have HC2 : ∀ k, k < L → Hid (wr.cell? ⟨g, k, none⟩ = some ((vs[k]?).getD .nilIface) ∧ IfV ((vs[k]?).getD .nilIface)) := fun k hk => by
     have hlt : k < vs.length := by have := HLL.out; omega
     show _ ∧ _
     rw [List.getElem?_eq_getElem hlt]
     exact ⟨HCE.out k hlt, HP.out.ifs _ (List.getElem_mem _)⟩
    have HS : Hid (vL = joinV (vs.drop L)) := by
     have hlt : L < vs.length := by have := HLL.out; omega
     have h1 : vs.drop L = [vs[L]] := by
      rw [List.drop_eq_getElem_cons hlt, List.drop_eq_nil_of_le (by have := HLL.out; omega)]
     show _ = _
     rw [h1, HVL.out]
     rfl
    have HIL := hid i5
    have HFin := hid (show RM wr p s q' ∧ Rel s.data.toList (Pre0 2) 2 q (joinV vs) q' ∧ Kr p W wr ∧ IfV (joinV vs) from ⟨HP.out.rm, HE.out, HP.out.kr, joinV_if vs HP.out.ifs⟩)
    obtain ⟨wq, hwq⟩ : ∃ wq, wq = wr := ⟨_, rfl⟩
    subst hwq
    have hLs : L ≤ 1099511627777 := by omega
    clear i5
    go_wp2_with fail
    go_loopg [4, 5] L (fun k a b wx => a = .int .i64 ((k : Int) - 1) ∧ k ≤ L ∧ wx = wq ∧ Hid (b = joinV (vs.drop k) ∧ IfV b))
    case atStart => exact ⟨by first | rfl | (congr 1; omega), Nat.le_refl _, rfl, HS.out, HIL.out⟩
    case round =>
     obtain ⟨hla, hkL, hwx, HB⟩ := hrel
     subst hla
     subst hwx
     clear HS HIL HVL HLL HP c0 c5 hne HCE HE
     cases gk with
     | zero =>
      go_wp2_with fail
      go_ret
      refine ⟨_, q', rfl, HB.out.2, HFin.out.1, ?_, HFin.out.2.2.1⟩
      rw [HB.out.1, List.drop_zero]
      exact HFin.out.2.1
     | succ k =>
      have HDk := HD k (by omega)
      have HCk := HC2 k (by omega)
      obtain ⟨x, hx⟩ : ∃ x, x = (vs[k]?).getD .nilIface := ⟨_, rfl⟩
      rw [← hx] at HDk HCk
      have ck := HCk.out.1
      have ik := HCk.out.2
      have hkk2 : (((k + 1 : Nat) : Int) - 1) = (k : Int) := by omega
      rw [hkk2]
      have hkb : (k : Int) < (L : Int) + 1 := by omega
      have hk0 : (0 : Int) ≤ k := by omega
      have ib := HB.out.2
      clear hx HCk HC2 HD hkk2
      rcases ik with rfl | ⟨kz, uz, rfl⟩
      all_goals
       rcases ib with rfl | ⟨kb, ub, rfl⟩
       all_goals
        go_wp2_with fail
        go_roundg k
        case measure => omega
        case rel => exact ⟨rfl, by omega, rfl, by rw [HDk.out, ← HB.out.1], .inr ⟨_, _, rfl⟩⟩

end Go.Proofs.YtdkboifpdodonacGreatDoor
