import Derived.Test.YtfmmmhcpdinhgabDoorZ07
/-
  The document's lines of a text, in memory.
-/
namespace Go.Proofs.YtfmmmhcpdinhgabDoor
open Go.RowKit Go.Deep PureNet PureRd ShfKit
set_option maxRecDepth 100000

/-! ### places -/
theorem spot_from (p : Nat × Nat) : ∀ (m : List UInt8), (∀ c ∈ m, c ≠ 10) → m.foldl (fun p c => if c.toNat = 10 then (p.1 + 1, 1) else (p.1, p.2 + 1)) p = (p.1, p.2 + m.length)
  | [], _ => rfl
  | c :: m, h => by
    have hc : c.toNat ≠ 10 := fun e => h c (by simp) (UInt8.toNat_inj.1 (by rw [e]; rfl))
    rw [List.foldl_cons, if_neg hc, spot_from _ m (fun x hx => h x (by simp [hx]))]
    simp only [List.length_cons, Prod.mk.injEq, true_and]
    omega
theorem spot_plain (l m : List UInt8) (h : ∀ c ∈ m, c ≠ 10) : spotN (l ++ m) = ((spotN l).1, (spotN l).2 + m.length) := by
  unfold spotN
  rw [List.foldl_append, spot_from _ m h]
def spI (text : List UInt8) (p : Nat) : List Value := [.int .i64 ((spotN (text.take p)).1 : Int), .int .i64 ((spotN (text.take p)).2 : Int)]
/-- words as cells. -/
def wdC (text : List UInt8) (ws : List Wd) : List Value := ws.flatMap fun y => str y.1 :: spI text y.2
theorem wdC_snoc (text : List UInt8) (ws : List Wd) (y : Wd) : wdC text (ws ++ [y]) = wdC text ws ++ (str y.1 :: spI text y.2) := by simp [wdC]
/-- where a line's last word ends. -/
def enC (text : List UInt8) (ws : List Wd) : List Value := match ws.getLast? with
  | none => [.int .i64 0, .int .i64 0]
  | some y => spI text (y.2 + y.1.length)
theorem enC_snoc (text : List UInt8) (ws : List Wd) (y : Wd) : enC text (ws ++ [y]) = spI text (y.2 + y.1.length) := by simp [enC]
/-- lines as cells. -/
def lnC (text : List UInt8) (ls : List (List Wd × Value)) : List Value := ls.flatMap fun x => x.2 :: enC text x.1
theorem lnC_snoc (text : List UInt8) (ls : List (List Wd × Value)) (x : List Wd × Value) : lnC text (ls ++ [x]) = lnC text ls ++ (x.2 :: enC text x.1) := by simp [lnC]
/-- a line's words, in memory below M. -/
def WA (W : World) (M : Nat) (text : List UInt8) (ws : List Wd) (v : Value) : Prop := ∃ g c cur, v = .slice (some ⟨g, 0, none⟩) ws.length c ∧ g < M ∧ W.heap[g]? = some (.cells cur 71 (0, 0)) ∧ cur.toList.take (ws.length * 3) = wdC text ws
theorem WA.kept {W W' : World} {M M' : Nat} {text : List UInt8} {ws : List Wd} {v : Value} (h : WA W M text ws v) (hM : M ≤ M') (hk : ∀ g, g < M → g < W.heap.size → W'.heap[g]? = W.heap[g]?) : WA W' M' text ws v := by
  obtain ⟨g, c, cur, e, hg, hr, ht⟩ := h
  exact ⟨g, c, cur, e, Nat.lt_of_lt_of_le hg hM, (hk g hg (Array.getElem?_eq_some_iff.1 hr).1).trans hr, ht⟩

/-- the lines so far, in memory. -/
structure Sc (w0 W : World) (text : List UInt8) (lo : Nat) (ls : List (List Wd × Value)) (ov : Value) (ws : List Wd) (wv : Value) (i : Nat) : Prop where
  below : Below w0.heap.size w0 W
  rrow : W.heap[w0.heap.size]? = some (.cells #[.int .i64 0, .int .i64 0] 28 (0, 0))
  lrow : W.heap[w0.heap.size + 1]? = some (.cells (wv :: enC text ws).toArray 53 (0, 0))
  arow : W.heap[w0.heap.size + 2]? = some (.cells (spI text i).toArray 28 (0, 0))
  out : W.ownsRow (w0.heap.size + 3) 53 3 ov ls.length (lnC text ls)
  cur : W.ownsRow lo 71 3 wv ws.length (wdC text ws)
  nil : ws = [] → wv = .slice none 0 0
  low : w0.heap.size + 3 ≤ lo
  size : lo ≤ W.heap.size
  each : ∀ x ∈ ls, WA W lo text x.1 x.2
section
variable {w0 W W' : World} {text : List UInt8} {lo i : Nat} {ls : List (List Wd × Value)} {ov wv : Value} {ws : List Wd}
theorem en_two (text : List UInt8) (ws : List Wd) : ∃ a b : Int, enC text ws = [.int .i64 a, .int .i64 b] := by
  unfold enC
  split
  · exact ⟨_, _, rfl⟩
  · exact ⟨_, _, rfl⟩
theorem Sc.on (h : Sc w0 W text lo ls ov ws wv i) (hb : Below W.heap.size W W') : Sc w0 W' text lo ls ov ws wv i := by
  have k : ∀ {g : Nat} {o : Obj}, W.heap[g]? = some o → W'.heap[g]? = some o := fun {g o} e => (hb.block g (Array.getElem?_eq_some_iff.1 e).1).trans e
  exact ⟨h.below.trans (hb.mono h.below.size), k h.rrow, k h.lrow, k h.arow, ownsRow_below h.out hb, ownsRow_below h.cur hb, h.nil, h.low, Nat.le_trans h.size hb.size, fun x hx => (h.each x hx).kept (Nat.le_refl _) (fun g _ hg => hb.block g hg)⟩
theorem Sc.drew (h : Sc w0 W text lo ls ov ws wv i) : Sc w0 W.drew text lo ls ov ws wv i := h.on (Below.refl _ _).drew
/-- a write into the line's or the place's block. -/
theorem Sc.sets (h : Sc w0 W text lo ls ov ws wv i) (b : Nat) (hb : w0.heap.size ≤ b ∧ b < w0.heap.size + 3) (j : Nat) (u : Value) :
    Below w0.heap.size w0 (W.setCell ⟨b, j, none⟩ u) ∧ (∀ k, k ≠ b → (W.setCell ⟨b, j, none⟩ u).heap[k]? = W.heap[k]?) ∧ (W.setCell ⟨b, j, none⟩ u).ownsRow (w0.heap.size + 3) 53 3 ov ls.length (lnC text ls) ∧ (W.setCell ⟨b, j, none⟩ u).ownsRow lo 71 3 wv ws.length (wdC text ws) ∧ lo ≤ (W.setCell ⟨b, j, none⟩ u).heap.size ∧ ∀ x ∈ ls, WA (W.setCell ⟨b, j, none⟩ u) lo text x.1 x.2 := by
  have hk : ∀ k, k ≠ b → (W.setCell ⟨b, j, none⟩ u).heap[k]? = W.heap[k]? := fun k hk => Below.heap_setCell W _ _ _ hk
  have hl := h.low
  refine ⟨h.below.setCell (p := ⟨b, j, none⟩) hb.1 _, hk, ShfKit.own_kept h.out (fun g hg => hk g (by have := (h.out.lt g hg).1; omega)), ShfKit.own_kept h.cur (fun g hg => hk g (by have := (h.cur.lt g hg).1; omega)), by simpa using h.size, fun x hx => ?_⟩
  obtain ⟨g, c, cur, e, hg, hr, ht⟩ := h.each x hx
  refine ⟨g, c, cur, e, hg, (hk g ?_).trans hr, ht⟩
  intro e2
  have e3 := hr
  rw [e2] at e3
  rcases (show b = w0.heap.size ∨ b = w0.heap.size + 1 ∨ b = w0.heap.size + 2 by omega) with e4 | e4 | e4
  · rw [e4, h.rrow] at e3; simp at e3
  · rw [e4, h.lrow] at e3; simp at e3
  · rw [e4, h.arow] at e3; simp at e3
/-- the place goes one on. -/
theorem Sc.tick (h : Sc w0 W text lo ls ov ws wv i) (c : UInt8) (hc : text[i]? = some c) (h10 : c ≠ 10) : Sc w0 (W.setCell ⟨w0.heap.size + 2, 1, none⟩ (.int .i64 (((spotN (text.take i)).2 : Int) + 1))) text lo ls ov ws wv (i + 1) := by
  obtain ⟨s1, s2, s3, s4, s5, s6⟩ := h.sets (w0.heap.size + 2) ⟨by omega, by omega⟩ 1 (.int .i64 (((spotN (text.take i)).2 : Int) + 1))
  obtain ⟨hi, hci⟩ := List.getElem?_eq_some_iff.1 hc
  have e : spotN (text.take (i + 1)) = ((spotN (text.take i)).1, (spotN (text.take i)).2 + 1) := by
    rw [List.take_succ_eq_append_getElem hi, spotN_snoc, hci, if_neg (fun e => h10 (UInt8.toNat_inj.1 (by rw [e]; rfl)))]
  refine ⟨s1, (s2 _ (by omega)).trans h.rrow, (s2 _ (by omega)).trans h.lrow, ?_, s3, s4, h.nil, h.low, s5, s6⟩
  rw [row_set h.arow, spI, spI, e]
  simp
theorem Sc.tick10 (h : Sc w0 W text lo ls ov ws wv i) (hc : text[i]? = some 10) : Sc w0 (((W.setCell ⟨w0.heap.size + 2, 1, none⟩ (.int .i64 (((spotN (text.take i)).2 : Int) + 1))).setCell ⟨w0.heap.size + 2, 0, none⟩ (.int .i64 (((spotN (text.take i)).1 : Int) + 1))).setCell ⟨w0.heap.size + 2, 1, none⟩ (.int .i64 1)) text lo ls ov ws wv (i + 1) := by
  obtain ⟨hi, hci⟩ := List.getElem?_eq_some_iff.1 hc
  have e : spotN (text.take (i + 1)) = ((spotN (text.take i)).1 + 1, 1) := by
    rw [List.take_succ_eq_append_getElem hi, spotN_snoc, hci, if_pos (by rfl)]
  have hl := h.low
  have hk : ∀ k, k ≠ w0.heap.size + 2 → (((W.setCell ⟨w0.heap.size + 2, 1, none⟩ (.int .i64 (((spotN (text.take i)).2 : Int) + 1))).setCell ⟨w0.heap.size + 2, 0, none⟩ (.int .i64 (((spotN (text.take i)).1 : Int) + 1))).setCell ⟨w0.heap.size + 2, 1, none⟩ (.int .i64 1)).heap[k]? = W.heap[k]? := fun k hk => by
    rw [Below.heap_setCell _ _ _ _ (show k ≠ _ from hk), Below.heap_setCell _ _ _ _ (show k ≠ _ from hk), Below.heap_setCell _ _ _ _ (show k ≠ _ from hk)]
  refine ⟨((h.below.setCell (p := ⟨w0.heap.size + 2, 1, none⟩) (by simp) _).setCell (p := ⟨w0.heap.size + 2, 0, none⟩) (by simp) _).setCell (p := ⟨w0.heap.size + 2, 1, none⟩) (by simp) _, (hk _ (by omega)).trans h.rrow, (hk _ (by omega)).trans h.lrow, ?_, ShfKit.own_kept h.out (fun g hg => hk g (by have := (h.out.lt g hg).1; omega)), ShfKit.own_kept h.cur (fun g hg => hk g (by have := (h.cur.lt g hg).1; omega)), h.nil, h.low, by simpa using h.size, fun x hx => ?_⟩
  · rw [row_set (row_set (row_set h.arow)), spI, spI, e]
    simp
  · obtain ⟨g, c, cur, e, hg, hr, ht⟩ := h.each x hx
    refine ⟨g, c, cur, e, hg, (hk g ?_).trans hr, ht⟩
    intro e2
    rw [e2, h.arow] at hr
    simp at hr
/-- a word comes behind the others. -/
theorem Sc.push {wv' : Value} {y : Wd} (h : Sc w0 W text lo ls ov ws wv i) (ho : W'.ownsRow lo 71 3 wv' (ws.length + 1) (wdC text ws ++ (str y.1 :: spI text y.2))) (hg : W.grownBy W' wv.ownBlock) (hi : y.2 + y.1.length = i) :
    W'.heap[w0.heap.size + 1]? = some (.cells (wv :: enC text ws).toArray 53 (0, 0)) ∧ W'.heap[w0.heap.size + 2]? = some (.cells (spI text i).toArray 28 (0, 0)) ∧
    Sc w0 (((W'.setCell ⟨w0.heap.size + 1, 0, none⟩ wv').setCell ⟨w0.heap.size + 1, 1, none⟩ (.int .i64 ((spotN (text.take i)).1 : Int))).setCell ⟨w0.heap.size + 1, 2, none⟩ (.int .i64 ((spotN (text.take i)).2 : Int))) text lo ls ov (ws ++ [y]) wv' i := by
  have hl := h.low
  have hz := h.size
  have ne : ∀ {k : Nat}, k < lo → some k ≠ wv.ownBlock := fun {k} hk e => by have := (h.cur.lt k e.symm).1; omega
  have l1 := (hg.block _ (Array.getElem?_eq_some_iff.1 h.lrow).1 (ne (by omega))).trans h.lrow
  have a1 := (hg.block _ (Array.getElem?_eq_some_iff.1 h.arow).1 (ne (by omega))).trans h.arow
  have r1 := (hg.block _ (Array.getElem?_eq_some_iff.1 h.rrow).1 (ne (by omega))).trans h.rrow
  have hk : ∀ k, k ≠ w0.heap.size + 1 → (((W'.setCell ⟨w0.heap.size + 1, 0, none⟩ wv').setCell ⟨w0.heap.size + 1, 1, none⟩ (.int .i64 ((spotN (text.take i)).1 : Int))).setCell ⟨w0.heap.size + 1, 2, none⟩ (.int .i64 ((spotN (text.take i)).2 : Int))).heap[k]? = W'.heap[k]? := fun k hk => by
    rw [Below.heap_setCell _ _ _ _ (show k ≠ _ from hk), Below.heap_setCell _ _ _ _ (show k ≠ _ from hk), Below.heap_setCell _ _ _ _ (show k ≠ _ from hk)]
  have o1 : W'.ownsRow (w0.heap.size + 3) 53 3 ov ls.length (lnC text ls) := own_kept h.out h.cur hg (by decide)
  have b1 : Below w0.heap.size w0 W' := h.below.grown hg h.below.size (fun j hj => by have := (h.cur.lt j hj).1; omega)
  obtain ⟨ea, eb, he⟩ := en_two text ws
  refine ⟨l1, a1, ⟨((b1.setCell (p := ⟨w0.heap.size + 1, 0, none⟩) (by simp) _).setCell (p := ⟨w0.heap.size + 1, 1, none⟩) (by simp) _).setCell (p := ⟨w0.heap.size + 1, 2, none⟩) (by simp) _, (hk _ (by omega)).trans r1, ?_, (hk _ (by omega)).trans a1, ShfKit.own_kept o1 (fun g hg => hk g (by have := (o1.lt g hg).1; omega)), ?_, (fun e => by simp at e), h.low, ?_, fun x hx => ?_⟩⟩
  · rw [row_set (row_set (row_set l1)), enC_snoc, hi, he, spI]
    simp
  · rw [List.length_append, wdC_snoc]
    exact ShfKit.own_kept ho (fun g hg => hk g (by have := (ho.lt g hg).1; omega))
  · have := hg.size
    simp
    omega
  · obtain ⟨g, c, cur, e, hgl, hr, ht⟩ := h.each x hx
    refine ⟨g, c, cur, e, hgl, (hk g ?_).trans ((hg.block g (Array.getElem?_eq_some_iff.1 hr).1 (ne hgl)).trans hr), ht⟩
    intro e2
    rw [e2, h.lrow] at hr
    simp at hr
/-- a line comes behind the others. -/
theorem Sc.line {ov' : Value} (h : Sc w0 W text lo ls ov ws wv i) (hne : ws ≠ []) (ho : W'.ownsRow (w0.heap.size + 3) 53 3 ov' (ls.length + 1) (lnC text ls ++ (wv :: enC text ws))) (hg : W.grownBy W' ov.ownBlock) :
    W'.heap[w0.heap.size + 1]? = some (.cells (wv :: enC text ws).toArray 53 (0, 0)) ∧ W'.heap[w0.heap.size + 2]? = some (.cells (spI text i).toArray 28 (0, 0)) ∧
    Sc w0 (((W'.setCell ⟨w0.heap.size + 1, 0, none⟩ (.slice none 0 0)).setCell ⟨w0.heap.size + 1, 1, none⟩ (.int .i64 0)).setCell ⟨w0.heap.size + 1, 2, none⟩ (.int .i64 0)) text W'.heap.size (ls ++ [(ws, wv)]) ov' [] (.slice none 0 0) i := by
  have hl := h.low
  have hz := h.size
  have hgz := hg.size
  have ne : ∀ {k : Nat}, k < w0.heap.size + 3 → some k ≠ ov.ownBlock := fun {k} hk e => by have := (h.out.lt k e.symm).1; omega
  have l1 := (hg.block _ (Array.getElem?_eq_some_iff.1 h.lrow).1 (ne (by omega))).trans h.lrow
  have a1 := (hg.block _ (Array.getElem?_eq_some_iff.1 h.arow).1 (ne (by omega))).trans h.arow
  have r1 := (hg.block _ (Array.getElem?_eq_some_iff.1 h.rrow).1 (ne (by omega))).trans h.rrow
  have hk : ∀ k, k ≠ w0.heap.size + 1 → (((W'.setCell ⟨w0.heap.size + 1, 0, none⟩ (.slice none 0 0)).setCell ⟨w0.heap.size + 1, 1, none⟩ (.int .i64 0)).setCell ⟨w0.heap.size + 1, 2, none⟩ (.int .i64 0)).heap[k]? = W'.heap[k]? := fun k hk => by
    rw [Below.heap_setCell _ _ _ _ (show k ≠ _ from hk), Below.heap_setCell _ _ _ _ (show k ≠ _ from hk), Below.heap_setCell _ _ _ _ (show k ≠ _ from hk)]
  have c1 : W'.ownsRow lo 71 3 wv ws.length (wdC text ws) := own_kept h.cur h.out hg (by decide)
  have b1 : Below w0.heap.size w0 W' := h.below.grown hg h.below.size (fun j hj => by have := (h.out.lt j hj).1; omega)
  obtain ⟨ea, eb, he⟩ := en_two text ws
  have kind : ∀ {g : Nat} {cur : Array Value}, W.heap[g]? = some (.cells cur 71 (0, 0)) → some g ≠ ov.ownBlock := fun {g cur} hr e => by
    obtain ⟨c, fz, hc⟩ := Lib.ownsRow_kind h.out g e.symm
    rw [hr] at hc
    simp at hc
  refine ⟨l1, a1, ⟨((b1.setCell (p := ⟨w0.heap.size + 1, 0, none⟩) (by simp) _).setCell (p := ⟨w0.heap.size + 1, 1, none⟩) (by simp) _).setCell (p := ⟨w0.heap.size + 1, 2, none⟩) (by simp) _, (hk _ (by omega)).trans r1, ?_, (hk _ (by omega)).trans a1, ?_, ⟨rfl, .inl ⟨rfl, rfl⟩⟩, (fun _ => rfl), by omega, by simp, fun x hx => ?_⟩⟩
  · rw [row_set (row_set (row_set l1)), he]
    simp [enC]
  · rw [List.length_append, lnC_snoc]
    exact ShfKit.own_kept ho (fun g hg => hk g (by have := (ho.lt g hg).1; omega))
  · rcases List.mem_append.1 hx with hx | hx
    · obtain ⟨g, c, cur, e, hgl, hr, ht⟩ := h.each x hx
      refine ⟨g, c, cur, e, by omega, (hk g ?_).trans ((hg.block g (Array.getElem?_eq_some_iff.1 hr).1 (kind hr)).trans hr), ht⟩
      intro e2
      rw [e2, h.lrow] at hr
      simp at hr
    · simp only [List.mem_singleton] at hx
      subst hx
      rcases c1.2 with ⟨_, h0⟩ | ⟨g, cap, cur, hv, hB, hr, hn, hm, hs, ht⟩
      · exact absurd (List.eq_nil_of_length_eq_zero h0) hne
      · exact ⟨g, cap, cur, hv, (Array.getElem?_eq_some_iff.1 hr).1, (hk g (by omega)).trans hr, ht⟩
end
end Go.Proofs.YtfmmmhcpdinhgabDoor
/-
  The document's Lines: what the loop knows.
-/
namespace Go.Proofs.YtfmmmhcpdinhgabDoor
open Go.RowKit Go.Deep PureNet PureRd ShfKit
set_option maxRecDepth 100000

/-- the line is written empty again. -/
theorem Sc.again {w0 W : World} {text : List UInt8} {lo i : Nat} {ls : List (List Wd × Value)} {ov wv : Value} {ws : List Wd} (h : Sc w0 W text lo ls ov ws wv i) (h0 : ws = []) :
    Sc w0 (((W.setCell ⟨w0.heap.size + 1, 0, none⟩ (.slice none 0 0)).setCell ⟨w0.heap.size + 1, 1, none⟩ (.int .i64 0)).setCell ⟨w0.heap.size + 1, 2, none⟩ (.int .i64 0)) text lo ls ov [] (.slice none 0 0) i := by
  subst h0
  have hwv := h.nil rfl
  subst hwv
  have hl := h.low
  have hk : ∀ k, k ≠ w0.heap.size + 1 → (((W.setCell ⟨w0.heap.size + 1, 0, none⟩ (.slice none 0 0)).setCell ⟨w0.heap.size + 1, 1, none⟩ (.int .i64 0)).setCell ⟨w0.heap.size + 1, 2, none⟩ (.int .i64 0)).heap[k]? = W.heap[k]? := fun k hk => by
    rw [Below.heap_setCell _ _ _ _ (show k ≠ _ from hk), Below.heap_setCell _ _ _ _ (show k ≠ _ from hk), Below.heap_setCell _ _ _ _ (show k ≠ _ from hk)]
  refine ⟨((h.below.setCell (p := ⟨w0.heap.size + 1, 0, none⟩) (by simp) _).setCell (p := ⟨w0.heap.size + 1, 1, none⟩) (by simp) _).setCell (p := ⟨w0.heap.size + 1, 2, none⟩) (by simp) _, (hk _ (by omega)).trans h.rrow, ?_, (hk _ (by omega)).trans h.arow, ShfKit.own_kept h.out (fun g hg => hk g (by have := (h.out.lt g hg).1; omega)), ⟨rfl, .inl ⟨rfl, rfl⟩⟩, (fun _ => rfl), h.low, by simpa using h.size, fun x hx => ?_⟩
  · rw [row_set (row_set (row_set h.lrow))]
    simp [enC]
  · obtain ⟨g, c, cur, e, hgl, hr, ht⟩ := h.each x hx
    refine ⟨g, c, cur, e, hgl, (hk g ?_).trans hr, ht⟩
    intro e2
    rw [e2, h.lrow] at hr
    simp at hr

/-- the bytes so far: what they have told. -/
structure Pi (text : List UInt8) (ls : List (List Wd)) (ws : List Wd) (note : Bool) (cur : List UInt8) (i : Nat) : Prop where
  le : i ≤ text.length
  eq : linesO text = ls ++ scanO note i ws cur (text.drop i)
  rem : note = true → cur = []
  cl : cur.length ≤ i
  sub : text.take i = text.take (i - cur.length) ++ cur
  nn : ∀ c ∈ cur, c ≠ 10
def fromI (cur : List UInt8) (i : Nat) : Int := if cur = [] then -1 else ((i - cur.length : Nat) : Int)
section
variable {text : List UInt8} {ls : List (List Wd)} {ws : List Wd} {note : Bool} {cur : List UInt8} {i : Nat} {c : UInt8}
theorem Pi.start (text : List UInt8) : Pi text [] [] false [] 0 := ⟨Nat.zero_le _, by rw [List.drop_zero]; rfl, fun _ => rfl, Nat.le_refl _, by simp, fun c hc => by cases hc⟩
theorem drop_at (hc : text[i]? = some c) : text.drop i = c :: text.drop (i + 1) := by
  obtain ⟨hi, hci⟩ := List.getElem?_eq_some_iff.1 hc
  rw [List.drop_eq_getElem_cons hi, hci]
theorem at_lt (hc : text[i]? = some c) : i < text.length := (List.getElem?_eq_some_iff.1 hc).1
theorem Pi.end_line (h : Pi text ls ws note cur i) (hc : text[i]? = some 10) : Pi text (ls ++ emitO (ws ++ flO i cur)) [] false [] (i + 1) := by
  refine ⟨at_lt hc, ?_, fun _ => rfl, by simp, by simp, fun c hc => by cases hc⟩
  rw [h.eq, drop_at hc, scanO, if_pos rfl, List.append_assoc]
theorem Pi.in_note (h : Pi text ls ws true cur i) (hc : text[i]? = some c) (h10 : c ≠ 10) : Pi text ls ws true [] (i + 1) := by
  have h0 := h.rem rfl
  subst h0
  refine ⟨at_lt hc, ?_, fun _ => rfl, by simp, by simp, fun c hc => by cases hc⟩
  rw [h.eq, drop_at hc, scanO, if_neg h10, if_pos rfl]
theorem Pi.note_on (h : Pi text ls ws false cur i) (hc : text[i]? = some 35) : Pi text ls (ws ++ flO i cur) true [] (i + 1) := by
  refine ⟨at_lt hc, ?_, fun _ => rfl, by simp, by simp, fun c hc => by cases hc⟩
  rw [h.eq, drop_at hc, scanO, if_neg (by decide), if_neg (by decide), if_pos rfl]
theorem Pi.blank (h : Pi text ls ws false cur i) (hc : text[i]? = some c) (h10 : c ≠ 10) (h35 : c ≠ 35) (hb : blankB c = true) : Pi text ls (ws ++ flO i cur) false [] (i + 1) := by
  refine ⟨at_lt hc, ?_, fun _ => rfl, by simp, by simp, fun c hc => by cases hc⟩
  rw [h.eq, drop_at hc, scanO, if_neg h10, if_neg (by decide), if_neg h35, if_pos hb]
theorem Pi.more (h : Pi text ls ws false cur i) (hc : text[i]? = some c) (h10 : c ≠ 10) (h35 : c ≠ 35) (hb : blankB c = false) : Pi text ls ws false (cur ++ [c]) (i + 1) := by
  have hcl := h.cl
  refine ⟨at_lt hc, ?_, (fun e => by cases e), (by simp; omega), ?_, fun x hx => ?_⟩
  · rw [h.eq, drop_at hc, scanO, if_neg h10, if_neg (by decide), if_neg h35, if_neg (by rw [hb]; decide)]
  · obtain ⟨hi, hci⟩ := List.getElem?_eq_some_iff.1 hc
    rw [List.take_succ_eq_append_getElem hi, hci, h.sub, List.length_append, List.append_assoc]
    congr 2
    simp only [List.length_cons, List.length_nil]
    omega
  · rcases List.mem_append.1 hx with hx | hx
    · exact h.nn x hx
    · simp only [List.mem_singleton] at hx; subst hx; exact h10
theorem Pi.last (h : Pi text ls ws note cur i) (hi : i = text.length) : linesO text = ls ++ emitO (ws ++ flO i cur) := by
  rw [h.eq, List.drop_eq_nil_of_le (by omega)]
  cases note <;> rfl
/-- the word that ends here: its bytes and its place. -/
theorem Pi.word (h : Pi text ls ws note cur i) : (⟨text.toArray⟩ : ByteArray).extract (i - cur.length) i = ⟨cur.toArray⟩ ∧ spotN (text.take i) = ((spotN (text.take (i - cur.length))).1, (spotN (text.take (i - cur.length))).2 + cur.length) := by
  have hle := h.le
  have hcl := h.cl
  constructor
  · rw [Lib.extract_eq]
    have e : (text.drop (i - cur.length)).take (i - (i - cur.length)) = cur := by
      rw [List.take_drop, show i - cur.length + (i - (i - cur.length)) = i by omega, h.sub, List.drop_append_of_le_length (by simp; omega), List.drop_eq_nil_of_le (by simp; omega), List.nil_append]
    simp only [e]
  · conv => lhs; rw [h.sub]
    exact spot_plain _ _ h.nn
end

set_option maxHeartbeats 400000 in
theorem blank_any (c : UInt8) (w : World) : Calls Tryd.prog 19 #[.int .u8 (c.toNat : Int)] w fun e w' => e = .returned (.bool (blankB c)) ∧ w' = w := by
  have hb : blankB c = (((c.toNat : Int) == 32) || ((c.toNat : Int) == 9) || ((c.toNat : Int) == 13)) := by
    unfold blankB
    have q : ∀ k : UInt8, (c == k) = ((c.toNat : Int) == (k.toNat : Int)) := fun k => by
      by_cases h : c = k
      · subst h; simp
      · have : (c.toNat : Int) ≠ (k.toNat : Int) := fun e => h (UInt8.toNat_inj.1 (by omega))
        rw [beq_eq_false_iff_ne.2 h, beq_eq_false_iff_ne.2 this]
    rw [q, q, q]
    rfl
  have HB := hid hb
  clear hb
  generalize (c.toNat : Int) = z at *
  by_cases h1 : z = 32
  · subst h1
    go_enter Tryd.func19, Tryd.ntmps19
    go_wp2
    go_ret
    exact ⟨by rw [HB.out]; rfl, rfl⟩
  · have e1 : (z == 32) = false := by simpa using h1
    by_cases h2 : z = 9
    · subst h2
      go_enter Tryd.func19, Tryd.ntmps19
      go_wp2
      go_ret
      exact ⟨by rw [HB.out]; rfl, rfl⟩
    · have e2 : (z == 9) = false := by simpa using h2
      by_cases h3 : z = 13
      · subst h3
        go_enter Tryd.func19, Tryd.ntmps19
        go_wp2
        go_ret
        exact ⟨by rw [HB.out]; rfl, rfl⟩
      · have e3 : (z == 13) = false := by simpa using h3
        go_enter Tryd.func19, Tryd.ntmps19
        go_wp2
        go_ret
        exact ⟨by rw [HB.out, e1, e2, e3]; rfl, rfl⟩
theorem info71 : (Tryd.prog.info? 71).map (fun i => (i.zero, i.size, i.bytes)) = some (some (.agg #[.string ⟨#[]⟩, .int .i64 0, .int .i64 0]), 3, 32) := by kernel_rfl
theorem info53 : (Tryd.prog.info? 53).map (fun i => (i.zero, i.size, i.bytes)) = some (some (.agg #[.slice none 0 0, .int .i64 0, .int .i64 0]), 3, 40) := by kernel_rfl
end Go.Proofs.YtfmmmhcpdinhgabDoor
/-
  What the landed reader makes of a line, told as the document tells it. Pure.
-/
namespace Go.Proofs.YtfmmmhcpdinhgabDoor
open Go.RowKit Go.Deep PureNet PureRd ShfKit
set_option maxRecDepth 100000

theorem chk_places (T : Nat → List UInt8) {s s' : Rs} (h : s.places = s'.places) : ∀ (cs : List UInt8) (l : Wd) (t : List Wd) (it : It), chk T s cs l t it = chk T s' cs l t it
  | [], l, t, it => by rw [chk, chk]
  | c :: cs, l, [], it => by rw [chk, chk]
  | c :: cs, l, y :: t, it => by
    have e : placeOf s y.1 = placeOf s' y.1 := by unfold placeOf; rw [h]
    rw [chk, chk, e, chk_places T h cs y t, chk_places T h cs y t, chk_places T h cs y t, chk_places T h cs y t]
/-- the form of a line by its first word. -/
def formW (k : List UInt8) : List UInt8 := if k = [105, 110, 112, 117, 116] then [110] else if k = [103, 97, 116, 101] then [110, 111, 117, 117] else if k = [109, 117, 120] then [110, 117, 117, 117] else if k = [108, 97, 116, 99, 104] then [110, 102, 117] else if k = [111, 117, 116, 112, 117, 116] then [117] else []
def kindW (k : List UInt8) : Int := if k = [105, 110, 112, 117, 116] then 1 else if k = [103, 97, 116, 101] then 2 else if k = [109, 117, 120] then 4 else if k = [108, 97, 116, 99, 104] then 3 else 0
abbrev outW : List UInt8 := [111, 117, 116, 112, 117, 116]
abbrev endW : List UInt8 := [101, 110, 100]
abbrev cirW : List UInt8 := [99, 105, 114, 99, 117, 105, 116]
section
variable (T : Nat → List UInt8) {s : Rs} {y : Wd} {t : List Wd}
theorem lineF_cons : lineF T (y :: t) s = match fnOf s.mode y.1 with | none => refuse { s with last := y, left := t } 140 y.2 | some f => shut (stepF T f { s with last := y, left := t }) := rfl
theorem line_not_head (hf : s.fault = none) (hm : s.mode = 0) (hy : y.1 ≠ cirW) : (lineF T (y :: t) s).fault = some (140, y.2) := by
  have hfn : fnOf s.mode y.1 = none := by rw [hm]; unfold fnOf; rw [if_pos rfl, if_neg hy]
  rw [lineF_cons, hfn]
  rw [refuse_set (by exact hf)]
theorem line_done (hf : s.fault = none) (hm : s.mode = 2) : (lineF T (y :: t) s).fault = some (140, y.2) := by
  have hfn : fnOf s.mode y.1 = none := by rw [hm]; unfold fnOf; rw [if_neg (by decide), if_neg (by decide)]
  rw [lineF_cons, hfn]
  rw [refuse_set (by exact hf)]
theorem head_is (hm : s.mode = 0) (hy : y.1 = cirW) : lineF T (y :: t) s = shut (headed nameL { s with last := y, left := t }) := by
  have hfn : fnOf s.mode y.1 = some 15 := by rw [hm]; unfold fnOf; rw [if_pos rfl, if_pos hy]
  rw [lineF_cons, hfn]
  rfl
theorem line_head_none (hf : s.fault = none) (hm : s.mode = 0) (hy : y.1 = cirW) : (lineF T [y] s).fault = some (140, y.2 + y.1.length) := by
  rw [head_is T hm hy]
  exact shut_stays (s := headed nameL { s with last := y, left := [] }) (name_nil (s := { s with last := y, left := [] }) rfl hf)
theorem line_head_bad {z : Wd} {u : List Wd} (hf : s.fault = none) (hm : s.mode = 0) (hy : y.1 = cirW) (hn : nameL z.1 = false) : (lineF T (y :: z :: u) s).fault = some (140, z.2) := by
  rw [head_is T hm hy]
  exact shut_stays (s := headed nameL { s with last := y, left := z :: u }) (name_bad (s := { s with last := y, left := z :: u }) rfl hn hf)
theorem line_head_more {z v : Wd} {u : List Wd} (hf : s.fault = none) (hm : s.mode = 0) (hy : y.1 = cirW) (hn : nameL z.1 = true) : (lineF T (y :: z :: v :: u) s).fault = some (140, v.2) := by
  rw [head_is T hm hy]
  unfold headed
  rw [name_good (s := { s with last := y, left := z :: v :: u }) rfl hn]
  unfold shut
  simp only
  rw [refuse_set (by exact hf)]
theorem line_head_ok {z : Wd} (hm : s.mode = 0) (hy : y.1 = cirW) (hn : nameL z.1 = true) : lineF T [y, z] s = { s with mode := 1, last := z, left := [], cname := z.1 } := by
  rw [head_is T hm hy]
  unfold headed
  rw [name_good (s := { s with last := y, left := [z] }) rfl hn]
  rfl
theorem end_is (hm : s.mode = 1) (hy : y.1 = endW) : lineF T (y :: t) s = shut { s with mode := 2, last := y, left := t } := by
  have hfn : fnOf s.mode y.1 = some 32 := by rw [hm]; rw [hy]; decide
  rw [lineF_cons, hfn]
  rfl
theorem line_end_ok (hm : s.mode = 1) (hy : y.1 = endW) : lineF T [y] s = { s with mode := 2, last := y, left := [] } := by
  rw [end_is T hm hy]
  rfl
theorem line_end_more {z : Wd} {u : List Wd} (hf : s.fault = none) (hm : s.mode = 1) (hy : y.1 = endW) : (lineF T (y :: z :: u) s).fault = some (140, z.2) := by
  rw [end_is T hm hy]
  unfold shut
  simp only
  rw [refuse_set (by exact hf)]
theorem line_odd (hf : s.fault = none) (hm : s.mode = 1) (hy : y.1 ≠ endW) (hw : formW y.1 = []) : (lineF T (y :: t) s).fault = some (140, y.2) := by
  have hfn : fnOf s.mode y.1 = none := by
    rw [hm]
    unfold formW at hw
    unfold fnOf
    rw [if_neg (by decide), if_pos rfl]
    split at hw
    · simp at hw
    · next a1 =>
      rw [if_neg a1]
      split at hw
      · simp at hw
      · next a2 =>
        rw [if_neg a2]
        split at hw
        · simp at hw
        · next a3 =>
          rw [if_neg a3]
          split at hw
          · simp at hw
          · next a4 =>
            rw [if_neg a4]
            split at hw
            · simp at hw
            · next a5 => rw [if_neg a5, if_neg hy]
  rw [lineF_cons, hfn]
  rw [refuse_set (by exact hf)]
theorem out_is (hm : s.mode = 1) (hy : y.1 = outW) : lineF T (y :: t) s = shut (PureRd.output nameL { s with last := y, left := t }) := by
  have hfn : fnOf s.mode y.1 = some 31 := by rw [hm]; rw [hy]; decide
  rw [lineF_cons, hfn]
  rfl
theorem line_out_many (hf : s.fault = none) (hm : s.mode = 1) (hy : y.1 = outW) (ho : s.outs = 65536) : (lineF T (y :: t) s).fault = some (8, y.2) := by
  rw [out_is T hm hy]
  exact out_many (s := { s with last := y, left := t }) hf ho
theorem line_out (hf : s.fault = none) (hm : s.mode = 1) (hy : y.1 = outW) (ho : s.outs ≠ 65536) (r : Option (Int × Nat)) (jt : It) (h : chk T s [117] y t it0 = (r, jt)) :
    (∀ p, r = some p → (lineF T (y :: t) s).fault = some p) ∧ (r = none → ∃ l, lineF T (y :: t) s = outed s l jt) := by
  rw [out_is T hm hy]
  exact out_chk T { s with last := y, left := t } hf ho r jt ((chk_places T (s := { s with last := y, left := t }) (s' := s) rfl _ _ _ _).trans h)
/-- a line of the circuit: by its kind. -/
theorem line_gate (hf : s.fault = none) (hm : s.mode = 1) (hy : y.1 ≠ outW) (hw : formW y.1 ≠ []) :
    (s.names.length = 65536 → (lineF T (y :: t) s).fault = some (8, y.2)) ∧
    (s.names.length ≠ 65536 → ∀ (r : Option (Int × Nat)) (jt : It), chk T s (formW y.1) y t it0 = (r, jt) → (∀ p, r = some p → (lineF T (y :: t) s).fault = some p) ∧ (r = none → ∃ l, lineF T (y :: t) s = added (kindW y.1) s l jt)) := by
  by_cases a1 : y.1 = [105, 110, 112, 117, 116]
  · have e : lineF T (y :: t) s = shut (PureRd.withUses nameL 0 (PureRd.begin nameL 1 { s with last := y, left := t })) := by
      have hfn : fnOf s.mode y.1 = some 27 := by rw [hm]; rw [a1]; decide
      rw [lineF_cons, hfn]
      show shut (PureRd.begin nameL 1 { s with last := y, left := t }) = _
      obtain ⟨z, hz, hz1, hz2, hz3⟩ := begin_lines 1 { s with last := y, left := t }
      have : PureRd.withUses nameL 0 (PureRd.begin nameL 1 { s with last := y, left := t }) = PureRd.begin nameL 1 { s with last := y, left := t } := by
        show PureRd.mapLast (PureRd.begin nameL 1 { s with last := y, left := t }) (fun l => { l with uses := [] }) = _
        generalize PureRd.begin nameL 1 { s with last := y, left := t } = BB at hz ⊢
        obtain ⟨zk, zn, zo, zu⟩ := z
        simp only at hz3
        subst hz3
        rw [mapLast_of hz]
        cases BB
        simp only at hz
        subst hz
        rfl
      rw [this]
    have ew : formW y.1 = 110 :: List.replicate 0 117 := by rw [a1]; rfl
    have ek : kindW y.1 = 1 := by rw [a1]; rfl
    rw [e, ew, ek]
    refine ⟨fun h => shut_stays (withUses_stays (begin_many (s := { s with last := y, left := t }) 1 hf h) 0), fun h r jt hc => plain_chk T 1 0 { s with last := y, left := t } hf h r jt ((chk_places T (s := { s with last := y, left := t }) (s' := s) rfl _ _ _ _).trans hc)⟩
  · by_cases a2 : y.1 = [103, 97, 116, 101]
    · have e : lineF T (y :: t) s = shut (PureRd.withUses nameL 2 (PureRd.withOp (opF T) (PureRd.begin nameL 2 { s with last := y, left := t }))) := by
        have hfn : fnOf s.mode y.1 = some 28 := by rw [hm]; rw [a2]; decide
        rw [lineF_cons, hfn]
        rfl
      have ew : formW y.1 = 110 :: 111 :: List.replicate 2 117 := by rw [a2]; rfl
      have ek : kindW y.1 = 2 := by rw [a2]; rfl
      rw [e, ew, ek]
      exact ⟨fun h => shut_stays (withUses_stays (withOp_stays (begin_many (s := { s with last := y, left := t }) 2 hf h) _) 2), fun h r jt hc => op_chk T (opF T) 111 (.inl ⟨rfl, rfl⟩) 2 2 { s with last := y, left := t } hf h r jt ((chk_places T (s := { s with last := y, left := t }) (s' := s) rfl _ _ _ _).trans hc)⟩
    · by_cases a3 : y.1 = [109, 117, 120]
      · have e : lineF T (y :: t) s = shut (PureRd.withUses nameL 3 (PureRd.begin nameL 4 { s with last := y, left := t })) := by
          have hfn : fnOf s.mode y.1 = some 29 := by rw [hm]; rw [a3]; decide
          rw [lineF_cons, hfn]
          rfl
        have ew : formW y.1 = 110 :: List.replicate 3 117 := by rw [a3]; rfl
        have ek : kindW y.1 = 4 := by rw [a3]; rfl
        rw [e, ew, ek]
        exact ⟨fun h => shut_stays (withUses_stays (begin_many (s := { s with last := y, left := t }) 4 hf h) 3), fun h r jt hc => plain_chk T 4 3 { s with last := y, left := t } hf h r jt ((chk_places T (s := { s with last := y, left := t }) (s' := s) rfl _ _ _ _).trans hc)⟩
      · by_cases a4 : y.1 = [108, 97, 116, 99, 104]
        · have e : lineF T (y :: t) s = shut (PureRd.withUses nameL 1 (PureRd.withOp fvF (PureRd.begin nameL 3 { s with last := y, left := t }))) := by
            have hfn : fnOf s.mode y.1 = some 30 := by rw [hm]; rw [a4]; decide
            rw [lineF_cons, hfn]
            rfl
          have ew : formW y.1 = 110 :: 102 :: List.replicate 1 117 := by rw [a4]; rfl
          have ek : kindW y.1 = 3 := by rw [a4]; rfl
          rw [e, ew, ek]
          exact ⟨fun h => shut_stays (withUses_stays (withOp_stays (begin_many (s := { s with last := y, left := t }) 3 hf h) _) 1), fun h r jt hc => op_chk T fvF 102 (.inr ⟨rfl, rfl⟩) 3 1 { s with last := y, left := t } hf h r jt ((chk_places T (s := { s with last := y, left := t }) (s' := s) rfl _ _ _ _).trans hc)⟩
        · exfalso
          apply hw
          unfold formW
          rw [if_neg a1, if_neg a2, if_neg a3, if_neg a4, if_neg hy]
end
end Go.Proofs.YtfmmmhcpdinhgabDoor
/-
  The document's reading of a circuit's text, in memory.
-/
namespace Go.Proofs.YtfmmmhcpdinhgabDoor
open Go.RowKit Go.Deep PureNet PureRd
set_option maxRecDepth 100000

theorem infoPos : (Tryd.prog.info? 28).map (fun i => (i.zero, i.size, i.bytes)) = some (some (.agg #[.int .i64 0, .int .i64 0]), 2, 16) := by kernel_rfl
theorem infoUse : (Tryd.prog.info? 74).map (fun i => (i.zero, i.size, i.bytes)) = some (some (.agg #[.string ⟨#[]⟩, .int .i64 0, .int .i64 0, .int .i64 0, .int .i64 0]), 5, 48) := by kernel_rfl
theorem underPos : Tryd.prog.underlying 46 = some (.slice 28) := by kernel_rfl
theorem underUse : Tryd.prog.underlying 47 = some (.slice 74) := by kernel_rfl

/-- a name that is used: the word, its line (-1: an output), which of the line's. -/
structure Us where
  wd : Wd
  gate : Int
  op : Int
def usC1 (text : List UInt8) (u : Us) : List Value := (str u.wd.1 :: spI text u.wd.2) ++ [.int .i64 u.gate, .int .i64 u.op]
def usC (text : List UInt8) (us : List Us) : List Value := us.flatMap (usC1 text)
def atC (text : List UInt8) (l : List Nat) : List Value := l.flatMap (spI text)
theorem usC_snoc (text : List UInt8) (us : List Us) (u : Us) : usC text (us ++ [u]) = usC text us ++ usC1 text u := by simp [usC]
theorem atC_snoc (text : List UInt8) (l : List Nat) (p : Nat) : atC text (l ++ [p]) = atC text l ++ spI text p := by simp [atC]
/-- what was read. -/
structure Db where
  cname : List UInt8
  gs : List Ga
  outs : Nat
  ats : List Nat
  us : List Us
  done : Bool
  pl : List UInt8 → Option Nat
  nn : Nat
/-- where it stands. -/
structure Dx where
  kb : Nat
  nv : Value
  pv : Value
  gv : Value
  ov : Value
  av : Value
  uv : Value
  N : List ByteArray
  P : List Int
def rcells (d : Db) (x : Dx) : Array Value := #[str d.cname, x.gv, x.ov, .pointer (some ⟨x.kb, 0, none⟩), x.av, x.uv, .bool d.done]
def plI : Option Nat → Int
  | none => -1
  | some p => (p : Int)
structure Dr (w W : World) (r : Nat) (text : List UInt8) (d : Db) (x : Dx) : Prop where
  box : W.heap[r]? = some (.cells (rcells d x) 49 (0, 0))
  low : w.heap.size ≤ r
  krow : W.heap[x.kb]? = some (.cells #[x.nv, x.pv] 45 (0, 0))
  klow : w.heap.size ≤ x.kb
  kon : W.ownsRow w.heap.size 9 1 x.nv x.N.length (ns x.N)
  kop : W.ownsRow w.heap.size 3 1 x.pv x.P.length (nu x.P)
  gates : W.ownsRow w.heap.size 57 6 x.gv d.gs.length (gas d.gs)
  outs : W.ownsRow w.heap.size 3 1 x.ov d.outs (List.replicate d.outs (.int .i64 0))
  ats : W.ownsRow w.heap.size 28 2 x.av d.ats.length (atC text d.ats)
  uses : W.ownsRow w.heap.size 74 5 x.uv d.us.length (usC text d.us)
  two : ∀ g, x.ov.ownBlock = some g → x.pv.ownBlock ≠ some g
  hPl : x.P.length = x.N.length
  rise : Rising x.N
  pl : ∀ k : List UInt8, placeN x.N x.P ⟨k.toArray⟩ = plI (d.pl k)
  below : Below w.heap.size w W
  nn : x.N.length = d.nn ∧ ∀ p ∈ x.P, 0 ≤ p
section
variable {w W W' : World} {r : Nat} {text : List UInt8} {d : Db} {x : Dx}
theorem Dr.size (h : Dr w W r text d x) : r < W.heap.size := (Array.getElem?_eq_some_iff.1 h.box).1
theorem Dr.ksize (h : Dr w W r text d x) : x.kb < W.heap.size := (Array.getElem?_eq_some_iff.1 h.krow).1
theorem Dr.ne (h : Dr w W r text d x) : x.kb ≠ r := fun e => by
  have h1 := h.krow
  rw [e, h.box] at h1
  simp at h1
theorem Dr.on (h : Dr w W r text d x) (hb : Below W.heap.size W W') : Dr w W' r text d x :=
  ⟨(hb.block _ h.size).trans h.box, h.low, (hb.block _ h.ksize).trans h.krow, h.klow, ownsRow_below h.kon hb, ownsRow_below h.kop hb, ownsRow_below h.gates hb, ownsRow_below h.outs hb, ownsRow_below h.ats hb, ownsRow_below h.uses hb, h.two, h.hPl, h.rise, h.pl, h.below.trans (hb.mono h.below.size), h.nn⟩
theorem Dr.kn (h : Dr w W r text d x) : Kn ⟨w, W, x.nv, x.pv⟩ W x.kb x.nv x.pv x.N x.P :=
  ⟨h.krow, h.klow, h.kon, h.kop, h.below, Nat.le_refl _, fun _ _ _ _ _ => rfl, fun _ hg => .inl hg, fun _ hg => .inl hg⟩
/-- a row whose block is none of those that turn stays. -/
theorem own_same {W W' : World} {B e size n : Nat} {v : Value} {xs : List Value} (h : W.ownsRow B e size v n xs) (hk : ∀ g, v.ownBlock = some g → W'.heap[g]? = W.heap[g]?) : W'.ownsRow B e size v n xs := ShfKit.own_kept h hk
/-- a name more in the table of names. -/
theorem Dr.added (h : Dr w W r text d x) {nv' pv' : Value} {N' : List ByteArray} {P' : List Int} (k : Kn ⟨w, W, x.nv, x.pv⟩ W' x.kb nv' pv' N' P') (hPl : P'.length = N'.length) (hr : Rising N') (hn : N'.length = x.N.length + 1 ∧ ∀ p ∈ P', 0 ≤ p) {pl' : List UInt8 → Option Nat} (hp : ∀ a : List UInt8, placeN N' P' ⟨a.toArray⟩ = plI (pl' a)) :
    Dr w W' r text { d with pl := pl', nn := d.nn + 1 } { x with nv := nv', pv := pv', N := N', P := P' } := by
  have keep : ∀ {e size n : Nat} {v : Value} {xs : List Value}, W.ownsRow w.heap.size e size v n xs → e ≠ 9 → e ≠ 45 → (∀ g, v.ownBlock = some g → x.pv.ownBlock ≠ some g) → W'.ownsRow w.heap.size e size v n xs := fun ho h9 h45 hp => by
    refine own_same ho fun g hg => ?_
    obtain ⟨c1, f1, hk1⟩ := Lib.ownsRow_kind ho g hg
    refine k.fr g (Array.getElem?_eq_some_iff.1 hk1).1 (fun e => ?_) (fun e => ?_) (hp g hg)
    · rw [e] at hk1
      have := h.krow
      rw [hk1] at this
      simp at this
      exact h45 this.2.1
    · exact own_ne h.kon hk1 h9 e
  have pty : ∀ {e size n : Nat} {v : Value} {xs : List Value}, W.ownsRow w.heap.size e size v n xs → e ≠ 3 → ∀ g, v.ownBlock = some g → x.pv.ownBlock ≠ some g := fun ho h3 g hg => by
    obtain ⟨c1, f1, hk1⟩ := Lib.ownsRow_kind ho g hg
    exact own_ne h.kop hk1 h3
  refine ⟨(k.fr r h.size h.ne.symm (own_ne h.kon h.box (by decide)) (own_ne h.kop h.box (by decide))).trans h.box, h.low, k.row, k.hB, k.on_, k.op, keep h.gates (by decide) (by decide) (pty h.gates (by decide)), keep h.outs (by decide) (by decide) h.two, keep h.ats (by decide) (by decide) (pty h.ats (by decide)), keep h.uses (by decide) (by decide) (pty h.uses (by decide)), fun g hg e => ?_, hPl, hr, hp, k.below, ⟨by show N'.length = d.nn + 1; rw [hn.1, h.nn.1], hn.2⟩⟩
  rcases k.fp g e with h1 | h1
  · exact h.two g hg h1
  · have := (h.outs.lt g hg).2
    exact absurd h1 (by show ¬ W.heap.size ≤ g; omega)
/-- a line more. -/
theorem Dr.gate (h : Dr w W r text d x) {w6 : World} {v6 : Value} {g : Ga} (o6 : w6.ownsRow w.heap.size 57 6 v6 (d.gs.length + 1) (gas d.gs ++ ga g)) (g6 : W.grownBy w6 x.gv.ownBlock) :
    w6.heap[r]? = some (.cells (rcells d x) 49 (0, 0)) ∧ Dr w (w6.setCell ⟨r, 1, none⟩ v6) r text { d with gs := d.gs ++ [g] } { x with gv := v6 } := by
  have box6 : w6.heap[r]? = some (.cells (rcells d x) 49 (0, 0)) := (g6.block r h.size (Ne.symm (own_ne h.gates h.box (by decide)))).trans h.box
  have keep : ∀ {e size n : Nat} {v : Value} {xs : List Value}, W.ownsRow w.heap.size e size v n xs → e ≠ 57 → e ≠ 49 → (w6.setCell ⟨r, 1, none⟩ v6).ownsRow w.heap.size e size v n xs := fun ho h1 h2 => ownsRow_store2 (own_kept ho h.gates g6 h1) box6 (Ne.symm h2)
  refine ⟨box6, ⟨by have := row_set (i := 1) (u := v6) box6; simpa [rcells] using this, h.low, (Below.heap_setCell w6 _ _ _ h.ne).trans ((g6.block x.kb h.ksize (Ne.symm (own_ne h.gates h.krow (by decide)))).trans h.krow), h.klow, keep h.kon (by decide) (by decide), keep h.kop (by decide) (by decide), ?_, keep h.outs (by decide) (by decide), keep h.ats (by decide) (by decide), keep h.uses (by decide) (by decide), h.two, h.hPl, h.rise, h.pl, (h.below.grown g6 h.below.size (fun j hj => (h.gates.lt j hj).1)).setCell h.low _, h.nn⟩⟩
  have := ownsRow_store2 (i := 1) (u := v6) o6 box6 (by decide)
  rw [List.length_append, gas_snoc]
  exact this
/-- where a line's name stands. -/
theorem Dr.at_ (h : Dr w W r text d x) {w6 : World} {v6 : Value} {p : Nat} (o6 : w6.ownsRow w.heap.size 28 2 v6 (d.ats.length + 1) (atC text d.ats ++ spI text p)) (g6 : W.grownBy w6 x.av.ownBlock) :
    w6.heap[r]? = some (.cells (rcells d x) 49 (0, 0)) ∧ Dr w (w6.setCell ⟨r, 4, none⟩ v6) r text { d with ats := d.ats ++ [p] } { x with av := v6 } := by
  have box6 : w6.heap[r]? = some (.cells (rcells d x) 49 (0, 0)) := (g6.block r h.size (Ne.symm (own_ne h.ats h.box (by decide)))).trans h.box
  have keep : ∀ {e size n : Nat} {v : Value} {xs : List Value}, W.ownsRow w.heap.size e size v n xs → e ≠ 28 → e ≠ 49 → (w6.setCell ⟨r, 4, none⟩ v6).ownsRow w.heap.size e size v n xs := fun ho h1 h2 => ownsRow_store2 (own_kept ho h.ats g6 h1) box6 (Ne.symm h2)
  refine ⟨box6, ⟨by have := row_set (i := 4) (u := v6) box6; simpa [rcells] using this, h.low, (Below.heap_setCell w6 _ _ _ h.ne).trans ((g6.block x.kb h.ksize (Ne.symm (own_ne h.ats h.krow (by decide)))).trans h.krow), h.klow, keep h.kon (by decide) (by decide), keep h.kop (by decide) (by decide), keep h.gates (by decide) (by decide), keep h.outs (by decide) (by decide), ?_, keep h.uses (by decide) (by decide), h.two, h.hPl, h.rise, h.pl, (h.below.grown g6 h.below.size (fun j hj => (h.ats.lt j hj).1)).setCell h.low _, h.nn⟩⟩
  have := ownsRow_store2 (i := 4) (u := v6) o6 box6 (by decide)
  rw [List.length_append, atC_snoc]
  exact this
/-- the names that a line uses. -/
theorem Dr.use (h : Dr w W r text d x) {w6 : World} {v6 : Value} {us : List Us} (o6 : w6.ownsRow w.heap.size 74 5 v6 (d.us.length + us.length) (usC text d.us ++ usC text us)) (g6 : W.grownBy w6 x.uv.ownBlock) :
    w6.heap[r]? = some (.cells (rcells d x) 49 (0, 0)) ∧ Dr w (w6.setCell ⟨r, 5, none⟩ v6) r text { d with us := d.us ++ us } { x with uv := v6 } := by
  have box6 : w6.heap[r]? = some (.cells (rcells d x) 49 (0, 0)) := (g6.block r h.size (Ne.symm (own_ne h.uses h.box (by decide)))).trans h.box
  have keep : ∀ {e size n : Nat} {v : Value} {xs : List Value}, W.ownsRow w.heap.size e size v n xs → e ≠ 74 → e ≠ 49 → (w6.setCell ⟨r, 5, none⟩ v6).ownsRow w.heap.size e size v n xs := fun ho h1 h2 => ownsRow_store2 (own_kept ho h.uses g6 h1) box6 (Ne.symm h2)
  refine ⟨box6, ⟨by have := row_set (i := 5) (u := v6) box6; simpa [rcells] using this, h.low, (Below.heap_setCell w6 _ _ _ h.ne).trans ((g6.block x.kb h.ksize (Ne.symm (own_ne h.uses h.krow (by decide)))).trans h.krow), h.klow, keep h.kon (by decide) (by decide), keep h.kop (by decide) (by decide), keep h.gates (by decide) (by decide), keep h.outs (by decide) (by decide), keep h.ats (by decide) (by decide), ?_, h.two, h.hPl, h.rise, h.pl, (h.below.grown g6 h.below.size (fun j hj => (h.uses.lt j hj).1)).setCell h.low _, h.nn⟩⟩
  have := ownsRow_store2 (i := 5) (u := v6) o6 box6 (by decide)
  rw [List.length_append, usC, List.flatMap_append]
  exact this
/-- an output more. -/
theorem Dr.out (h : Dr w W r text d x) {w6 : World} {v6 : Value} (o6 : w6.ownsRow w.heap.size 3 1 v6 (d.outs + 1) (List.replicate d.outs (.int .i64 0) ++ [.int .i64 0])) (g6 : W.grownBy w6 x.ov.ownBlock) (f6 : ∀ g, v6.ownBlock = some g → x.ov.ownBlock = some g ∨ W.heap.size ≤ g) :
    w6.heap[r]? = some (.cells (rcells d x) 49 (0, 0)) ∧ Dr w (w6.setCell ⟨r, 2, none⟩ v6) r text { d with outs := d.outs + 1 } { x with ov := v6 } := by
  have box6 : w6.heap[r]? = some (.cells (rcells d x) 49 (0, 0)) := (g6.block r h.size (Ne.symm (own_ne h.outs h.box (by decide)))).trans h.box
  have keep : ∀ {e size n : Nat} {v : Value} {xs : List Value}, W.ownsRow w.heap.size e size v n xs → e ≠ 3 → e ≠ 49 → (w6.setCell ⟨r, 2, none⟩ v6).ownsRow w.heap.size e size v n xs := fun ho h1 h2 => ownsRow_store2 (own_kept ho h.outs g6 h1) box6 (Ne.symm h2)
  have kp : w6.ownsRow w.heap.size 3 1 x.pv x.P.length (nu x.P) := own_same h.kop fun g hg => g6.block g (h.kop.lt g hg).2 (fun e => h.two g e.symm hg)
  refine ⟨box6, ⟨by have := row_set (i := 2) (u := v6) box6; simpa [rcells] using this, h.low, (Below.heap_setCell w6 _ _ _ h.ne).trans ((g6.block x.kb h.ksize (Ne.symm (own_ne h.outs h.krow (by decide)))).trans h.krow), h.klow, keep h.kon (by decide) (by decide), ownsRow_store2 kp box6 (by decide), keep h.gates (by decide) (by decide), ?_, keep h.ats (by decide) (by decide), keep h.uses (by decide) (by decide), fun g hg e => ?_, h.hPl, h.rise, h.pl, (h.below.grown g6 h.below.size (fun j hj => (h.outs.lt j hj).1)).setCell h.low _, h.nn⟩⟩
  · have := ownsRow_store2 (i := 2) (u := v6) o6 box6 (by decide)
    rw [List.replicate_succ']
    exact this
  · rcases f6 g hg with h1 | h1
    · exact h.two g h1 e
    · have := (h.kop.lt g e).2
      omega
/-- the circuit's name. -/
theorem Dr.name (h : Dr w W r text d x) (n : List UInt8) : Dr w (W.setCell ⟨r, 0, none⟩ (str n)) r text { d with cname := n } x := by
  have keep : ∀ {e size n1 : Nat} {v : Value} {xs : List Value}, W.ownsRow w.heap.size e size v n1 xs → e ≠ 49 → (W.setCell ⟨r, 0, none⟩ (str n)).ownsRow w.heap.size e size v n1 xs := fun ho h2 => ownsRow_store2 ho h.box (Ne.symm h2)
  exact ⟨by have := row_set (i := 0) (u := str n) h.box; simpa [rcells] using this, h.low, (Below.heap_setCell W _ _ _ h.ne).trans h.krow, h.klow, keep h.kon (by decide), keep h.kop (by decide), keep h.gates (by decide), keep h.outs (by decide), keep h.ats (by decide), keep h.uses (by decide), h.two, h.hPl, h.rise, h.pl, h.below.setCell h.low _, h.nn⟩
/-- the end. -/
theorem Dr.fin (h : Dr w W r text d x) : Dr w (W.setCell ⟨r, 6, none⟩ (.bool true)) r text { d with done := true } x := by
  have keep : ∀ {e size n1 : Nat} {v : Value} {xs : List Value}, W.ownsRow w.heap.size e size v n1 xs → e ≠ 49 → (W.setCell ⟨r, 6, none⟩ (.bool true)).ownsRow w.heap.size e size v n1 xs := fun ho h2 => ownsRow_store2 ho h.box (Ne.symm h2)
  exact ⟨by have := row_set (i := 6) (u := .bool true) h.box; simpa [rcells] using this, h.low, (Below.heap_setCell W _ _ _ h.ne).trans h.krow, h.klow, keep h.kon (by decide), keep h.kop (by decide), keep h.gates (by decide), keep h.outs (by decide), keep h.ats (by decide), keep h.uses (by decide), h.two, h.hPl, h.rise, h.pl, h.below.setCell h.low _, h.nn⟩
end
end Go.Proofs.YtfmmmhcpdinhgabDoor
/-
  The document's own Name.
-/
namespace Go.Proofs.YtfmmmhcpdinhgabDoor
open Go.RowKit Go.Deep PureNet PureRd
set_option maxRecDepth 100000

set_option maxHeartbeats 1000000 in
theorem letterD_any (c : UInt8) (w : World) : Calls Tryd.prog 38 #[.int .u8 (c.toNat : Int)] w fun e w' => e = .returned (.bool (letB c)) ∧ w' = w := by
  have hc : (c.toNat : Int) ≤ 255 := by have := c.toNat_lt; omega
  by_cases h1 : 97 ≤ (c.toNat : Int)
  · by_cases h2 : (c.toNat : Int) ≤ 122
    · have HD : Hid (letB c = true) := by show _ = _; unfold letB; simp; omega
      go_enter Tryd.func38, Tryd.ntmps38
      go_wp2
      go_ret
      rw [HD.out]
      exact ⟨rfl, rfl⟩
    · have HD : Hid (letB c = false) := by show _ = _; unfold letB; simp; omega
      have h3 : 65 ≤ (c.toNat : Int) := by omega
      have h4 : ¬ (c.toNat : Int) ≤ 90 := by omega
      have h5 : ((c.toNat : Int) == 95) = false := beq_eq_false_iff_ne.2 (by omega)
      go_enter Tryd.func38, Tryd.ntmps38
      go_wp2
      go_ret
      rw [HD.out]
      exact ⟨rfl, rfl⟩
  · by_cases h3 : 65 ≤ (c.toNat : Int)
    · by_cases h4 : (c.toNat : Int) ≤ 90
      · have HD : Hid (letB c = true) := by show _ = _; unfold letB; simp; omega
        go_enter Tryd.func38, Tryd.ntmps38
        go_wp2
        go_ret
        rw [HD.out]
        exact ⟨rfl, rfl⟩
      · by_cases h5 : (c.toNat : Int) = 95
        · have HD : Hid (letB c = true) := by show _ = _; unfold letB; simp; omega
          go_enter Tryd.func38, Tryd.ntmps38
          go_wp2
          go_ret
          rw [HD.out]
          exact ⟨rfl, rfl⟩
        · have HD : Hid (letB c = false) := by show _ = _; unfold letB; simp; omega
          have h6 : ((c.toNat : Int) == 95) = false := beq_eq_false_iff_ne.2 h5
          clear h5
          go_enter Tryd.func38, Tryd.ntmps38
          go_wp2
          go_ret
          rw [HD.out]
          exact ⟨rfl, rfl⟩
    · have HD : Hid (letB c = false) := by show _ = _; unfold letB; simp; omega
      have h5 : ((c.toNat : Int) == 95) = false := beq_eq_false_iff_ne.2 (by omega)
      go_enter Tryd.func38, Tryd.ntmps38
      go_wp2
      go_ret
      rw [HD.out]
      exact ⟨rfl, rfl⟩

set_option maxHeartbeats 2000000 in
set_option maxRecDepth 100000 in
theorem nameD_any (s : ByteArray) (w : World) (hs : s.size ≤ 140737488351232) : Calls Tryd.prog 20 #[.string s] w fun e w' => e = .returned (.bool (nameB s)) ∧ Below w.heap.size w w' := by
  by_cases h0 : s.size = 0
  · have HD : Hid (nameB s = false) := by
      show _ = _
      unfold nameB
      have : s.data.toList = [] := List.eq_nil_of_length_eq_zero (by simpa using h0)
      rw [this]
      rfl
    go_enter Tryd.func20, Tryd.ntmps20
    go_wp2
    go_ret
    rw [HD.out]
    exact ⟨rfl, Below.refl _ _⟩
  by_cases h32 : 32 < s.size
  · have HD := hid (nameB_long s h32)
    have h33 : (32 : Int) < (s.size : Int) := by omega
    have h34 : ¬ (s.size : Int) < 1 := by omega
    go_enter Tryd.func20, Tryd.ntmps20
    go_wp2
    go_ret
    rw [HD.out]
    exact ⟨rfl, Below.refl _ _⟩
  have hp : 0 < s.size := by omega
  have HN := hid (nameB_of s hp (by omega))
  have LE := hid (fun W => letterD_any (s[0]'hp) W)
  have h33 : ¬ (32 : Int) < (s.size : Int) := by omega
  have h34 : ¬ (s.size : Int) < 1 := by omega
  cases hl0 : letB (s[0]'hp) with
  | false =>
    rw [hl0, Bool.false_and] at HN
    rw [hl0] at LE
    go_enter Tryd.func20, Tryd.ntmps20
    go_wp2_with (first
      | (go_at_call 38; with_reducible refine (LE.out _).mono ?_; rintro e w1 ⟨rfl, rfl⟩))
    go_ret
    rw [HN.out]
    exact ⟨rfl, Below.refl _ _⟩
  | true =>
    rw [hl0, Bool.true_and] at HN
    rw [hl0] at LE
    clear hl0
    go_enter Tryd.func20, Tryd.ntmps20
    go_wp2_with (first
      | (go_at_call 38; with_reducible refine (LE.out _).mono ?_; rintro e w1 ⟨rfl, rfl⟩))
    go_loopw [3] (fun iv W => ∃ i : Nat, 1 ≤ i ∧ i ≤ s.size ∧ iv = .int .i64 (i : Int) ∧ W = w1 ∧ Hid (∀ q, (hq : q < s.size) → 0 < q → q < i → nameCB (s[q]'hq) = true)) (fun iv _ => s.size - (intOf iv).toNat)
    case atStart => exact ⟨1, Nat.le_refl _, by omega, rfl, rfl, fun q _ h1 h2 => by omega⟩
    case round =>
      obtain ⟨i, hi1, hi, rfl, rfl, HR⟩ := hrel
      by_cases hlt : i < s.size
      · have hr := HR.out
        clear HR
        have LI := hid (fun W => letterD_any (s[i]'hlt) W)
        have HNX : nameCB (s[i]'hlt) = true → Hid (∀ q, (hq : q < s.size) → 0 < q → q < i + 1 → nameCB (s[q]'hq) = true) := fun h q hq h1 h2 => by
          by_cases e : q = i
          · subst e; exact h
          · exact hr q hq h1 (by omega)
        have HNO : nameCB (s[i]'hlt) = false → Hid (nameB s = false) := fun h => by
          show _ = _
          rw [HN.out, decide_eq_false]
          intro hall
          have := hall i hlt (by omega)
          rw [h] at this
          cases this
        have hcb : ((s[i]'hlt).toNat : Int) ≤ 255 := by have := (s[i]'hlt).toNat_lt; omega
        cases hcl : letB (s[i]'hlt) with
        | true =>
          have NX := HNX (by simp [nameCB, hcl])
          rw [hcl] at LI
          clear HNX HNO hr hcl
          go_wp2_with (first
            | (go_at_call 38; with_reducible refine (LI.out _).mono ?_; rintro e w2 ⟨rfl, rfl⟩))
          exact ⟨⟨i + 1, by omega, hlt, by go_num, trivial, NX.out⟩, by simp [intOf]; omega⟩
        | false =>
          rw [hcl] at LI
          by_cases h1 : 48 ≤ ((s[i]'hlt).toNat : Int)
          · by_cases h2 : ((s[i]'hlt).toNat : Int) ≤ 57
            · have NX := HNX (by simp only [nameCB, hcl, Bool.false_or, decide_eq_true_eq]; omega)
              clear HNX HNO hr hcl
              go_wp2_with (first
                | (go_at_call 38; with_reducible refine (LI.out _).mono ?_; rintro e w2 ⟨rfl, rfl⟩))
              exact ⟨⟨i + 1, by omega, hlt, by go_num, trivial, NX.out⟩, by simp [intOf]; omega⟩
            · have NO := HNO (by simp only [nameCB, hcl, Bool.false_or, decide_eq_false_iff_not]; omega)
              have h3 : ¬ ((s[i]'hlt).toNat : Int) = 46 := by omega
              have h3b : (((s[i]'hlt).toNat : Int) == 46) = false := beq_eq_false_iff_ne.2 h3
              have h2b : decide (((s[i]'hlt).toNat : Int) ≤ 57) = false := decide_eq_false h2
              have h3c : (((s[i]'hlt).toNat : Int) != 46) = true := bne_iff_ne.2 h3
              clear HNX HNO hr hcl
              go_wp2_with (first
                | (go_at_call 38; with_reducible refine (LI.out _).mono ?_; rintro e w2 ⟨rfl, rfl⟩))
              go_ret
              rw [NO.out]
              exact ⟨rfl, Below.refl _ _⟩
          · by_cases h3 : ((s[i]'hlt).toNat : Int) = 46
            · have NX := HNX (by simp only [nameCB, hcl, Bool.false_or, decide_eq_true_eq]; omega)
              have h4 : (((s[i]'hlt).toNat : Int) == 46) = true := by rw [h3]; rfl
              clear HNX HNO hr hcl h3
              go_wp2_with (first
                | (go_at_call 38; with_reducible refine (LI.out _).mono ?_; rintro e w2 ⟨rfl, rfl⟩))
              exact ⟨⟨i + 1, by omega, hlt, by go_num, trivial, NX.out⟩, by simp [intOf]; omega⟩
            · have NO := HNO (by simp only [nameCB, hcl, Bool.false_or, decide_eq_false_iff_not]; omega)
              have h4 : (((s[i]'hlt).toNat : Int) == 46) = false := beq_eq_false_iff_ne.2 h3
              clear HNX HNO hr hcl h3
              go_wp2_with (first
                | (go_at_call 38; with_reducible refine (LI.out _).mono ?_; rintro e w2 ⟨rfl, rfl⟩))
              go_ret
              rw [NO.out]
              exact ⟨rfl, Below.refl _ _⟩
      · have hin : i = s.size := by omega
        have HF : Hid (nameB s = true) := by
          show _ = _
          rw [HN.out]
          exact decide_eq_true (fun q hq h0 => HR.out q hq h0 (by omega))
        clear HR hin
        go_wp2
        go_ret
        rw [HF.out]
        exact ⟨rfl, Below.refl _ _⟩
/-- the same, for a list. -/
theorem nameD_list (l : List UInt8) (w : World) (hl : l.length ≤ 1048576) : Calls Tryd.prog 20 #[str l] w fun e w' => e = .returned (.bool (nameL l)) ∧ Below w.heap.size w w' := nameD_any ⟨l.toArray⟩ w (by show l.toArray.size ≤ _; simp; omega)
end Go.Proofs.YtfmmmhcpdinhgabDoor
