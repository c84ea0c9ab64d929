/-
  Clauses in the making, as the landed program has them: a box of five cells; what its calls leave as it was.
-/
import Derived.Test.YtdkboifpdodonaaDoorD5
import Derived.Lib.OwnKind
namespace Go.Proofs.YtdkboifpdodonaaDoor
open Go.RowKit Go.Deep PureCnf
set_option maxRecDepth 100000

/-- all but the box and rows of numbers stands as it stood. -/
structure Keep (b : Nat) (W W' : World) : Prop where
  size : W.heap.size ≤ W'.heap.size
  block : ∀ (k : Nat) (cs : Array Value) (t : TypeId) (fz : Nat × Nat), k ≠ b → t ≠ 3 → W.heap[k]? = some (.cells cs t fz) → W'.heap[k]? = some (.cells cs t fz)
theorem Keep.refl (b : Nat) (W : World) : Keep b W W := ⟨Nat.le_refl _, fun _ _ _ _ _ _ h => h⟩
theorem Keep.trans {b : Nat} {W W' W2 : World} (h : Keep b W W') (g : Keep b W' W2) : Keep b W W2 := ⟨Nat.le_trans h.size g.size, fun k cs t fz hk ht he => g.block k cs t fz hk ht (h.block k cs t fz hk ht he)⟩
theorem Keep.of_below {b : Nat} {W W' : World} (h : Below W.heap.size W W') : Keep b W W' := ⟨h.size, fun k _ _ _ _ _ he => (h.block k (Array.getElem?_eq_some_iff.1 he).1).trans he⟩
theorem Keep.set {b i : Nat} {W : World} {v : Value} : Keep b W (W.setCell ⟨b, i, none⟩ v) := ⟨by simp, fun _ _ _ _ hk _ he => (Below.heap_setCell W _ _ _ (by simpa using hk)).trans he⟩
theorem Keep.grown {b base n : Nat} {W W' : World} {v : Value} {xs : List Value} (h : W.grownBy W' v.ownBlock) (hs : W.heap.size ≤ W'.heap.size) (ho : W.ownsRow base 3 1 v n xs) : Keep b W W' := by
  refine ⟨hs, fun k cs t fz hk ht he => ?_⟩
  rw [← he]
  refine h.block k (Array.getElem?_eq_some_iff.1 he).1 (fun e => ?_)
  obtain ⟨c, fz', hc⟩ := Lib.ownsRow_kind ho k e.symm
  rw [he] at hc
  simp at hc
  exact ht hc.2.1

/-- words that lie there. -/
abbrev WRow (W : World) (B : Nat) (v : Value) (l : List Piece) : Prop := W.ownsRow B 140 2 v l.length (wcs l)
theorem WRow.keep {W W' : World} {b B : Nat} {v : Value} {l : List Piece} (h : WRow W B v l) (hk : Keep b W W') (hb : b < B) : WRow W' B v l := by
  refine ⟨h.1, ?_⟩
  rcases h.2 with hn | ⟨g, cap, cur, hv, hB, hg, rest⟩
  · exact .inl hn
  · exact .inr ⟨g, cap, cur, hv, hB, hk.block g _ _ _ (by omega) (by decide) hg, rest⟩
theorem WRow.form {W : World} {B : Nat} {v : Value} {l : List Piece} (h : WRow W B v l) : ∃ sa c, v = .slice sa l.length c := by
  rcases h.2 with ⟨hv, h0⟩ | ⟨g, cap, cur, hv, _⟩
  · exact ⟨none, 0, by rw [hv, h0]⟩
  · exact ⟨_, _, hv⟩
theorem wcs_at (l : List Piece) (k : Nat) (h : k < l.length) : (wcs l)[k * 2]? = some (str l[k].w) ∧ (wcs l)[k * 2 + 1]? = some (.int .i64 (l[k].at_ : Int)) := by
  induction l generalizing k with
  | nil => simp at h
  | cons p t ih =>
    have e : wcs (p :: t) = [str p.w, .int .i64 (p.at_ : Int)] ++ wcs t := rfl
    cases k with
    | zero => rw [e]; exact ⟨rfl, rfl⟩
    | succ k =>
      have := ih k (by simpa using h)
      rw [e, List.getElem?_append_right (by simp; omega), List.getElem?_append_right (by simp; omega)]
      simp only [List.length_cons, List.length_nil, List.getElem_cons_succ]
      rw [show (k + 1) * 2 - (0 + 1 + 1) = k * 2 by omega, show (k + 1) * 2 + 1 - (0 + 1 + 1) = k * 2 + 1 by omega]
      exact this
theorem WRow.read {W : World} {B : Nat} {v : Value} {l : List Piece} (h : WRow W B v l) {k : Nat} (hk : k < l.length) :
    ∃ g c, v = .slice (some ⟨g, 0, none⟩) l.length c ∧ B ≤ g ∧ W.cell? ⟨g, k * 2, none⟩ = some (str l[k].w) ∧ W.cell? ⟨g, k * 2 + 1, none⟩ = some (.int .i64 (l[k].at_ : Int)) := by
  rcases h.2 with ⟨hv, h0⟩ | ⟨g, cap, cur, hv, hB, _⟩
  · omega
  · have h' : W.ownsRow B 140 2 (.slice (some ⟨g, 0, none⟩) l.length cap) l.length (wcs l) := by rw [← hv]; exact h
    have := wcs_at l k hk
    exact ⟨g, cap, hv, hB, by rw [h'.cellAt (k * 2) (by omega)]; exact this.1, by rw [h'.cellAt (k * 2 + 1) (by omega)]; exact this.2⟩

/-- clauses in the making: their box at b; the lists lie behind it. -/
structure Cl (w0 W : World) (b : Nat) (V : Int) (E L : List Int) (ve vl : Value) (bg : Bool) (C : Int) : Prop where
  row : W.heap[b]? = some (.cells #[.int .i64 V, ve, vl, .bool bg, .int .i64 C] 93 (0, 0))
  oe : W.ownsRow (b + 1) 3 1 ve E.length (ci E)
  ol : W.ownsRow (b + 1) 3 1 vl L.length (ci L)
  apart : ve.ownBlock = none ∨ ve.ownBlock ≠ vl.ownBlock
  below : Below b w0 W

theorem Cl.size {w0 W : World} {b : Nat} {V C : Int} {E L : List Int} {ve vl : Value} {bg : Bool} (h : Cl w0 W b V E L ve vl bg C) : b + 1 ≤ W.heap.size := (Array.getElem?_eq_some_iff.1 h.row).1
theorem Cl.on {w0 W W' : World} {b : Nat} {V C : Int} {E L : List Int} {ve vl : Value} {bg : Bool} (h : Cl w0 W b V E L ve vl bg C) (hb : Below W.heap.size W W') : Cl w0 W' b V E L ve vl bg C :=
  ⟨(hb.block _ h.size).trans h.row, ownsRow_below h.oe hb, ownsRow_below h.ol hb, h.apart, h.below.trans (hb.mono (by have := h.size; omega))⟩
theorem Cl.setV {w0 W : World} {b : Nat} {V C : Int} {E L : List Int} {ve vl : Value} {bg : Bool} (h : Cl w0 W b V E L ve vl bg C) (x : Int) : Cl w0 (W.setCell ⟨b, 0, none⟩ (.int .i64 x)) b x E L ve vl bg C := by
  refine ⟨?_, ownsRow_store h.oe (by omega), ownsRow_store h.ol (by omega), h.apart, h.below.setCell (by simp) _⟩
  have hb := h.size
  simp [World.setCell, Array.getElem?_modify, h.row]
theorem Cl.setB {w0 W : World} {b : Nat} {V C : Int} {E L : List Int} {ve vl : Value} {bg : Bool} (h : Cl w0 W b V E L ve vl bg C) (x : Bool) : Cl w0 (W.setCell ⟨b, 3, none⟩ (.bool x)) b V E L ve vl x C := by
  refine ⟨?_, ownsRow_store h.oe (by omega), ownsRow_store h.ol (by omega), h.apart, h.below.setCell (by simp) _⟩
  have hb := h.size
  simp [World.setCell, Array.getElem?_modify, h.row]
theorem Cl.setC {w0 W : World} {b : Nat} {V C : Int} {E L : List Int} {ve vl : Value} {bg : Bool} (h : Cl w0 W b V E L ve vl bg C) (x : Int) : Cl w0 (W.setCell ⟨b, 4, none⟩ (.int .i64 x)) b V E L ve vl bg x := by
  refine ⟨?_, ownsRow_store h.oe (by omega), ownsRow_store h.ol (by omega), h.apart, h.below.setCell (by simp) _⟩
  have hb := h.size
  simp [World.setCell, Array.getElem?_modify, h.row]

/-- the Ends grow. -/
theorem Cl.ends {w0 W : World} {b : Nat} {V C : Int} {E L : List Int} {ve vl : Value} {bg : Bool} (h : Cl w0 W b V E L ve vl bg C) {W' : World} {ve' : Value} {x : Int}
    (ho : W'.ownsRow (b + 1) 3 1 ve' (E ++ [x]).length (ci (E ++ [x]))) (hg : W.grownBy W' ve.ownBlock) (hf : ve'.ownBlock = ve.ownBlock ∨ ve'.ownBlock = some W.heap.size) : Cl w0 (W'.setCell ⟨b, 1, none⟩ ve') b V (E ++ [x]) L ve' vl bg C := by
  have hs := h.size
  have hvl : W'.ownsRow (b + 1) 3 1 vl L.length (ci L) := h.ol.kept hg (by
    rcases h.apart with ha | ha
    · rw [ha]; cases vl.ownBlock <;> simp
    · exact .inr (Ne.symm ha))
  have hrow : W'.heap[b]? = some (.cells #[.int .i64 V, ve, vl, .bool bg, .int .i64 C] 93 (0, 0)) := by
    rw [← h.row]
    refine hg.block b hs (fun e => ?_)
    have := (h.oe.lt b e.symm).1
    omega
  refine ⟨?_, ownsRow_store ho (by omega), ownsRow_store hvl (by omega), ?_, ?_⟩
  · have hb := (Array.getElem?_eq_some_iff.1 hrow).1
    simp [World.setCell, Array.getElem?_modify, hrow]
  · rcases hf with hf | hf
    · rw [hf]; exact h.apart
    · right
      rw [hf]
      intro e
      have := (h.ol.lt _ e.symm).2
      omega
  · exact (h.below.grown hg (by omega) (fun k hk => by have := (h.oe.lt k hk).1; omega)).setCell (by simp) _
/-- the Lits grow. -/
theorem Cl.lits {w0 W : World} {b : Nat} {V C : Int} {E L : List Int} {ve vl : Value} {bg : Bool} (h : Cl w0 W b V E L ve vl bg C) {W' : World} {vl' : Value} {x : Int}
    (ho : W'.ownsRow (b + 1) 3 1 vl' (L ++ [x]).length (ci (L ++ [x]))) (hg : W.grownBy W' vl.ownBlock) (hf : vl'.ownBlock = vl.ownBlock ∨ vl'.ownBlock = some W.heap.size) : Cl w0 (W'.setCell ⟨b, 2, none⟩ vl') b V E (L ++ [x]) ve vl' bg C := by
  have hs := h.size
  have hve : W'.ownsRow (b + 1) 3 1 ve E.length (ci E) := h.oe.kept hg (by
    rcases h.apart with ha | ha
    · exact .inl ha
    · exact .inr ha)
  have hrow : W'.heap[b]? = some (.cells #[.int .i64 V, ve, vl, .bool bg, .int .i64 C] 93 (0, 0)) := by
    rw [← h.row]
    refine hg.block b hs (fun e => ?_)
    have := (h.ol.lt b e.symm).1
    omega
  refine ⟨?_, ownsRow_store hve (by omega), ownsRow_store ho (by omega), ?_, ?_⟩
  · have hb := (Array.getElem?_eq_some_iff.1 hrow).1
    simp [World.setCell, Array.getElem?_modify, hrow]
  · rcases hf with hf | hf
    · rw [hf]; exact h.apart
    · rw [hf]
      cases hv : ve.ownBlock with
      | none => exact .inl rfl
      | some k =>
        right
        intro e
        have := (h.oe.lt k hv).2
        simp at e
        omega
  · exact (h.below.grown hg (by omega) (fun k hk => by have := (h.ol.lt k hk).1; omega)).setCell (by simp) _
theorem Cl.alloc {w0 W : World} {b : Nat} {V C : Int} {E L : List Int} {ve vl : Value} {bg : Bool} (h : Cl w0 W b V E L ve vl bg C) (o : Obj) : Cl w0 (W.alloc o) b V E L ve vl bg C := h.on ((Below.refl _ _).alloc (Nat.le_refl _) o)
theorem Cl.forms {w0 W : World} {b : Nat} {V C : Int} {E L : List Int} {ve vl : Value} {bg : Bool} (h : Cl w0 W b V E L ve vl bg C) : (∃ sa c, ve = .slice sa E.length c ∧ E.length ≤ c) ∧ ∃ sa c, vl = .slice sa L.length c ∧ L.length ≤ c := by
  constructor
  · rcases h.oe.2 with ⟨hv, h0⟩ | ⟨g, cap, cur, hv, _, _, hn, _⟩
    · exact ⟨none, 0, by rw [hv, h0], by omega⟩
    · exact ⟨_, _, hv, hn⟩
  · rcases h.ol.2 with ⟨hv, h0⟩ | ⟨g, cap, cur, hv, _, _, hn, _⟩
    · exact ⟨none, 0, by rw [hv, h0], by omega⟩
    · exact ⟨_, _, hv, hn⟩
end Go.Proofs.YtdkboifpdodonaaDoor
