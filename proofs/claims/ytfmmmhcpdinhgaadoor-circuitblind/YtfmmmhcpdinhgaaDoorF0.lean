/-
  Rows of numbers by functions; the entries of a circuit's lines, one by one.
-/
import Derived.Test.YtfmmmhcpdinhgaaDoorD5
import Derived.Test.YtfmmmhcpdinhgaaDoorFam
import Derived.Test.YtfmmmhcpdinhgaaDoorLay
namespace PureNet
set_option maxRecDepth 100000

theorem ents_prefix (l : List Ga) : ∀ i, i ≤ l.length → entsOf (l.take i) <+: entsOf l := by
  intro i hi
  obtain ⟨d, hd⟩ : ∃ d, d = l.length - i := ⟨_, rfl⟩
  induction d generalizing i with
  | zero => rw [show i = l.length by omega, List.take_length]; exact List.prefix_refl _
  | succ d ih =>
    have hg : l[i]? = some l[i] := List.getElem?_eq_getElem (by omega)
    have h1 := ih (i + 1) (by omega) (by omega)
    rw [ents_take l i _ hg] at h1
    exact List.IsPrefix.trans (List.prefix_append _ _) h1
theorem ents_at (l : List Ga) (i k : Nat) (g : Ga) (a : Int) (hg : l[i]? = some g) (ha : (leansOn g)[k]? = some a) : (entsOf l).getD ((entsOf (l.take i)).length + k) (0, 0) = (a.toNat, i) ∧ (entsOf (l.take i)).length + k < (entsOf l).length := by
  have hi := (List.getElem?_eq_some_iff.1 hg).1
  have hk := (List.getElem?_eq_some_iff.1 ha).1
  obtain ⟨t, ht⟩ := ents_prefix l (i + 1) (by omega)
  have h1 : (entsOf l)[(entsOf (l.take i)).length + k]? = some (a.toNat, i) := by
    rw [← ht, ents_take l i g hg, List.append_assoc, List.getElem?_append_right (by omega), Nat.add_sub_cancel_left, List.getElem?_append_left (by simpa using hk)]
    simp [ha]
  refine ⟨by rw [List.getD_eq_getElem?_getD, h1]; rfl, (List.getElem?_eq_some_iff.1 h1).1⟩
theorem cntP_run {p : Nat → Bool} {m : Nat} {b : Bool} : ∀ t, (∀ k, k < t → p (m + k) = b) → cntP p (m + t) = cntP p m + (if b = true then t else 0) := by
  intro t
  induction t with
  | zero => intro _; split <;> rfl
  | succ t ih =>
    intro h
    rw [← Nat.add_assoc, cntP_succ, ih (fun k hk => h k (by omega)), h t (by omega)]
    cases b <;> simp
    omega
/-- how many operands a line has. -/
theorem ents_count (l : List Ga) (x : Nat) : ∀ i, i ≤ l.length → cntP (fun j => decide (((entsOf l).getD j (0, 0)).2 = x)) (entsOf (l.take i)).length = if x < i then (leansOn (l.getD x ⟨0, default, 0, 0, 0, 0⟩)).length else 0 := by
  intro i
  induction i with
  | zero => intro _; simp [entsOf, cntP]
  | succ i ih =>
    intro h
    have hg : l[i]? = some l[i] := List.getElem?_eq_getElem (by omega)
    have hlen : (entsOf (l.take (i + 1))).length = (entsOf (l.take i)).length + (leansOn l[i]).length := by rw [ents_take l i _ hg, List.length_append, List.length_map]
    rw [hlen, cntP_run (b := decide (i = x)) _ (fun k hk => by
      have := (ents_at l i k _ _ hg (List.getElem?_eq_getElem hk)).1
      simp only [this]), ih (by omega)]
    by_cases hx : i = x
    · subst hx
      have : l.getD i ⟨0, default, 0, 0, 0, 0⟩ = l[i] := by rw [List.getD_eq_getElem?_getD, hg]; rfl
      rw [if_neg (by omega), if_pos (by simp), if_pos (by omega), this]
      omega
    · by_cases hlt : x < i
      · rw [if_pos hlt, if_neg (by simp [hx]), if_pos (by omega)]
        omega
      · rw [if_neg hlt, if_neg (by simp [hx]), if_neg (by omega)]
theorem waits_first (l : List Ga) (out : List Nat) (x : Nat) (g : Ga) (hg : l[x]? = some g) : waits (entsOf l) (fun j => decide (((entsOf l).getD j (0, 0)).1 ∈ out.take 0)) x = (leansOn g).length := by
  have hx := (List.getElem?_eq_some_iff.1 hg).1
  have h := ents_count l x l.length (Nat.le_refl _)
  rw [List.take_length, if_pos hx] at h
  rw [show l.getD x ⟨0, default, 0, 0, 0, 0⟩ = g by rw [List.getD_eq_getElem?_getD, hg]; rfl] at h
  rw [← h]
  unfold waits
  refine cntP_congr fun j hj => ?_
  simp
end PureNet

namespace Go.Proofs.YtfmmmhcpdinhgaaDoor
open Go.RowKit Go.Deep PureNet ShfKit

/-- a row of numbers. -/
def rowF (n : Nat) (f : Nat → Int) : List Value := (List.range n).map fun x => .int .i64 (f x)
theorem rowF_len (n : Nat) (f : Nat → Int) : (rowF n f).length = n := by simp [rowF]
theorem rowF_at (n : Nat) (f : Nat → Int) (j : Nat) (h : j < n) : (rowF n f)[j]? = some (.int .i64 (f j)) := by simp [rowF, h]
theorem rowF_congr {n : Nat} {f g : Nat → Int} (h : ∀ j, j < n → f j = g j) : rowF n f = rowF n g := by
  unfold rowF
  refine List.map_congr_left fun x hx => ?_
  rw [h x (by simpa using hx)]
theorem rowF_set (n : Nat) (f : Nat → Int) (j : Nat) (u : Int) : (rowF n f).set j (.int .i64 u) = rowF n (fun x => if x = j then u else f x) := by
  apply List.ext_getElem?
  intro k
  rw [List.getElem?_set]
  by_cases hk : k < n
  · rw [rowF_at n _ k hk, rowF_at n _ k hk]
    by_cases hj : j = k
    · subst hj
      rw [if_pos rfl, if_pos (by rw [rowF_len]; exact hk), if_pos rfl]
    · rw [if_neg hj, if_neg (fun e => hj e.symm)]
  · have h1 : (rowF n f)[k]? = none := List.getElem?_eq_none (by rw [rowF_len]; omega)
    have h2 : (rowF n (fun x => if x = j then u else f x))[k]? = none := List.getElem?_eq_none (by rw [rowF_len]; omega)
    rw [h1, h2]
    split
    · rw [if_neg (by rw [rowF_len]; omega)]
    · rfl
theorem rowF_snoc (n : Nat) (f : Nat → Int) (u : Int) (g : Nat → Int) (h : ∀ j, j < n → f j = g j) (hu : g n = u) : rowF n f ++ [.int .i64 u] = rowF (n + 1) g := by
  rw [rowF_congr h]
  unfold rowF
  rw [List.range_succ, List.map_append, ← hu]
  rfl
/-- append of a number to one of several rows. -/
theorem fam_app {ops : Array Oper} {rest : List Oper} {o : Oper} {a : Act} {Q : Exit → Act → World → Prop} {w W : World} {L : List Rw} (hgd : o.guard = none) (sl y : Operand)
    (ho : o.op = .call { callee := .builtin .append, args := #[sl, y], argTypes := #[22, 22] }) (hF : Fam W w.heap.size 3 1 L) (hB : Below w.heap.size w W) (i : Nat) (x : Rw) (hx : L[i]? = some x) (u : Int) (t : TypeId) (ad : Nat) (had : ad = W.heap.size)
    (hs : a.eval sl = x.1) (hy : a.eval y = .slice (some ⟨ad, 0, none⟩) 1 1) (hn : x.2.1 ≤ 1099511627776)
    (hK : ∀ sx cx w', Fam w' w.heap.size 3 1 (L.set i (.slice sx (x.2.1 + 1) cx, x.2.1 + 1, x.2.2 ++ [.int .i64 u])) → Below w.heap.size w w' → (∀ (k : Nat) (cs : Array Value) (tt : Nat) (fz : Nat × Nat), W.heap[k]? = some (Obj.cells cs tt fz) → tt ≠ 3 → w'.heap[k]? = some (Obj.cells cs tt fz)) → wpList Tryd.prog ops Q rest (a.put o.dst (.slice sx (x.2.1 + 1) cx)) w') :
    wpList Tryd.prog ops Q (o :: rest) a (W.alloc (.cells #[.int .i64 u] t)) := by
  subst had
  obtain ⟨ii, hi, hz0, hz1, hz2⟩ := info_parts info3
  have hb2 : Below W.heap.size W (W.alloc (.cells #[.int .i64 u] t)) := (Below.refl _ _).alloc (Nat.le_refl _) _
  have hF2 := hF.below hb2
  have hB2 : Below w.heap.size w (W.alloc (.cells #[.int .i64 u] t)) := hB.trans (hb2.mono hB.size)
  have hown := hF2.own i x hx
  refine wpList_append_far (P := Tryd.prog) (W.alloc (.cells #[.int .i64 u] t)) hgd sl y 22 ho w.heap.size 3 ii (.int .i64 0) 1 8 Tryd.underlying22 hi hz0 hz1 hz2 rfl (by decide) x.1 x.2.1 x.2.2 hs hown ⟨W.heap.size, 0, none⟩ 1 1 [.int .i64 u] hy rfl (fun j v hv => by
      rw [add_zero_addr, cell_row (heap_alloc_new W _)]
      simpa using hv) (fun v hv => by simp at hv; subst hv; rfl) (by unfold maxLen; omega) (by omega) hB2.size ?_
  intro v' w' o1 hf
  obtain ⟨sx, cx, rfl⟩ := own_shape o1
  have hgr : (∃ g, (W.alloc (.cells #[.int .i64 u] t)).grownBy w' g ∧ ∀ k, g = some k → x.1.ownBlock = some k) := by
    rcases hf with ⟨_, hg⟩ | ⟨_, hg⟩
    · exact ⟨_, hg, fun k e => e⟩
    · exact ⟨none, hg, fun k e => by cases e⟩
  obtain ⟨g, hg, hgx⟩ := hgr
  refine hK sx cx w' (hF2.turn (y := (.slice sx (x.2.1 + 1) cx, x.2.1 + 1, x.2.2 ++ [.int .i64 u])) hx o1 hf) (hB2.grown hg hB2.size (fun k e => (own_block hown (hgx k e)).1)) (fun k cs tt fz hk htt => ?_)
  have h1 : (W.alloc (.cells #[.int .i64 u] t)).heap[k]? = some (Obj.cells cs tt fz) := (hb2.block k (Array.getElem?_eq_some_iff.1 hk).1).trans hk
  refine (hg.block k (Array.getElem?_eq_some_iff.1 h1).1 (fun e => ?_)).trans h1
  exact own_ne hown h1 htt (hgx k e.symm)
end Go.Proofs.YtfmmmhcpdinhgaaDoor
