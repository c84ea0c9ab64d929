import Derived.Test.YtfmmmhcpdinhgaaDoorZ02
/-
  Rows of numbers by functions; the entries of a circuit's lines, one by one.
-/
namespace PureNet
set_option maxRecDepth 100000

theorem ents_prefix (l : List Ga) : ∀ i, i ≤ l.length → entsOf (l.take i) <+: entsOf l := by
  intro i hi
  obtain ⟨d, hd⟩ : ∃ d, d = l.length - i := ⟨_, rfl⟩
  induction d generalizing i with
  | zero => rw [show i = l.length by omega, List.take_length]; exact List.prefix_refl _
  | succ d ih =>
    have hg : l[i]? = some l[i] := List.getElem?_eq_getElem (by omega)
    have h1 := ih (i + 1) (by omega) (by omega)
    rw [ents_take l i _ hg] at h1
    exact List.IsPrefix.trans (List.prefix_append _ _) h1
theorem ents_at (l : List Ga) (i k : Nat) (g : Ga) (a : Int) (hg : l[i]? = some g) (ha : (leansOn g)[k]? = some a) : (entsOf l).getD ((entsOf (l.take i)).length + k) (0, 0) = (a.toNat, i) ∧ (entsOf (l.take i)).length + k < (entsOf l).length := by
  have hi := (List.getElem?_eq_some_iff.1 hg).1
  have hk := (List.getElem?_eq_some_iff.1 ha).1
  obtain ⟨t, ht⟩ := ents_prefix l (i + 1) (by omega)
  have h1 : (entsOf l)[(entsOf (l.take i)).length + k]? = some (a.toNat, i) := by
    rw [← ht, ents_take l i g hg, List.append_assoc, List.getElem?_append_right (by omega), Nat.add_sub_cancel_left, List.getElem?_append_left (by simpa using hk)]
    simp [ha]
  refine ⟨by rw [List.getD_eq_getElem?_getD, h1]; rfl, (List.getElem?_eq_some_iff.1 h1).1⟩
theorem cntP_run {p : Nat → Bool} {m : Nat} {b : Bool} : ∀ t, (∀ k, k < t → p (m + k) = b) → cntP p (m + t) = cntP p m + (if b = true then t else 0) := by
  intro t
  induction t with
  | zero => intro _; split <;> rfl
  | succ t ih =>
    intro h
    rw [← Nat.add_assoc, cntP_succ, ih (fun k hk => h k (by omega)), h t (by omega)]
    cases b <;> simp
    omega
/-- how many operands a line has. -/
theorem ents_count (l : List Ga) (x : Nat) : ∀ i, i ≤ l.length → cntP (fun j => decide (((entsOf l).getD j (0, 0)).2 = x)) (entsOf (l.take i)).length = if x < i then (leansOn (l.getD x ⟨0, default, 0, 0, 0, 0⟩)).length else 0 := by
  intro i
  induction i with
  | zero => intro _; simp [entsOf, cntP]
  | succ i ih =>
    intro h
    have hg : l[i]? = some l[i] := List.getElem?_eq_getElem (by omega)
    have hlen : (entsOf (l.take (i + 1))).length = (entsOf (l.take i)).length + (leansOn l[i]).length := by rw [ents_take l i _ hg, List.length_append, List.length_map]
    rw [hlen, cntP_run (b := decide (i = x)) _ (fun k hk => by
      have := (ents_at l i k _ _ hg (List.getElem?_eq_getElem hk)).1
      simp only [this]), ih (by omega)]
    by_cases hx : i = x
    · subst hx
      have : l.getD i ⟨0, default, 0, 0, 0, 0⟩ = l[i] := by rw [List.getD_eq_getElem?_getD, hg]; rfl
      rw [if_neg (by omega), if_pos (by simp), if_pos (by omega), this]
      omega
    · by_cases hlt : x < i
      · rw [if_pos hlt, if_neg (by simp [hx]), if_pos (by omega)]
        omega
      · rw [if_neg hlt, if_neg (by simp [hx]), if_neg (by omega)]
theorem waits_first (l : List Ga) (out : List Nat) (x : Nat) (g : Ga) (hg : l[x]? = some g) : waits (entsOf l) (fun j => decide (((entsOf l).getD j (0, 0)).1 ∈ out.take 0)) x = (leansOn g).length := by
  have hx := (List.getElem?_eq_some_iff.1 hg).1
  have h := ents_count l x l.length (Nat.le_refl _)
  rw [List.take_length, if_pos hx] at h
  rw [show l.getD x ⟨0, default, 0, 0, 0, 0⟩ = g by rw [List.getD_eq_getElem?_getD, hg]; rfl] at h
  rw [← h]
  unfold waits
  refine cntP_congr fun j hj => ?_
  simp
end PureNet

namespace Go.Proofs.YtfmmmhcpdinhgaaDoor
open Go.RowKit Go.Deep PureNet ShfKit

/-- a row of numbers. -/
def rowF (n : Nat) (f : Nat → Int) : List Value := (List.range n).map fun x => .int .i64 (f x)
theorem rowF_len (n : Nat) (f : Nat → Int) : (rowF n f).length = n := by simp [rowF]
theorem rowF_at (n : Nat) (f : Nat → Int) (j : Nat) (h : j < n) : (rowF n f)[j]? = some (.int .i64 (f j)) := by simp [rowF, h]
theorem rowF_congr {n : Nat} {f g : Nat → Int} (h : ∀ j, j < n → f j = g j) : rowF n f = rowF n g := by
  unfold rowF
  refine List.map_congr_left fun x hx => ?_
  rw [h x (by simpa using hx)]
theorem rowF_set (n : Nat) (f : Nat → Int) (j : Nat) (u : Int) : (rowF n f).set j (.int .i64 u) = rowF n (fun x => if x = j then u else f x) := by
  apply List.ext_getElem?
  intro k
  rw [List.getElem?_set]
  by_cases hk : k < n
  · rw [rowF_at n _ k hk, rowF_at n _ k hk]
    by_cases hj : j = k
    · subst hj
      rw [if_pos rfl, if_pos (by rw [rowF_len]; exact hk), if_pos rfl]
    · rw [if_neg hj, if_neg (fun e => hj e.symm)]
  · have h1 : (rowF n f)[k]? = none := List.getElem?_eq_none (by rw [rowF_len]; omega)
    have h2 : (rowF n (fun x => if x = j then u else f x))[k]? = none := List.getElem?_eq_none (by rw [rowF_len]; omega)
    rw [h1, h2]
    split
    · rw [if_neg (by rw [rowF_len]; omega)]
    · rfl
theorem rowF_snoc (n : Nat) (f : Nat → Int) (u : Int) (g : Nat → Int) (h : ∀ j, j < n → f j = g j) (hu : g n = u) : rowF n f ++ [.int .i64 u] = rowF (n + 1) g := by
  rw [rowF_congr h]
  unfold rowF
  rw [List.range_succ, List.map_append, ← hu]
  rfl
/-- append of a number to one of several rows. -/
theorem fam_app {ops : Array Oper} {rest : List Oper} {o : Oper} {a : Act} {Q : Exit → Act → World → Prop} {w W : World} {L : List Rw} (hgd : o.guard = none) (sl y : Operand)
    (ho : o.op = .call { callee := .builtin .append, args := #[sl, y], argTypes := #[22, 22] }) (hF : Fam W w.heap.size 3 1 L) (hB : Below w.heap.size w W) (i : Nat) (x : Rw) (hx : L[i]? = some x) (u : Int) (t : TypeId) (ad : Nat) (had : ad = W.heap.size)
    (hs : a.eval sl = x.1) (hy : a.eval y = .slice (some ⟨ad, 0, none⟩) 1 1) (hn : x.2.1 ≤ 1099511627776)
    (hK : ∀ sx cx w', Fam w' w.heap.size 3 1 (L.set i (.slice sx (x.2.1 + 1) cx, x.2.1 + 1, x.2.2 ++ [.int .i64 u])) → Below w.heap.size w w' → (∀ (k : Nat) (cs : Array Value) (tt : Nat) (fz : Nat × Nat), W.heap[k]? = some (Obj.cells cs tt fz) → tt ≠ 3 → w'.heap[k]? = some (Obj.cells cs tt fz)) → wpList Tryd.prog ops Q rest (a.put o.dst (.slice sx (x.2.1 + 1) cx)) w') :
    wpList Tryd.prog ops Q (o :: rest) a (W.alloc (.cells #[.int .i64 u] t)) := by
  subst had
  obtain ⟨ii, hi, hz0, hz1, hz2⟩ := info_parts info3
  have hb2 : Below W.heap.size W (W.alloc (.cells #[.int .i64 u] t)) := (Below.refl _ _).alloc (Nat.le_refl _) _
  have hF2 := hF.below hb2
  have hB2 : Below w.heap.size w (W.alloc (.cells #[.int .i64 u] t)) := hB.trans (hb2.mono hB.size)
  have hown := hF2.own i x hx
  refine wpList_append_far (P := Tryd.prog) (W.alloc (.cells #[.int .i64 u] t)) hgd sl y 22 ho w.heap.size 3 ii (.int .i64 0) 1 8 Tryd.underlying22 hi hz0 hz1 hz2 rfl (by decide) x.1 x.2.1 x.2.2 hs hown ⟨W.heap.size, 0, none⟩ 1 1 [.int .i64 u] hy rfl (fun j v hv => by
      rw [add_zero_addr, cell_row (heap_alloc_new W _)]
      simpa using hv) (fun v hv => by simp at hv; subst hv; rfl) (by unfold maxLen; omega) (by omega) hB2.size ?_
  intro v' w' o1 hf
  obtain ⟨sx, cx, rfl⟩ := own_shape o1
  have hgr : (∃ g, (W.alloc (.cells #[.int .i64 u] t)).grownBy w' g ∧ ∀ k, g = some k → x.1.ownBlock = some k) := by
    rcases hf with ⟨_, hg⟩ | ⟨_, hg⟩
    · exact ⟨_, hg, fun k e => e⟩
    · exact ⟨none, hg, fun k e => by cases e⟩
  obtain ⟨g, hg, hgx⟩ := hgr
  refine hK sx cx w' (hF2.turn (y := (.slice sx (x.2.1 + 1) cx, x.2.1 + 1, x.2.2 ++ [.int .i64 u])) hx o1 hf) (hB2.grown hg hB2.size (fun k e => (own_block hown (hgx k e)).1)) (fun k cs tt fz hk htt => ?_)
  have h1 : (W.alloc (.cells #[.int .i64 u] t)).heap[k]? = some (Obj.cells cs tt fz) := (hb2.block k (Array.getElem?_eq_some_iff.1 hk).1).trans hk
  refine (hg.block k (Array.getElem?_eq_some_iff.1 h1).1 (fun e => ?_)).trans h1
  exact own_ne hown h1 htt (hgx k e.symm)
end Go.Proofs.YtfmmmhcpdinhgaaDoor
/-
  The document's own Layers.
-/
namespace Go.Proofs.YtfmmmhcpdinhgaaDoor
open Go.RowKit Go.Deep PureNet ShfKit
set_option maxRecDepth 100000

theorem made_row (W : World) (n : Nat) (hn : n ≤ 65536) : (W.alloc (.cells (madeCells #[.int .i64 0] n) 3)).ownsRow W.heap.size 3 1 (.slice (some ⟨W.heap.size, 0, none⟩) n n) n (rowF n fun _ => 0) := by
  refine ⟨by rw [rowF_len, Nat.mul_one], .inr ⟨W.heap.size, n, _, rfl, Nat.le_refl _, heap_alloc_new W _, Nat.le_refl _, by unfold maxLen; omega, by rw [size_madeCells, Nat.mul_one], ?_⟩⟩
  rw [Nat.mul_one, toList_madeCells_one, List.take_of_length_le (by simp)]
  apply List.ext_getElem?
  intro k
  by_cases hk : k < n
  · rw [rowF_at n _ k hk]; simp [hk]
  · rw [List.getElem?_eq_none (by simp; omega), List.getElem?_eq_none (by rw [rowF_len]; omega)]
/-- those who lean on none, of the first i. -/
def freeL (l : List Ga) (i : Nat) : List Nat := (List.range i).filter fun x => (leansOn (l.getD x ⟨0, default, 0, 0, 0, 0⟩)).isEmpty
theorem freeL_succ (l : List Ga) (i : Nat) (g : Ga) (hg : l[i]? = some g) : freeL l (i + 1) = freeL l i ++ (if leansOn g = [] then [i] else []) := by
  have e : l.getD i ⟨0, default, 0, 0, 0, 0⟩ = g := by rw [List.getD_eq_getElem?_getD, hg]; rfl
  unfold freeL
  rw [List.range_succ, List.filter_append]
  simp only [List.filter_cons, List.filter_nil, e]
  cases h : leansOn g <;> simp
theorem freeL_mem (l : List Ga) (x : Nat) : x ∈ freeL l l.length ↔ ∃ g, l[x]? = some g ∧ leansOn g = [] := by
  unfold freeL
  rw [List.mem_filter, List.mem_range]
  constructor
  · rintro ⟨hx, he⟩
    refine ⟨l[x], List.getElem?_eq_getElem hx, ?_⟩
    rw [List.getD_eq_getElem?_getD, List.getElem?_eq_getElem hx] at he
    simpa using he
  · rintro ⟨g, hg, h0⟩
    refine ⟨(List.getElem?_eq_some_iff.1 hg).1, ?_⟩
    rw [List.getD_eq_getElem?_getD, hg]
    simp [h0]
theorem freeL_len (l : List Ga) (i : Nat) : (freeL l i).length ≤ i := by
  have := List.length_filter_le (fun x => (leansOn (l.getD x ⟨0, default, 0, 0, 0, 0⟩)).isEmpty) (List.range i)
  simpa [freeL] using this
theorem freeL_nodup (l : List Ga) (i : Nat) : (freeL l i).Nodup := List.Pairwise.filter _ List.nodup_range
/-- a list of places as a row. -/
def placesV (out : List Nat) : List Value := rowF out.length fun k => (out.getD k 0 : Int)
theorem places_snoc (out : List Nat) (x : Nat) : placesV out ++ [.int .i64 (x : Int)] = placesV (out ++ [x]) := by
  unfold placesV
  rw [List.length_append, List.length_singleton]
  refine rowF_snoc _ _ _ _ (fun j hj => ?_) ?_
  · simp [List.getElem?_append_left hj]
  · simp

theorem fam_pushNil {W : World} {B e size : Nat} {L : List Rw} (h : Fam W B e size L) (hB : B ≤ W.heap.size) : Fam W B e size (L ++ [(.slice none 0 0, 0, [])]) :=
  h.push (y := (.slice none 0 0, 0, [])) (Below.refl _ _) (World.ownsRow_nil _ _ _ _) hB
theorem fam_cell {W : World} {B : Nat} {L : List Rw} (h : Fam W B 3 1 L) {i n : Nat} {v : Value} {f : Nat → Int} (hx : L[i]? = some (v, n, rowF n f)) {g c k : Nat} (hv : v = .slice (some ⟨g, 0, none⟩) n c) (hk : k < n) : W.cell? ⟨g, k, none⟩ = some (.int .i64 (f k)) ∧ W.frozen? ⟨g, k, none⟩ = false ∧ g < W.heap.size := by
  obtain ⟨g', c', hv', _, hg, hc, hf⟩ := own_cell (h.own i _ hx) (rowF_at n f k hk)
  have hv2 : v = .slice (some ⟨g', 0, none⟩) n c' := hv'
  rw [hv] at hv2
  simp only [Value.slice.injEq, Option.some.injEq, Addr.mk.injEq, and_true, true_and] at hv2
  obtain ⟨rfl, _⟩ := hv2
  exact ⟨hc, hf, hg⟩
/-- what leans answers, in one form. -/
theorem leansV_form (g : Ga) : ∃ a0 a1 a2 : Int, leansV g = .tuple #[.int .i64 ((leansOn g).length : Int), .agg #[.int .i64 a0, .int .i64 a1, .int .i64 a2]] ∧ ∀ (k : Nat) (a : Int), (leansOn g)[k]? = some a → ([a0, a1, a2] : List Int)[k]? = some a := by
  unfold leansV leansOn
  by_cases h2 : g.kind = 2
  · simp only [h2, if_true]
    refine ⟨g.a, g.b, 0, by simp, fun k a hk => ?_⟩
    match k, hk with
    | 0, hk => exact hk
    | 1, hk => exact hk
    | k + 2, hk => simp at hk
  · by_cases h4 : g.kind = 4
    · simp only [h4, if_true]
      exact ⟨g.a, g.b, g.c, by simp, fun k a hk => by simpa using hk⟩
    · simp only [h2, h4, if_false]
      exact ⟨0, 0, 0, by simp, fun k a hk => by simp at hk⟩
/-- the five rows while lines are read. -/
structure LyA (w W : World) (l : List Ga) (wv fv nv uv ov : Value) (wf : Nat → Int) (m : Nat) (out : List Nat) : Prop where
  fam : Fam W w.heap.size 3 1 [(wv, l.length, rowF l.length wf), (fv, l.length, rowF l.length fun y => lastI (entsOf l) y m), (nv, m, rowF m fun j => lastI (entsOf l) ((entsOf l).getD j (0, 0)).1 j), (uv, m, rowF m fun j => (((entsOf l).getD j (0, 0)).2 : Int)), (ov, out.length, placesV out)]
  below : Below w.heap.size w W
theorem LyA.on {w W W' : World} {l : List Ga} {wv fv nv uv ov : Value} {wf : Nat → Int} {m : Nat} {out : List Nat} (h : LyA w W l wv fv nv uv ov wf m out) (hb : Below W.heap.size W W') : LyA w W' l wv fv nv uv ov wf m out := ⟨h.fam.below hb, h.below.trans (hb.mono h.below.size)⟩

section
variable {w W : World} {l : List Ga} {wv fv nv uv ov : Value} {wf : Nat → Int} {m : Nat} {out : List Nat}
theorem LyA.wait (h : LyA w W l wv fv nv uv ov wf m out) {k : Nat} (hk : k < l.length) {g c : Nat} (hv : wv = .slice (some ⟨g, 0, none⟩) l.length c) : W.cell? ⟨g, k, none⟩ = some (.int .i64 (wf k)) ∧ W.frozen? ⟨g, k, none⟩ = false ∧ g < W.heap.size := by
  obtain ⟨g', c', hv', _, hg, hc, hf⟩ := own_cell (h.fam.own 0 _ rfl) (rowF_at l.length wf k hk)
  rw [hv] at hv'
  simp only [Value.slice.injEq, Option.some.injEq, Addr.mk.injEq, and_true, true_and] at hv'
  obtain ⟨rfl, _⟩ := hv'
  exact ⟨hc, hf, hg⟩
theorem LyA.first (h : LyA w W l wv fv nv uv ov wf m out) {k : Nat} (hk : k < l.length) {g c : Nat} (hv : fv = .slice (some ⟨g, 0, none⟩) l.length c) : W.cell? ⟨g, k, none⟩ = some (.int .i64 (lastI (entsOf l) k m)) ∧ W.frozen? ⟨g, k, none⟩ = false ∧ g < W.heap.size := by
  obtain ⟨g', c', hv', _, hg, hc, hf⟩ := own_cell (h.fam.own 1 _ rfl) (rowF_at l.length (fun y => lastI (entsOf l) y m) k hk)
  rw [hv] at hv'
  simp only [Value.slice.injEq, Option.some.injEq, Addr.mk.injEq, and_true, true_and] at hv'
  obtain ⟨rfl, _⟩ := hv'
  exact ⟨hc, hf, hg⟩
theorem LyA.setWait (h : LyA w W l wv fv nv uv ov wf m out) {g c : Nat} (hv : wv = .slice (some ⟨g, 0, none⟩) l.length c) (k : Nat) (u : Int) (hg : w.heap.size ≤ g) : LyA w (W.setCell ⟨g, k, none⟩ (.int .i64 u)) l wv fv nv uv ov (fun x => if x = k then u else wf x) m out := by
  have h1 := h.fam.write (i := 0) rfl hv (j := k) (.int .i64 u)
  refine ⟨?_, h.below.setCell hg _⟩
  rw [← rowF_set]
  exact h1
theorem LyA.congr (h : LyA w W l wv fv nv uv ov wf m out) {wf' : Nat → Int} (hw : ∀ j, j < l.length → wf j = wf' j) : LyA w W l wv fv nv uv ov wf' m out := by
  refine ⟨?_, h.below⟩
  rw [← rowF_congr hw]
  exact h.fam
theorem last_step {E : List (Nat × Nat)} {m y x : Nat} (hE : E.getD m (0, 0) = (y, x)) (z : Nat) : lastI E z (m + 1) = if z = y then (m : Int) else lastI E z m := by
  rw [lastI, hE]
  by_cases h : y = z
  · rw [if_pos h, if_pos h.symm]
  · rw [if_neg h, if_neg (fun e => h e.symm)]
theorem lay_few {D : Nat → Bool} {q : Nat} (h : LayS l out q D) : out.length ≤ l.length := by
  apply Classical.byContradiction
  intro hn
  have hat : ∀ k, k ≤ l.length → k < out.length := fun k hk => by omega
  obtain ⟨a, b, hab, hb, e⟩ := holes l.length (fun k => out.getD k 0) (fun k hk => by
    show out.getD k 0 < l.length
    rw [List.getD_eq_getElem?_getD, List.getElem?_eq_getElem (hat k hk)]
    exact h.lt _ (List.getElem_mem _))
  have e2 : out.getD a 0 = out.getD b 0 := e
  rw [List.getD_eq_getElem?_getD, List.getD_eq_getElem?_getD, List.getElem?_eq_getElem (hat a (by omega)), List.getElem?_eq_getElem (hat b hb)] at e2
  have := (List.getElem?_inj (hat a (by omega)) h.nd).1 (show out[a]? = out[b]? by rw [List.getElem?_eq_getElem (hat a (by omega)), List.getElem?_eq_getElem (hat b hb)]; exact congrArg some e2)
  omega
/-- a user has one operand less to wait for. -/
theorem LyA.less {D D' : Nat → Bool} {k y x : Nat} (h : LyA w W l wv fv nv uv ov (fun z => (waits (entsOf l) D z : Int)) m out) (hk : k < (entsOf l).length) (hE : (entsOf l).getD k (0, 0) = (y, x)) (hDk : D k = false) (hDk' : D' k = true) (hD : ∀ j, j < (entsOf l).length → j ≠ k → D j = D' j) {g c : Nat} (hv : wv = .slice (some ⟨g, 0, none⟩) l.length c) (hg : w.heap.size ≤ g) :
    LyA w (W.setCell ⟨g, x, none⟩ (.int .i64 ((waits (entsOf l) D x : Int) - 1))) l wv fv nv uv ov (fun z => (waits (entsOf l) D' z : Int)) m out := by
  refine (h.setWait hv x _ hg).congr fun z _ => ?_
  by_cases hz : z = x
  · rw [if_pos hz, hz]
    have hw : waits (entsOf l) D x = waits (entsOf l) D' x + 1 := by
      refine cntP_less hk ?_ ?_ fun j hj hne => ?_
      · simp only [hE, hDk, decide_true, Bool.not_false, Bool.and_true]
      · simp only [hDk', Bool.not_true, Bool.and_false]
      · rw [hD j hj hne]
    omega
  · rw [if_neg hz]
    rw [waits_congr fun j hj h2 => hD j hj (by
      rintro rfl
      rw [hE] at h2
      exact hz h2.symm)]
/-- one more entry. -/
theorem LyA.entry {y x : Nat} (hE : (entsOf l).getD m (0, 0) = (y, x)) {nv' uv' : Value}
    (hF : Fam W w.heap.size 3 1 [(wv, l.length, rowF l.length wf), (fv, l.length, rowF l.length fun y => lastI (entsOf l) y m), (nv', m + 1, (rowF m fun j => lastI (entsOf l) ((entsOf l).getD j (0, 0)).1 j) ++ [.int .i64 (lastI (entsOf l) y m)]), (uv', m + 1, (rowF m fun j => (((entsOf l).getD j (0, 0)).2 : Int)) ++ [.int .i64 (x : Int)]), (ov, out.length, placesV out)])
    (hB : Below w.heap.size w W) {g c : Nat} (hv : fv = .slice (some ⟨g, 0, none⟩) l.length c) (hg : w.heap.size ≤ g) : LyA w (W.setCell ⟨g, y, none⟩ (.int .i64 (m : Int))) l wv fv nv' uv' ov wf (m + 1) out := by
  rw [rowF_snoc m (fun j => lastI (entsOf l) ((entsOf l).getD j (0, 0)).1 j) _ (fun j => lastI (entsOf l) ((entsOf l).getD j (0, 0)).1 j) (fun j _ => rfl) (by rw [hE]), rowF_snoc m (fun j => (((entsOf l).getD j (0, 0)).2 : Int)) _ (fun j => (((entsOf l).getD j (0, 0)).2 : Int)) (fun j _ => rfl) (by rw [hE])] at hF
  have h1 := hF.write (i := 1) rfl hv (j := y) (.int .i64 (m : Int))
  refine ⟨?_, hB.setCell hg _⟩
  have h2 : (rowF l.length fun z => lastI (entsOf l) z m).set y (.int .i64 (m : Int)) = rowF l.length fun z => lastI (entsOf l) z (m + 1) := by
    rw [rowF_set]
    exact rowF_congr fun z _ => (last_step hE z).symm
  rw [← h2]
  exact h1
end

set_option maxHeartbeats 1000000 in
set_option maxRecDepth 100000 in
theorem layers_any (l : List Ga) (sg : Option Addr) (cg : Nat) (w : World) (hc : CellsAt w sg (gas l)) (hl : l.length ≤ 65536) (hp : ∀ (i : Nat) (g : Ga), l[i]? = some g → ∀ a ∈ leansOn g, 0 ≤ a ∧ a < (l.length : Int)) :
    Calls Tryd.prog 86 #[.slice sg l.length cg] w fun e w' => ∃ v out, e = .returned v ∧ w'.ownsRow w.heap.size 3 1 v out.length (placesV out) ∧ Below w.heap.size w w' ∧ LayS l out out.length (fun j => decide (((entsOf l).getD j (0, 0)).1 ∈ out.take out.length)) := by
  obtain ⟨n, hn⟩ : ∃ n, n = l.length := ⟨_, rfl⟩
  have HC := hid hc
  have HP := hid hp
  have HN := hid hn
  have hmk : ∀ W : World, (Instr.makeSlice 22 (.int .i64 (n : Int)) (.int .i64 (n : Int))).run Tryd.prog W = .ok (.slice (some ⟨W.heap.size, 0, none⟩) n n) (W.alloc (.cells (madeCells #[.int .i64 0] n) 3)) := fun W =>
    run_make_row' (P := Tryd.prog) 22 3 (.int .i64 0) 8 Tryd.underlying22 info3 rfl .i64 .i64 n (by omega) (by omega) W
  have hl' : n ≤ 65536 := by omega
  rw [← hn]
  clear hc hp hn hl
  go_enter Tryd.func86, Tryd.ntmps86
  go_wp2
  obtain ⟨X, hX⟩ : ∃ X, X = (w.alloc (.cells (madeCells #[.int .i64 0] n) 3)).alloc (.cells (madeCells #[.int .i64 0] n) 3) := ⟨_, rfl⟩
  have HF0 : Hid (Fam X w.heap.size 3 1 [(.slice (some ⟨w.heap.size, 0, none⟩) n n, n, rowF n fun _ => 0), (.slice (some ⟨w.heap.size + 1, 0, none⟩) n n, n, rowF n fun _ => 0)] ∧ Below w.heap.size w X) := by
    have h1 := (Fam.nil w w.heap.size 3 1).push (y := (.slice (some ⟨w.heap.size, 0, none⟩) n n, n, rowF n fun _ => 0)) ((Below.refl _ _).alloc (Nat.le_refl _) (.cells (madeCells #[.int .i64 0] n) 3)) (made_row w n hl') (Nat.le_refl _)
    have h2 := h1.push (y := (.slice (some ⟨w.heap.size + 1, 0, none⟩) n n, n, rowF n fun _ => 0)) ((Below.refl _ _).alloc (Nat.le_refl _) (.cells (madeCells #[.int .i64 0] n) 3)) (by
      have := made_row (w.alloc (.cells (madeCells #[.int .i64 0] n) 3)) n hl'
      simpa using this) (by simp)
    rw [hX]
    exact ⟨h2, ((Below.refl _ _).alloc (Nat.le_refl _) _).alloc (by simp) _⟩
  rw [← hX]
  clear hX hmk
  go_loopw [8] (fun iv W => ∃ i : Nat, i ≤ n ∧ iv = .int .i64 (i : Int) ∧ Hid (Fam W w.heap.size 3 1 [(.slice (some ⟨w.heap.size, 0, none⟩) n n, n, rowF n fun _ => 0), (.slice (some ⟨w.heap.size + 1, 0, none⟩) n n, n, rowF n fun x => if x < i then -1 else 0)] ∧ Below w.heap.size w W)) (fun iv _ => n - (intOf iv).toNat)
  case atStart => exact ⟨0, Nat.zero_le _, rfl, by
    have h := HF0.out
    refine ⟨?_, h.2⟩
    rw [show (rowF n fun x => if x < 0 then (-1 : Int) else 0) = rowF n fun _ => 0 from rowF_congr (fun j _ => by simp)]
    exact h.1⟩
  case round =>
    obtain ⟨i, hi, rfl, HR⟩ := hrel
    by_cases hlt : i < n
    · obtain ⟨hF, hB⟩ := HR.out
      obtain ⟨g, c, hv, _, hg, hc0, hf0⟩ := own_cell (hF.own 1 _ rfl) (rowF_at n _ i hlt)
      have hv2 := hv
      simp only [Value.slice.injEq, Option.some.injEq, Addr.mk.injEq, and_true, true_and] at hv
      obtain ⟨rfl, rfl⟩ := hv
      have HR2 : Hid (Fam (wr.setCell ⟨w.heap.size + 1, i, none⟩ (.int .i64 (-1))) w.heap.size 3 1 [(.slice (some ⟨w.heap.size, 0, none⟩) n n, n, rowF n fun _ => 0), (.slice (some ⟨w.heap.size + 1, 0, none⟩) n n, n, rowF n fun x => if x < i + 1 then -1 else 0)] ∧ Below w.heap.size w (wr.setCell ⟨w.heap.size + 1, i, none⟩ (.int .i64 (-1)))) := by
        have h1 := hF.write (i := 1) rfl hv2 (j := i) (.int .i64 (-1))
        refine ⟨?_, hB.setCell (by simp) _⟩
        have h3 : (rowF n fun x => if x < i then (-1 : Int) else 0).set i (.int .i64 (-1)) = rowF n fun x => if x < i + 1 then -1 else 0 := by
          rw [rowF_set]
          refine rowF_congr fun j hj => ?_
          by_cases hji : j = i
          · simp [hji]
          · rw [if_neg hji]
            by_cases hj2 : j < i
            · rw [if_pos hj2, if_pos (by omega)]
            · rw [if_neg hj2, if_neg (by omega)]
        rw [← h3]
        exact h1
      clear HR hF hB hv2
      go_wp2
      exact ⟨⟨i + 1, hlt, by go_num, HR2.out⟩, by simp [intOf]; omega⟩
    · obtain rfl : i = n := by omega
      have HA : Hid (LyA w wr l (.slice (some ⟨w.heap.size, 0, none⟩) i i) (.slice (some ⟨w.heap.size + 1, 0, none⟩) i i) (.slice none 0 0) (.slice none 0 0) (.slice none 0 0) (fun _ => 0) 0 []) := by
        obtain ⟨hF, hB⟩ := HR.out
        refine ⟨?_, hB⟩
        have h5 := fam_pushNil (fam_pushNil (fam_pushNil hF hB.size) hB.size) hB.size
        rw [← HN.out, show (rowF i fun y => lastI (entsOf l) y 0) = rowF i fun x => if x < i then -1 else 0 from rowF_congr (fun j hj => by rw [if_pos hj]; rfl)]
        exact h5
      clear HR HF0
      obtain ⟨wv, hwv⟩ : ∃ v, v = Value.slice (some ⟨w.heap.size, 0, none⟩) i i := ⟨_, rfl⟩
      obtain ⟨fv, hfv⟩ : ∃ v, v = Value.slice (some ⟨w.heap.size + 1, 0, none⟩) i i := ⟨_, rfl⟩
      rw [← hwv, ← hfv] at HA
      go_wp2
      go_loopw [5, 6, 7, 9] (fun nv uv ov iv W => ∃ k : Nat, k ≤ i ∧ iv = .int .i64 (k : Int) ∧ Hid (LyA w W l wv fv nv uv ov (fun x => if x < k then ((leansOn (l.getD x ⟨0, default, 0, 0, 0, 0⟩)).length : Int) else 0) (entsOf (l.take k)).length (freeL l k))) (fun _ _ _ iv _ => i - (intOf iv).toNat)
      case atStart =>
        refine ⟨0, Nat.zero_le _, rfl, ?_⟩
        show LyA _ _ _ _ _ _ _ _ _ _ _
        have h := HA.out
        refine ⟨?_, h.below⟩
        rw [show (rowF l.length fun x => if x < 0 then ((leansOn (l.getD x ⟨0, default, 0, 0, 0, 0⟩)).length : Int) else 0) = rowF l.length fun _ => 0 from rowF_congr (fun j _ => by simp)]
        exact h.fam
      case round =>
        obtain ⟨k, hk, rfl, HL⟩ := hrel
        clear HA
        by_cases hlt2 : k < i
        · obtain ⟨g, hg⟩ : ∃ g, l[k]? = some g := ⟨_, List.getElem?_eq_getElem (by rw [← HN.out]; exact hlt2)⟩
          obtain ⟨b, o, rfl, hb, d0, d1, d2, d3, d4, d5⟩ := gate_at (HC.out.below HL.out.below) k g hg
          obtain ⟨a0, a1, a2, hlv, hak⟩ := leansV_form g
          have HLE := hid (fun W => leans_any g W)
          rw [hlv] at HLE
          obtain ⟨cnt, hcnt⟩ : ∃ c, c = (leansOn g).length := ⟨_, rfl⟩
          rw [← hcnt] at HLE
          have hcnt3 : cnt ≤ 3 := by rw [hcnt]; exact leans_len g
          have HCNT := hid hcnt
          have HG := hid hg
          have HAK := hid hak
          clear hg hlv hak hcnt
          have HKL : Hid (k < l.length) := by rw [← HN.out]; exact hlt2
          go_wp2_with (go_at_call 47; refine Calls.mono (HLE.out _) ?_; rintro e w1 ⟨rfl, b1⟩; have HL1 : Hid (∀ o, LyA w (w1.alloc o) l wv fv u5 u6 u7 (fun x => if x < k then ((leansOn (l.getD x ⟨0, default, 0, 0, 0, 0⟩)).length : Int) else 0) (entsOf (l.take k)).length (freeL l k)) := (fun o => (HL.out.on b1).on ((Below.refl _ _).alloc (Nat.le_refl _) o)); have cw : ∀ o, (w1.alloc o).cell? ⟨w.heap.size, k, none⟩ = some (.int .i64 (if k < k then ((leansOn (l.getD k ⟨0, default, 0, 0, 0, 0⟩)).length : Int) else 0)) := (fun o => ((HL1.out o).wait HKL.out (by rw [hwv, HN.out])).1); have fw : ∀ o, (w1.alloc o).frozen? ⟨w.heap.size, k, none⟩ = false := (fun o => ((HL1.out o).wait HKL.out (by rw [hwv, HN.out])).2.1); have hszw : w.heap.size + 1 < w1.heap.size := Nat.lt_of_lt_of_le (HL.out.first HKL.out (by rw [hfv, HN.out])).2.2 b1.size; clear b1)
          obtain ⟨m, hm⟩ : ∃ m, m = (entsOf (l.take k)).length := ⟨_, rfl⟩
          have HM := hid hm
          have hm3 : m ≤ 196608 := by
            have := ents_take_len l k (by have := HKL.out; omega)
            omega
          rw [← hm] at HL1
          obtain ⟨Y, hY⟩ : ∃ Y, Y = (w1.alloc (Obj.cells #[Value.int IntKind.i64 a0, Value.int IntKind.i64 a1, Value.int IntKind.i64 a2] 79)).setCell ⟨w.heap.size, k, none⟩ (Value.int IntKind.i64 (cnt : Int)) := ⟨_, rfl⟩
          have HY : Hid (LyA w Y l wv fv u5 u6 u7 (fun x => if x < k + 1 then ((leansOn (l.getD x ⟨0, default, 0, 0, 0, 0⟩)).length : Int) else 0) m (freeL l k)) := by
            rw [hY]
            refine ((HL1.out _).setWait (by rw [hwv, HN.out]) k (cnt : Int) (Nat.le_refl _)).congr fun j _ => ?_
            by_cases hjk : j = k
            · rw [if_pos hjk, if_pos (by omega), hjk, HCNT.out, show l.getD k ⟨0, default, 0, 0, 0, 0⟩ = g by rw [List.getD_eq_getElem?_getD, HG.out]; rfl]
            · rw [if_neg hjk]
              by_cases hjl : j < k
              · rw [if_pos hjl, if_pos (by omega)]
              · rw [if_neg hjl, if_neg (by omega)]
          have HRY : Hid (Y.heap[w1.heap.size]? = some (.cells #[Value.int IntKind.i64 a0, Value.int IntKind.i64 a1, Value.int IntKind.i64 a2] 79 (0, 0))) := by
            rw [hY]
            exact (Below.heap_setCell _ _ _ _ (show w1.heap.size ≠ w.heap.size by omega)).trans (heap_alloc_new w1 _)
          rw [← hY]
          clear hY HL1 cw fw HLE d0 d1 d2 d3 d4 d5 HL hm
          go_loopw [5, 6, 12] (fun nv uv tv W => ∃ t : Nat, t ≤ cnt ∧ tv = .int .i64 (t : Int) ∧ Hid (LyA w W l wv fv nv uv u7 (fun x => if x < k + 1 then ((leansOn (l.getD x ⟨0, default, 0, 0, 0, 0⟩)).length : Int) else 0) (m + t) (freeL l k) ∧ W.heap[w1.heap.size]? = some (.cells #[Value.int IntKind.i64 a0, Value.int IntKind.i64 a1, Value.int IntKind.i64 a2] 79 (0, 0)))) (fun _ _ tv _ => cnt - (intOf tv).toNat)
          case atStart => exact ⟨0, Nat.zero_le _, rfl, HY.out, HRY.out⟩
          case round =>
            obtain ⟨t, ht, rfl, HT⟩ := hrel
            clear HY HRY
            by_cases htl : t < cnt
            · obtain ⟨av, hav⟩ : ∃ a, (leansOn g)[t]? = some a := ⟨_, List.getElem?_eq_getElem (by rw [← HCNT.out]; exact htl)⟩
              obtain ⟨av0, av1⟩ := HP.out k g HG.out av (List.mem_of_getElem? hav)
              obtain ⟨y, rfl⟩ := Int.eq_ofNat_of_zero_le av0
              have hyn : y < i := by rw [HN.out]; omega
              have HE := hid (ents_at l k t g _ HG.out hav)
              have HCR : Hid (∀ W : World, W.heap[w1.heap.size]? = some (.cells #[Value.int IntKind.i64 a0, Value.int IntKind.i64 a1, Value.int IntKind.i64 a2] 79 (0, 0)) → W.cell? ⟨w1.heap.size, t, none⟩ = some (.int .i64 (y : Int))) := fun W hW => by
                rw [cell_row hW]
                have := HAK.out t _ hav
                match t, this with
                | 0, h => simp at h; simp [h]
                | 1, h => simp at h; simp [h]
                | 2, h => simp at h; simp [h]
              have car := HCR.out wr HT.out.2
              have car1 := (Array.getElem?_eq_some_iff.1 HT.out.2).1
              obtain ⟨cf, ff, fl⟩ := HT.out.1.first (k := y) (by rw [← HN.out]; exact hyn) (by rw [hfv, HN.out])
              obtain ⟨la, hla⟩ : ∃ a, a = lastI (entsOf l) y (m + t) := ⟨_, rfl⟩
              rw [← hla] at cf
              have HLA := hid hla
              clear hav av0 av1 hla
              go_wp2_with (first
                | (have q := HF2; clear q; at_builtin; refine fam_app rfl _ _ rfl HF2.out HB2.out 3 _ rfl (k : Int) _ _ rfl rfl rfl (by show m + t ≤ _; omega) ?_; intro sx3 cx3 w3 hf3 hb3 hk3; have HF3 := hid hf3; have HB3 := hid hb3; have HR3 := hid (hk3 _ _ _ _ HR2.out (by decide)); have car3 := HCR.out w3 HR3.out; have car3l := (Array.getElem?_eq_some_iff.1 HR3.out).1; obtain ⟨cf3, ff3, fl3⟩ := fam_cell HF3.out (i := 1) rfl (by rw [hfv, HN.out]) (k := y) (by rw [← HN.out]; exact hyn); clear hf3 hb3 hk3)
                | (at_builtin; refine fam_app rfl _ _ rfl HT.out.1.fam HT.out.1.below 2 _ rfl la _ _ rfl rfl rfl (by show m + t ≤ _; omega) ?_; intro sx2 cx2 w2 hf2 hb2 hk2; have HF2 := hid hf2; have HB2 := hid hb2; have HR2 := hid (hk2 _ _ _ _ HT.out.2 (by decide)); clear hf2 hb2 hk2))
              have hE2 : (entsOf l).getD (m + t) (0, 0) = (y, k) := by
                have := HE.out.1
                rw [← HM.out] at this
                simpa using this
              have hF3 := HF3.out
              rw [HLA.out] at hF3
              have hA3 := LyA.entry (g := w.heap.size + 1) hE2 hF3 HB3.out (by rw [hfv, HN.out]) (by omega)
              have hR3 : (w3.setCell ⟨w.heap.size + 1, y, none⟩ (Value.int IntKind.i64 ((m : Int) + (t : Int)))).heap[w1.heap.size]? = some (.cells #[Value.int IntKind.i64 a0, Value.int IntKind.i64 a1, Value.int IntKind.i64 a2] 79 (0, 0)) := (Below.heap_setCell _ _ _ _ (show w1.heap.size ≠ w.heap.size + 1 by omega)).trans HR3.out
              rw [show ((m + t : Nat) : Int) = (m : Int) + (t : Int) by omega] at hA3
              exact ⟨⟨t + 1, htl, by go_num, hA3, hR3⟩, by simp [intOf]; omega⟩
            · obtain rfl : t = cnt := by omega
              have hlen : m + t = (entsOf (l.take (k + 1))).length := by rw [ents_take l k g HG.out, List.length_append, List.length_map, ← HM.out, ← HCNT.out]
              have HT1 := hid HT.out.1
              rw [hlen] at HT1
              have hfr := freeL_succ l k g HG.out
              have hfl := freeL_len l k
              clear HT
              by_cases hz : t = 0
              · have h0 : leansOn g = [] := List.eq_nil_of_length_eq_zero (by rw [← HCNT.out]; exact hz)
                rw [if_pos h0] at hfr
                have HFR := hid hfr
                clear hfr h0 hlen
                subst hz
                go_wp2_with (first
                  | (at_builtin; refine fam_app rfl _ _ rfl HT1.out.fam HT1.out.below 4 _ rfl (k : Int) _ _ rfl rfl rfl (by show (freeL l k).length ≤ _; omega) ?_; intro sx2 cx2 w2 hf2 hb2 _; have HF2 := hid hf2; have HB2 := hid hb2; clear hf2 hb2))
                refine ⟨⟨k + 1, hlt2, by go_num, ?_⟩, by simp [intOf]; omega⟩
                show LyA _ _ _ _ _ _ _ _ _ _ _
                refine ⟨?_, HB2.out⟩
                rw [HFR.out, ← places_snoc, List.length_append, List.length_singleton]
                exact HF2.out
              · have h0 : leansOn g ≠ [] := fun e => hz (by rw [HCNT.out, e]; rfl)
                rw [if_neg h0, List.append_nil] at hfr
                have HFR := hid hfr
                have hzi : ((t : Int) == 0) = false := by rw [beq_eq_false_iff_ne]; omega
                clear hfr h0 hlen
                go_wp2
                refine ⟨⟨k + 1, hlt2, by go_num, ?_⟩, by simp [intOf]; omega⟩
                show LyA _ _ _ _ _ _ _ _ _ _ _
                rw [HFR.out]
                exact HT1.out
        · obtain rfl : k = i := by omega
          obtain ⟨M, hM⟩ : ∃ M, M = (entsOf l).length := ⟨_, rfl⟩
          have HM := hid hM
          have hM3 : M ≤ 196608 := by
            have := ents_len l
            rw [← HN.out] at this
            omega
          have HC0 : Hid (LyA w wr l wv fv u5 u6 u7 (fun x => (waits (entsOf l) (fun j => decide (((entsOf l).getD j (0, 0)).1 ∈ (freeL l l.length).take 0)) x : Int)) M (freeL l l.length) ∧ LayS l (freeL l l.length) 0 (fun j => decide (((entsOf l).getD j (0, 0)).1 ∈ (freeL l l.length).take 0))) := by
            have h := HL.out
            rw [HN.out, List.take_length, ← HM.out] at h
            refine ⟨h.congr fun j hj => ?_, LayS.start (freeL_nodup l _) (freeL_mem l)⟩
            rw [if_pos hj, waits_first l _ j l[j] (List.getElem?_eq_getElem hj), List.getD_eq_getElem?_getD, List.getElem?_eq_getElem hj]
            rfl
          clear HL hM hlt2
          go_wp2
          go_loopw [7, 13] (fun ov qv W => ∃ (q : Nat) (out : List Nat), q ≤ out.length ∧ qv = .int .i64 (q : Int) ∧ Hid (LyA w W l wv fv u5 u6 ov (fun x => (waits (entsOf l) (fun j => decide (((entsOf l).getD j (0, 0)).1 ∈ out.take q)) x : Int)) M out ∧ LayS l out q (fun j => decide (((entsOf l).getD j (0, 0)).1 ∈ out.take q)))) (fun _ qv _ => k + 1 - (intOf qv).toNat)
          case atStart => exact ⟨0, _, Nat.zero_le _, rfl, HC0.out⟩
          case round =>
            obtain ⟨q, out, hq, rfl, HQ⟩ := hrel
            clear HC0
            have hfew := lay_few HQ.out.2
            rw [← HN.out] at hfew
            obtain ⟨so, co, hov⟩ := own_shape (HQ.out.1.fam.own 4 _ rfl)
            simp only at hov
            subst hov
            by_cases hqo : q < out.length
            · obtain ⟨y, hy⟩ : ∃ y, out[q]? = some y := ⟨_, List.getElem?_eq_getElem hqo⟩
              have hyl := HQ.out.2.lt y (List.mem_of_getElem? hy)
              rw [← HN.out] at hyl
              obtain ⟨go, co', hso, _, hgo, cq, _⟩ := own_cell (HQ.out.1.fam.own 4 _ rfl) (rowF_at out.length (fun k => (out.getD k 0 : Int)) q hqo)
              simp only [Value.slice.injEq, true_and] at hso
              obtain ⟨rfl, rfl⟩ := hso
              have hyd : (out.getD q 0 : Int) = (y : Int) := by rw [List.getD_eq_getElem?_getD, hy]; rfl
              rw [hyd] at cq
              obtain ⟨cf, _, fl⟩ := HQ.out.1.first (k := y) (by rw [← HN.out]; exact hyl) (by rw [hfv, HN.out])
              obtain ⟨e0, he0⟩ : ∃ e, e = lastI (entsOf l) y M := ⟨_, rfl⟩
              rw [← he0] at cf
              have HI : Hid (LyA w wr l wv fv u5 u6 (.slice (some ⟨go, 0, none⟩) out.length co) (fun x => (waits (entsOf l) (doneAt (entsOf l) out q e0) x : Int)) M out ∧ LayS l out q (doneAt (entsOf l) out q e0)) := by
                rw [he0, HM.out]
                refine ⟨?_, HQ.out.2.enter hy⟩
                have h1 := HQ.out.1
                rw [HM.out] at h1
                refine h1.congr fun j _ => ?_
                rw [waits_congr fun i hi _ => done_enter hy i hi]
              have hbnd := lastI_lt (entsOf l) y M
              have hhit := fun kk => lastI_hit (entsOf l) y M kk
              rw [← he0] at hbnd hhit
              have HHIT := hid hhit
              have HY0 := hid hy
              clear HQ he0 hyd hhit hy
              go_wp2
              go_loopw [7, 14] (fun ov ev W => ∃ (e : Int) (out1 : List Nat), ev = .int .i64 e ∧ -1 ≤ e ∧ e < (M : Int) ∧ Hid (out1[q]? = some y ∧ (∀ kk : Nat, e = (kk : Int) → ((entsOf l).getD kk (0, 0)).1 = y) ∧ LyA w W l wv fv u5 u6 ov (fun x => (waits (entsOf l) (doneAt (entsOf l) out1 q e) x : Int)) M out1 ∧ LayS l out1 q (doneAt (entsOf l) out1 q e))) (fun _ ev _ => (intOf ev + 1).toNat)
              case atStart => exact ⟨e0, out, rfl, hbnd.1, hbnd.2, HY0.out, fun kk h => (HHIT.out kk h).2.1, HI.out.1, HI.out.2⟩
              case round =>
                obtain ⟨e, out1, rfl, he1, he2, HJ⟩ := hrel
                clear HI HHIT HY0 cq cf fl hbnd
                by_cases hen : e < 0
                · obtain ⟨h1, _, h3, h4⟩ := HJ.out
                  have HNX : Hid (LyA w wr l wv fv u5 u6 u7 (fun x => (waits (entsOf l) (fun j => decide (((entsOf l).getD j (0, 0)).1 ∈ out1.take (q + 1))) x : Int)) M out1 ∧ LayS l out1 (q + 1) (fun j => decide (((entsOf l).getD j (0, 0)).1 ∈ out1.take (q + 1)))) := by
                    refine ⟨h3.congr fun j _ => ?_, h4.leave h1 hen⟩
                    rw [waits_congr fun i _ _ => done_leave h1 hen i]
                  have hq1 := (List.getElem?_eq_some_iff.1 h1).1
                  have hfew1 := lay_few h4
                  rw [← HN.out] at hfew1
                  clear h1 h3 h4 HJ
                  go_wp2
                  exact ⟨⟨q + 1, out1, hq1, by go_num, HNX.out⟩, by simp [intOf]; omega⟩
                · obtain ⟨kk, rfl⟩ := Int.eq_ofNat_of_zero_le (show 0 ≤ e by omega)
                  obtain ⟨h1, h2, h3, h4⟩ := HJ.out
                  have hk0 : kk < M := by omega
                  have hk1 : kk < (entsOf l).length := by rw [← HM.out]; exact hk0
                  obtain ⟨x, hx⟩ : ∃ x, (entsOf l).getD kk (0, 0) = (y, x) := ⟨((entsOf l).getD kk (0, 0)).2, by rw [← h2 kk rfl]⟩
                  have hxl : x < l.length := by
                    have hmem := getD_mem hk1
                    rw [hx] at hmem
                    obtain ⟨g, a, hg, _, _⟩ := (ents_mem l y x).1 hmem
                    exact (List.getElem?_eq_some_iff.1 hg).1
                  have hxi : x < k := by rw [HN.out]; exact hxl
                  obtain ⟨gu, cu, hvu, _, hgu, cuu, _⟩ := own_cell (h3.fam.own 3 _ rfl) (rowF_at M (fun j => (((entsOf l).getD j (0, 0)).2 : Int)) kk hk0)
                  obtain ⟨gn, cn, hvn, _, hgn, cnn, _⟩ := own_cell (h3.fam.own 2 _ rfl) (rowF_at M (fun j => lastI (entsOf l) ((entsOf l).getD j (0, 0)).1 j) kk hk0)
                  simp only at hvu hvn
                  rw [hx] at cuu cnn
                  subst hvu hvn
                  obtain ⟨cw, fw, wl⟩ := h3.wait hxl (by rw [hwv, HN.out])
                  obtain ⟨hd1, hd2, hd3⟩ := done_next (l := l) h4.nd h1 (by rw [hx])
                  obtain ⟨hw1, hz1, hz2⟩ := h4.one hk1 hx h1 hxl hd1 hd2 hd3
                  have hless := h3.less hk1 hx hd1 hd2 hd3 (by rw [hwv, HN.out]) (Nat.le_refl _)
                  obtain ⟨e1, hee1⟩ : ∃ e1, e1 = lastI (entsOf l) y kk := ⟨_, rfl⟩
                  have hb1 := lastI_lt (entsOf l) y kk
                  have hh1 := fun j => lastI_hit (entsOf l) y kk j
                  simp only at cnn
                  rw [← hee1] at cnn hb1 hh1 hd2 hd3 hw1 hz1 hz2 hless
                  obtain ⟨wx, hwx⟩ : ∃ a, a = waits (entsOf l) (doneAt (entsOf l) out1 q kk) x := ⟨_, rfl⟩
                  obtain ⟨wx', hwx'⟩ : ∃ a, a = waits (entsOf l) (doneAt (entsOf l) out1 q e1) x := ⟨_, rfl⟩
                  rw [← hwx] at cw hw1 hless
                  rw [← hwx'] at hw1 hz1 hz2
                  have hwb : wx ≤ M := by rw [hwx, HM.out]; exact cntP_le _ _
                  have hq1 := (List.getElem?_eq_some_iff.1 h1).1
                  have hfew1 := lay_few h4
                  rw [← HN.out] at hfew1
                  have HH1 := hid h1
                  have HHH := hid hh1
                  have HLS := hid hless
                  have HZ1 := hid hz1
                  have HZ2 := hid hz2
                  have zu := (fam_cell hless.fam (i := 3) rfl rfl hk0).1
                  have zul := (fam_cell hless.fam (i := 3) rfl rfl hk0).2.2
                  have HX := hid hx
                  have HEE := hid hee1
                  have HZN : Hid (∀ (W : World) (L : List Rw), Fam W w.heap.size 3 1 L → L[2]? = some (.slice (some ⟨gn, 0, none⟩) M cn, M, rowF M fun j => lastI (entsOf l) ((entsOf l).getD j (0, 0)).1 j) → W.cell? ⟨gn, kk, none⟩ = some (.int .i64 e1) ∧ gn < W.heap.size) := fun W L hF hL => by
                    have h := fam_cell hF hL rfl hk0
                    have h1 := h.1
                    rw [HX.out] at h1
                    rw [HEE.out]
                    exact ⟨h1, h.2.2⟩
                  rw [hx] at zu
                  have HD : Hid (∀ z, doneAt (entsOf l) (out1 ++ [x]) q e1 z = doneAt (entsOf l) out1 q e1 z) := fun z => doneAt_app _ _ _ _ _ _ hq1
                  clear hwx hwx' hless hh1 h1 h2 h3 h4 hz1 hz2 hd1 hd2 hd3 HJ hx hee1
                  by_cases hone : wx = 1
                  · have hw0 : wx' = 0 := by omega
                    have HNL := hid (HZ1.out hw0)
                    subst hone
                    rw [show ((1 : Nat) : Int) - 1 = 0 by decide] at HLS zu zul
                    clear hw1 hw0 HZ1 HZ2
                    go_wp2_with (first
                      | (at_builtin; refine fam_app rfl _ _ rfl HLS.out.fam HLS.out.below 4 _ rfl (x : Int) _ _ (by simp [World.setCell]) rfl rfl (by show out1.length ≤ _; omega) ?_; intro sx2 cx2 w2 hf2 hb2 _; have HF2 := hid hf2; have HB2 := hid hb2; have zn := (HZN.out w2 _ hf2 rfl).1; have znl := (HZN.out w2 _ hf2 rfl).2; clear hf2 hb2))
                    refine ⟨⟨e1, out1 ++ [x], rfl, hb1.1, by omega, ?_⟩, by simp [intOf]; omega⟩
                    refine ⟨by rw [List.getElem?_append_left hq1]; exact HH1.out, fun j h => (HHH.out j h).2.1, ?_, HNL.out.congr fun j _ => (HD.out j).symm⟩
                    have hA : LyA w w2 l wv fv (.slice (some ⟨gn, 0, none⟩) M cn) (.slice (some ⟨gu, 0, none⟩) M cu) (.slice sx2 (out1.length + 1) cx2) (fun z => (waits (entsOf l) (doneAt (entsOf l) out1 q e1) z : Int)) M (out1 ++ [x]) := by
                      refine ⟨?_, HB2.out⟩
                      rw [← places_snoc, List.length_append, List.length_singleton]
                      exact HF2.out
                    refine hA.congr fun j _ => ?_
                    rw [waits_congr fun i _ _ => (HD.out i).symm]
                  · have hw0 : wx' ≠ 0 := by
                      intro h
                      omega
                    have HNL := hid (HZ2.out hw0)
                    have hne : ((wx : Int) - 1 == 0) = false := by rw [beq_eq_false_iff_ne]; omega
                    have zn := (HZN.out _ _ HLS.out.fam rfl).1
                    have znl := (HZN.out _ _ HLS.out.fam rfl).2
                    clear hw1 hw0 HZ1 HZ2
                    go_wp2
                    refine ⟨⟨e1, out1, rfl, hb1.1, by omega, HH1.out, fun j h => (HHH.out j h).2.1, HLS.out, HNL.out⟩, by simp [intOf]; omega⟩
            · obtain rfl : q = out.length := by omega
              have HO := hid (HQ.out.1.fam.own 4 _ rfl)
              have HB := hid HQ.out.1.below
              have HLS := hid HQ.out.2
              clear HQ
              go_wp2
              go_ret
              exact ⟨_, rfl, out, HO.out, HB.out, by have h := HLS.out; simpa using h⟩
end Go.Proofs.YtfmmmhcpdinhgaaDoor
/-
  A search along the lines that lean: plain mathematics.
-/
namespace PureNet
set_option maxRecDepth 100000

theorem way_trans {l : List Ga} {i j k : Nat} (h : Way l i j) (h2 : Way l j k) : Way l i k := by
  induction h using PureNet.Way.ind with
  | one h1 => exact .more h1 h2
  | more h1 _ ih => exact .more h1 (ih h2)
/-- whoever is on a circle's way is in a circle. -/
theorem way_back {l : List Ga} {i j : Nat} (h : Way l i j) (h2 : Way l j i) : Way l j j := way_trans h2 h

def cntF (met : List Bool) : Nat := (met.filter fun b => !b).length
theorem cntF_set {met : List Bool} {y : Nat} (h : met[y]? = some false) : cntF (met.set y true) + 1 = cntF met := by
  unfold cntF
  induction met generalizing y with
  | nil => simp at h
  | cons b r ih =>
    cases y with
    | zero => simp at h; subst h; simp
    | succ y =>
      have := ih (y := y) (by simpa using h)
      cases b <;> simp at this ⊢ <;> omega

/-- what is known while lines are searched: cur: the line at hand, and how many of its operands have been seen. -/
structure Sea (l : List Ga) (fr : Nat) (ok : Nat → Bool) (met : List Bool) (work : List Nat) (cur : Nat → List Int → Prop) : Prop where
  len : met.length = l.length
  reach : ∀ x, met[x]? = some true → Way l fr x
  work_ : ∀ x ∈ work, x = fr ∨ met[x]? = some true
  closed : ∀ x, (x = fr ∨ met[x]? = some true) → x ∉ work → ∀ g, l[x]? = some g → cur x (leansOn g) ∨ ∀ a ∈ leansOn g, a.toNat ≠ fr ∧ (ok a.toNat = true → met[a.toNat]? = some true)
def nobody : Nat → List Int → Prop := fun _ _ => False
/-- one line, of whose operands the first t have been seen. -/
def seen (fr : Nat) (ok : Nat → Bool) (met : List Bool) (i t : Nat) : Nat → List Int → Prop := fun x asx => x = i ∧ ∀ (k : Nat) (a : Int), k < t → asx[k]? = some a → a.toNat ≠ fr ∧ (ok a.toNat = true → met[a.toNat]? = some true)
theorem Sea.start {l : List Ga} {fr : Nat} {ok : Nat → Bool} : Sea l fr ok (List.replicate l.length false) [fr] nobody := by
  refine ⟨by simp, fun x hx => ?_, fun x hx => .inl (by simpa using hx), fun x hx hw => ?_⟩
  · rw [List.getElem?_replicate] at hx
    split at hx <;> simp at hx
  · rcases hx with h | h
    · exact absurd (by simp [h]) hw
    · rw [List.getElem?_replicate] at h
      split at h <;> simp at h
/-- the last one is taken up. -/
theorem Sea.pop {l : List Ga} {fr i : Nat} {ok : Nat → Bool} {met : List Bool} {work : List Nat} (h : Sea l fr ok met (work ++ [i]) nobody) : Sea l fr ok met work (seen fr ok met i 0) ∧ (i = fr ∨ met[i]? = some true) := by
  refine ⟨⟨h.len, h.reach, fun x hx => h.work_ x (List.mem_append_left _ hx), fun x hx hw g hg => ?_⟩, h.work_ i (by simp)⟩
  by_cases hxi : x = i
  · exact .inl ⟨hxi, fun k a hk => by omega⟩
  · rcases h.closed x hx (by simp [hw, hxi]) g hg with h1 | h1
    · exact h1.elim
    · exact .inr h1
/-- an operand is passed by. -/
theorem Sea.pass {l : List Ga} {fr i t : Nat} {ok : Nat → Bool} {met : List Bool} {work : List Nat} (h : Sea l fr ok met work (seen fr ok met i t)) {g : Ga} {a : Int} (hg : l[i]? = some g) (ha : (leansOn g)[t]? = some a) (hne : a.toNat ≠ fr) (hok : ok a.toNat = true → met[a.toNat]? = some true) : Sea l fr ok met work (seen fr ok met i (t + 1)) := by
  refine ⟨h.len, h.reach, h.work_, fun x hx hw g' hg' => ?_⟩
  rcases h.closed x hx hw g' hg' with ⟨rfl, h1⟩ | h1
  · rw [hg] at hg'
    cases hg'
    refine .inl ⟨rfl, fun k a' hk ha' => ?_⟩
    by_cases hkt : k < t
    · exact h1 k a' hkt ha'
    · obtain rfl : k = t := by omega
      rw [ha] at ha'
      cases ha'
      exact ⟨hne, hok⟩
  · exact .inr h1
/-- an operand is met. -/
theorem Sea.meet {l : List Ga} {fr i t : Nat} {ok : Nat → Bool} {met : List Bool} {work : List Nat} (h : Sea l fr ok met work (seen fr ok met i t)) {g : Ga} {a : Int} (hg : l[i]? = some g) (ha : (leansOn g)[t]? = some a) (ha0 : 0 ≤ a) (hi : i = fr ∨ met[i]? = some true) (hne : a.toNat ≠ fr) (hlt : a.toNat < l.length) : Sea l fr ok (met.set a.toNat true) (work ++ [a.toNat]) (seen fr ok (met.set a.toNat true) i (t + 1)) := by
  have hw : Way l fr a.toNat := by
    have hl : Leans l i a.toNat := ⟨g, hg, by rw [Int.toNat_of_nonneg ha0]; exact List.mem_of_getElem? ha⟩
    rcases hi with rfl | hi
    · exact .one hl
    · exact way_snoc (h.reach i hi) hl
  have hset : ∀ x, (met.set a.toNat true)[x]? = some true ↔ (x = a.toNat ∨ met[x]? = some true) := fun x => by
    rw [List.getElem?_set]
    by_cases hx : a.toNat = x
    · rw [if_pos hx, if_pos (by rw [h.len]; exact hlt)]
      simp [hx]
    · rw [if_neg hx]
      constructor
      · intro h1; exact .inr h1
      · rintro (h1 | h1)
        · exact absurd h1.symm hx
        · exact h1
  refine ⟨by rw [List.length_set]; exact h.len, fun x hx => ?_, fun x hx => ?_, fun x hx hnw g' hg' => ?_⟩
  · rcases (hset x).1 hx with rfl | h1
    · exact hw
    · exact h.reach x h1
  · rcases List.mem_append.1 hx with h1 | h1
    · rcases h.work_ x h1 with h2 | h2
      · exact .inl h2
      · exact .inr ((hset x).2 (.inr h2))
    · simp at h1
      exact .inr ((hset x).2 (.inl h1))
  · have hxa : x ≠ a.toNat := fun e => hnw (by simp [e])
    have hx2 : x = fr ∨ met[x]? = some true := by
      rcases hx with h1 | h1
      · exact .inl h1
      · rcases (hset x).1 h1 with h2 | h2
        · exact absurd h2 hxa
        · exact .inr h2
    have up : ∀ b : Int, (b.toNat ≠ fr ∧ (ok b.toNat = true → met[b.toNat]? = some true)) → (b.toNat ≠ fr ∧ (ok b.toNat = true → (met.set a.toNat true)[b.toNat]? = some true)) := fun b hb => ⟨hb.1, fun e => (hset _).2 (.inr (hb.2 e))⟩
    rcases h.closed x hx2 (fun e => hnw (List.mem_append_left _ e)) g' hg' with ⟨rfl, h1⟩ | h1
    · rw [hg] at hg'
      cases hg'
      refine .inl ⟨rfl, fun k a' hk ha' => ?_⟩
      by_cases hkt : k < t
      · exact up a' (h1 k a' hkt ha')
      · obtain rfl : k = t := by omega
        rw [ha] at ha'
        cases ha'
        exact ⟨hne, fun _ => (hset _).2 (.inl rfl)⟩
    · exact .inr fun b hb => up b (h1 b hb)
/-- all operands have been seen. -/
theorem Sea.done {l : List Ga} {fr i t : Nat} {ok : Nat → Bool} {met : List Bool} {work : List Nat} (h : Sea l fr ok met work (seen fr ok met i t)) {g : Ga} (hg : l[i]? = some g) (ht : t = (leansOn g).length) : Sea l fr ok met work nobody := by
  refine ⟨h.len, h.reach, h.work_, fun x hx hw g' hg' => ?_⟩
  rcases h.closed x hx hw g' hg' with ⟨rfl, h1⟩ | h1
  · rw [hg] at hg'
    cases hg'
    refine .inr fun a ha => ?_
    obtain ⟨k, hk, e⟩ := List.getElem_of_mem ha
    exact h1 k a (by omega) (by rw [List.getElem?_eq_getElem hk, e])
  · exact .inr h1
/-- it comes back. -/
theorem Sea.back {l : List Ga} {fr i t : Nat} {ok : Nat → Bool} {met : List Bool} {work : List Nat} (h : Sea l fr ok met work (seen fr ok met i t)) {g : Ga} {a : Int} (hg : l[i]? = some g) (ha : (leansOn g)[t]? = some a) (ha0 : 0 ≤ a) (hi : i = fr ∨ met[i]? = some true) (he : a.toNat = fr) : Way l fr fr := by
  have hl : Leans l i fr := ⟨g, hg, by rw [← he, Int.toNat_of_nonneg ha0]; exact List.mem_of_getElem? ha⟩
  rcases hi with rfl | hi
  · exact .one hl
  · exact way_snoc (h.reach i hi) hl
/-- nothing is left to search. -/
theorem Sea.fin {l : List Ga} {fr : Nat} {ok : Nat → Bool} {met : List Bool} (h : Sea l fr ok met [] nobody) (hc : ∀ x, Way l x x → ok x = true) : ¬ Way l fr fr := by
  intro hw
  -- whatever lies on the way is met, and none leans on fr
  have key : ∀ x, Way l x fr → (x = fr ∨ (met[x]? = some true ∧ Way l fr x)) → False := by
    intro x hx
    generalize hz : fr = z at hx
    induction hx using PureNet.Way.ind with
    | @one i j hl =>
      intro hi
      obtain ⟨g, hg, hm⟩ := hl
      rcases h.closed i (by rcases hi with h1 | ⟨h1, _⟩; exact .inl (by rw [hz]; exact h1); exact .inr h1) (by simp) g hg with h1 | h1
      · exact h1.elim
      · have := (h1 _ hm).1
        simp at this
        exact this hz.symm
    | @more i j k hl hjk ih =>
      intro hi
      obtain ⟨g, hg, hm⟩ := hl
      have hwi : Way l fr j := by
        rcases hi with h1 | ⟨_, h1⟩
        · rw [hz, ← h1]; exact .one ⟨g, hg, hm⟩
        · exact way_snoc (by rw [hz]; exact h1) ⟨g, hg, hm⟩
      rcases h.closed i (by rcases hi with h1 | ⟨h1, _⟩; exact .inl (by rw [hz]; exact h1); exact .inr h1) (by simp) g hg with h1 | h1
      · exact h1.elim
      · have h2 := h1 _ hm
        simp only [Int.toNat_natCast] at h2
        refine ih hz (.inr ⟨h2.2 (hc j (way_back hwi (by rw [hz]; exact hjk))), by rw [← hz]; exact hwi⟩)
  exact key fr hw (.inl rfl)
end PureNet
