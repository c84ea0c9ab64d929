import Derived.Test.YtfmmmhcpdinhgabDoorZ13
/-
  Rows of numbers by functions; the entries of a circuit's lines, one by one.
-/
namespace PureNet
set_option maxRecDepth 100000

theorem ents_prefix (l : List Ga) : ∀ i, i ≤ l.length → entsOf (l.take i) <+: entsOf l := by
  intro i hi
  obtain ⟨d, hd⟩ : ∃ d, d = l.length - i := ⟨_, rfl⟩
  induction d generalizing i with
  | zero => rw [show i = l.length by omega, List.take_length]; exact List.prefix_refl _
  | succ d ih =>
    have hg : l[i]? = some l[i] := List.getElem?_eq_getElem (by omega)
    have h1 := ih (i + 1) (by omega) (by omega)
    rw [ents_take l i _ hg] at h1
    exact List.IsPrefix.trans (List.prefix_append _ _) h1
theorem ents_at (l : List Ga) (i k : Nat) (g : Ga) (a : Int) (hg : l[i]? = some g) (ha : (leansOn g)[k]? = some a) : (entsOf l).getD ((entsOf (l.take i)).length + k) (0, 0) = (a.toNat, i) ∧ (entsOf (l.take i)).length + k < (entsOf l).length := by
  have hi := (List.getElem?_eq_some_iff.1 hg).1
  have hk := (List.getElem?_eq_some_iff.1 ha).1
  obtain ⟨t, ht⟩ := ents_prefix l (i + 1) (by omega)
  have h1 : (entsOf l)[(entsOf (l.take i)).length + k]? = some (a.toNat, i) := by
    rw [← ht, ents_take l i g hg, List.append_assoc, List.getElem?_append_right (by omega), Nat.add_sub_cancel_left, List.getElem?_append_left (by simpa using hk)]
    simp [ha]
  refine ⟨by rw [List.getD_eq_getElem?_getD, h1]; rfl, (List.getElem?_eq_some_iff.1 h1).1⟩
theorem cntP_run {p : Nat → Bool} {m : Nat} {b : Bool} : ∀ t, (∀ k, k < t → p (m + k) = b) → cntP p (m + t) = cntP p m + (if b = true then t else 0) := by
  intro t
  induction t with
  | zero => intro _; split <;> rfl
  | succ t ih =>
    intro h
    rw [← Nat.add_assoc, cntP_succ, ih (fun k hk => h k (by omega)), h t (by omega)]
    cases b <;> simp
    omega
/-- how many operands a line has. -/
theorem ents_count (l : List Ga) (x : Nat) : ∀ i, i ≤ l.length → cntP (fun j => decide (((entsOf l).getD j (0, 0)).2 = x)) (entsOf (l.take i)).length = if x < i then (leansOn (l.getD x ⟨0, default, 0, 0, 0, 0⟩)).length else 0 := by
  intro i
  induction i with
  | zero => intro _; simp [entsOf, cntP]
  | succ i ih =>
    intro h
    have hg : l[i]? = some l[i] := List.getElem?_eq_getElem (by omega)
    have hlen : (entsOf (l.take (i + 1))).length = (entsOf (l.take i)).length + (leansOn l[i]).length := by rw [ents_take l i _ hg, List.length_append, List.length_map]
    rw [hlen, cntP_run (b := decide (i = x)) _ (fun k hk => by
      have := (ents_at l i k _ _ hg (List.getElem?_eq_getElem hk)).1
      simp only [this]), ih (by omega)]
    by_cases hx : i = x
    · subst hx
      have : l.getD i ⟨0, default, 0, 0, 0, 0⟩ = l[i] := by rw [List.getD_eq_getElem?_getD, hg]; rfl
      rw [if_neg (by omega), if_pos (by simp), if_pos (by omega), this]
      omega
    · by_cases hlt : x < i
      · rw [if_pos hlt, if_neg (by simp [hx]), if_pos (by omega)]
        omega
      · rw [if_neg hlt, if_neg (by simp [hx]), if_neg (by omega)]
theorem waits_first (l : List Ga) (out : List Nat) (x : Nat) (g : Ga) (hg : l[x]? = some g) : waits (entsOf l) (fun j => decide (((entsOf l).getD j (0, 0)).1 ∈ out.take 0)) x = (leansOn g).length := by
  have hx := (List.getElem?_eq_some_iff.1 hg).1
  have h := ents_count l x l.length (Nat.le_refl _)
  rw [List.take_length, if_pos hx] at h
  rw [show l.getD x ⟨0, default, 0, 0, 0, 0⟩ = g by rw [List.getD_eq_getElem?_getD, hg]; rfl] at h
  rw [← h]
  unfold waits
  refine cntP_congr fun j hj => ?_
  simp
end PureNet

namespace Go.Proofs.YtfmmmhcpdinhgabDoor
open Go.RowKit Go.Deep PureNet ShfKit

/-- a row of numbers. -/
def rowF (n : Nat) (f : Nat → Int) : List Value := (List.range n).map fun x => .int .i64 (f x)
theorem rowF_len (n : Nat) (f : Nat → Int) : (rowF n f).length = n := by simp [rowF]
theorem rowF_at (n : Nat) (f : Nat → Int) (j : Nat) (h : j < n) : (rowF n f)[j]? = some (.int .i64 (f j)) := by simp [rowF, h]
theorem rowF_congr {n : Nat} {f g : Nat → Int} (h : ∀ j, j < n → f j = g j) : rowF n f = rowF n g := by
  unfold rowF
  refine List.map_congr_left fun x hx => ?_
  rw [h x (by simpa using hx)]
theorem rowF_set (n : Nat) (f : Nat → Int) (j : Nat) (u : Int) : (rowF n f).set j (.int .i64 u) = rowF n (fun x => if x = j then u else f x) := by
  apply List.ext_getElem?
  intro k
  rw [List.getElem?_set]
  by_cases hk : k < n
  · rw [rowF_at n _ k hk, rowF_at n _ k hk]
    by_cases hj : j = k
    · subst hj
      rw [if_pos rfl, if_pos (by rw [rowF_len]; exact hk), if_pos rfl]
    · rw [if_neg hj, if_neg (fun e => hj e.symm)]
  · have h1 : (rowF n f)[k]? = none := List.getElem?_eq_none (by rw [rowF_len]; omega)
    have h2 : (rowF n (fun x => if x = j then u else f x))[k]? = none := List.getElem?_eq_none (by rw [rowF_len]; omega)
    rw [h1, h2]
    split
    · rw [if_neg (by rw [rowF_len]; omega)]
    · rfl
theorem rowF_snoc (n : Nat) (f : Nat → Int) (u : Int) (g : Nat → Int) (h : ∀ j, j < n → f j = g j) (hu : g n = u) : rowF n f ++ [.int .i64 u] = rowF (n + 1) g := by
  rw [rowF_congr h]
  unfold rowF
  rw [List.range_succ, List.map_append, ← hu]
  rfl
/-- append of a number to one of several rows. -/
theorem fam_app {ops : Array Oper} {rest : List Oper} {o : Oper} {a : Act} {Q : Exit → Act → World → Prop} {w W : World} {L : List Rw} (hgd : o.guard = none) (sl y : Operand)
    (ho : o.op = .call { callee := .builtin .append, args := #[sl, y], argTypes := #[23, 23] }) (hF : Fam W w.heap.size 3 1 L) (hB : Below w.heap.size w W) (i : Nat) (x : Rw) (hx : L[i]? = some x) (u : Int) (t : TypeId) (ad : Nat) (had : ad = W.heap.size)
    (hs : a.eval sl = x.1) (hy : a.eval y = .slice (some ⟨ad, 0, none⟩) 1 1) (hn : x.2.1 ≤ 1099511627776)
    (hK : ∀ sx cx w', Fam w' w.heap.size 3 1 (L.set i (.slice sx (x.2.1 + 1) cx, x.2.1 + 1, x.2.2 ++ [.int .i64 u])) → Below w.heap.size w w' → (∀ (k : Nat) (cs : Array Value) (tt : Nat) (fz : Nat × Nat), W.heap[k]? = some (Obj.cells cs tt fz) → tt ≠ 3 → w'.heap[k]? = some (Obj.cells cs tt fz)) → wpList Tryd.prog ops Q rest (a.put o.dst (.slice sx (x.2.1 + 1) cx)) w') :
    wpList Tryd.prog ops Q (o :: rest) a (W.alloc (.cells #[.int .i64 u] t)) := by
  subst had
  obtain ⟨ii, hi, hz0, hz1, hz2⟩ := info_parts info3
  have hb2 : Below W.heap.size W (W.alloc (.cells #[.int .i64 u] t)) := (Below.refl _ _).alloc (Nat.le_refl _) _
  have hF2 := hF.below hb2
  have hB2 : Below w.heap.size w (W.alloc (.cells #[.int .i64 u] t)) := hB.trans (hb2.mono hB.size)
  have hown := hF2.own i x hx
  refine wpList_append_far (P := Tryd.prog) (W.alloc (.cells #[.int .i64 u] t)) hgd sl y 23 ho w.heap.size 3 ii (.int .i64 0) 1 8 Tryd.underlying23 hi hz0 hz1 hz2 rfl (by decide) x.1 x.2.1 x.2.2 hs hown ⟨W.heap.size, 0, none⟩ 1 1 [.int .i64 u] hy rfl (fun j v hv => by
      rw [add_zero_addr, cell_row (heap_alloc_new W _)]
      simpa using hv) (fun v hv => by simp at hv; subst hv; rfl) (by unfold maxLen; omega) (by omega) hB2.size ?_
  intro v' w' o1 hf
  obtain ⟨sx, cx, rfl⟩ := own_shape o1
  have hgr : (∃ g, (W.alloc (.cells #[.int .i64 u] t)).grownBy w' g ∧ ∀ k, g = some k → x.1.ownBlock = some k) := by
    rcases hf with ⟨_, hg⟩ | ⟨_, hg⟩
    · exact ⟨_, hg, fun k e => e⟩
    · exact ⟨none, hg, fun k e => by cases e⟩
  obtain ⟨g, hg, hgx⟩ := hgr
  refine hK sx cx w' (hF2.turn (y := (.slice sx (x.2.1 + 1) cx, x.2.1 + 1, x.2.2 ++ [.int .i64 u])) hx o1 hf) (hB2.grown hg hB2.size (fun k e => (own_block hown (hgx k e)).1)) (fun k cs tt fz hk htt => ?_)
  have h1 : (W.alloc (.cells #[.int .i64 u] t)).heap[k]? = some (Obj.cells cs tt fz) := (hb2.block k (Array.getElem?_eq_some_iff.1 hk).1).trans hk
  refine (hg.block k (Array.getElem?_eq_some_iff.1 h1).1 (fun e => ?_)).trans h1
  exact own_ne hown h1 htt (hgx k e.symm)
end Go.Proofs.YtfmmmhcpdinhgabDoor
/-
  The document's own Layers.
-/
namespace Go.Proofs.YtfmmmhcpdinhgabDoor
open Go.RowKit Go.Deep PureNet ShfKit
set_option maxRecDepth 100000

theorem made_row (W : World) (n : Nat) (hn : n ≤ 65536) : (W.alloc (.cells (madeCells #[.int .i64 0] n) 3)).ownsRow W.heap.size 3 1 (.slice (some ⟨W.heap.size, 0, none⟩) n n) n (rowF n fun _ => 0) := by
  refine ⟨by rw [rowF_len, Nat.mul_one], .inr ⟨W.heap.size, n, _, rfl, Nat.le_refl _, heap_alloc_new W _, Nat.le_refl _, by unfold maxLen; omega, by rw [size_madeCells, Nat.mul_one], ?_⟩⟩
  rw [Nat.mul_one, toList_madeCells_one, List.take_of_length_le (by simp)]
  apply List.ext_getElem?
  intro k
  by_cases hk : k < n
  · rw [rowF_at n _ k hk]; simp [hk]
  · rw [List.getElem?_eq_none (by simp; omega), List.getElem?_eq_none (by rw [rowF_len]; omega)]
/-- those who lean on none, of the first i. -/
def freeL (l : List Ga) (i : Nat) : List Nat := (List.range i).filter fun x => (leansOn (l.getD x ⟨0, default, 0, 0, 0, 0⟩)).isEmpty
theorem freeL_succ (l : List Ga) (i : Nat) (g : Ga) (hg : l[i]? = some g) : freeL l (i + 1) = freeL l i ++ (if leansOn g = [] then [i] else []) := by
  have e : l.getD i ⟨0, default, 0, 0, 0, 0⟩ = g := by rw [List.getD_eq_getElem?_getD, hg]; rfl
  unfold freeL
  rw [List.range_succ, List.filter_append]
  simp only [List.filter_cons, List.filter_nil, e]
  cases h : leansOn g <;> simp
theorem freeL_mem (l : List Ga) (x : Nat) : x ∈ freeL l l.length ↔ ∃ g, l[x]? = some g ∧ leansOn g = [] := by
  unfold freeL
  rw [List.mem_filter, List.mem_range]
  constructor
  · rintro ⟨hx, he⟩
    refine ⟨l[x], List.getElem?_eq_getElem hx, ?_⟩
    rw [List.getD_eq_getElem?_getD, List.getElem?_eq_getElem hx] at he
    simpa using he
  · rintro ⟨g, hg, h0⟩
    refine ⟨(List.getElem?_eq_some_iff.1 hg).1, ?_⟩
    rw [List.getD_eq_getElem?_getD, hg]
    simp [h0]
theorem freeL_len (l : List Ga) (i : Nat) : (freeL l i).length ≤ i := by
  have := List.length_filter_le (fun x => (leansOn (l.getD x ⟨0, default, 0, 0, 0, 0⟩)).isEmpty) (List.range i)
  simpa [freeL] using this
theorem freeL_nodup (l : List Ga) (i : Nat) : (freeL l i).Nodup := List.Pairwise.filter _ List.nodup_range
/-- a list of places as a row. -/
def placesV (out : List Nat) : List Value := rowF out.length fun k => (out.getD k 0 : Int)
theorem places_snoc (out : List Nat) (x : Nat) : placesV out ++ [.int .i64 (x : Int)] = placesV (out ++ [x]) := by
  unfold placesV
  rw [List.length_append, List.length_singleton]
  refine rowF_snoc _ _ _ _ (fun j hj => ?_) ?_
  · simp [List.getElem?_append_left hj]
  · simp

theorem fam_pushNil {W : World} {B e size : Nat} {L : List Rw} (h : Fam W B e size L) (hB : B ≤ W.heap.size) : Fam W B e size (L ++ [(.slice none 0 0, 0, [])]) :=
  h.push (y := (.slice none 0 0, 0, [])) (Below.refl _ _) (World.ownsRow_nil _ _ _ _) hB
theorem fam_cell {W : World} {B : Nat} {L : List Rw} (h : Fam W B 3 1 L) {i n : Nat} {v : Value} {f : Nat → Int} (hx : L[i]? = some (v, n, rowF n f)) {g c k : Nat} (hv : v = .slice (some ⟨g, 0, none⟩) n c) (hk : k < n) : W.cell? ⟨g, k, none⟩ = some (.int .i64 (f k)) ∧ W.frozen? ⟨g, k, none⟩ = false ∧ g < W.heap.size := by
  obtain ⟨g', c', hv', _, hg, hc, hf⟩ := own_cell (h.own i _ hx) (rowF_at n f k hk)
  have hv2 : v = .slice (some ⟨g', 0, none⟩) n c' := hv'
  rw [hv] at hv2
  simp only [Value.slice.injEq, Option.some.injEq, Addr.mk.injEq, and_true, true_and] at hv2
  obtain ⟨rfl, _⟩ := hv2
  exact ⟨hc, hf, hg⟩
/-- what leans answers, in one form. -/
theorem leansV_form (g : Ga) : ∃ a0 a1 a2 : Int, leansV g = .tuple #[.int .i64 ((leansOn g).length : Int), .agg #[.int .i64 a0, .int .i64 a1, .int .i64 a2]] ∧ ∀ (k : Nat) (a : Int), (leansOn g)[k]? = some a → ([a0, a1, a2] : List Int)[k]? = some a := by
  unfold leansV leansOn
  by_cases h2 : g.kind = 2
  · simp only [h2, if_true]
    refine ⟨g.a, g.b, 0, by simp, fun k a hk => ?_⟩
    match k, hk with
    | 0, hk => exact hk
    | 1, hk => exact hk
    | k + 2, hk => simp at hk
  · by_cases h4 : g.kind = 4
    · simp only [h4, if_true]
      exact ⟨g.a, g.b, g.c, by simp, fun k a hk => by simpa using hk⟩
    · simp only [h2, h4, if_false]
      exact ⟨0, 0, 0, by simp, fun k a hk => by simp at hk⟩
/-- the five rows while lines are read. -/
structure LyA (w W : World) (l : List Ga) (wv fv nv uv ov : Value) (wf : Nat → Int) (m : Nat) (out : List Nat) : Prop where
  fam : Fam W w.heap.size 3 1 [(wv, l.length, rowF l.length wf), (fv, l.length, rowF l.length fun y => lastI (entsOf l) y m), (nv, m, rowF m fun j => lastI (entsOf l) ((entsOf l).getD j (0, 0)).1 j), (uv, m, rowF m fun j => (((entsOf l).getD j (0, 0)).2 : Int)), (ov, out.length, placesV out)]
  below : Below w.heap.size w W
theorem LyA.on {w W W' : World} {l : List Ga} {wv fv nv uv ov : Value} {wf : Nat → Int} {m : Nat} {out : List Nat} (h : LyA w W l wv fv nv uv ov wf m out) (hb : Below W.heap.size W W') : LyA w W' l wv fv nv uv ov wf m out := ⟨h.fam.below hb, h.below.trans (hb.mono h.below.size)⟩

section
variable {w W : World} {l : List Ga} {wv fv nv uv ov : Value} {wf : Nat → Int} {m : Nat} {out : List Nat}
theorem LyA.wait (h : LyA w W l wv fv nv uv ov wf m out) {k : Nat} (hk : k < l.length) {g c : Nat} (hv : wv = .slice (some ⟨g, 0, none⟩) l.length c) : W.cell? ⟨g, k, none⟩ = some (.int .i64 (wf k)) ∧ W.frozen? ⟨g, k, none⟩ = false ∧ g < W.heap.size := by
  obtain ⟨g', c', hv', _, hg, hc, hf⟩ := own_cell (h.fam.own 0 _ rfl) (rowF_at l.length wf k hk)
  rw [hv] at hv'
  simp only [Value.slice.injEq, Option.some.injEq, Addr.mk.injEq, and_true, true_and] at hv'
  obtain ⟨rfl, _⟩ := hv'
  exact ⟨hc, hf, hg⟩
theorem LyA.first (h : LyA w W l wv fv nv uv ov wf m out) {k : Nat} (hk : k < l.length) {g c : Nat} (hv : fv = .slice (some ⟨g, 0, none⟩) l.length c) : W.cell? ⟨g, k, none⟩ = some (.int .i64 (lastI (entsOf l) k m)) ∧ W.frozen? ⟨g, k, none⟩ = false ∧ g < W.heap.size := by
  obtain ⟨g', c', hv', _, hg, hc, hf⟩ := own_cell (h.fam.own 1 _ rfl) (rowF_at l.length (fun y => lastI (entsOf l) y m) k hk)
  rw [hv] at hv'
  simp only [Value.slice.injEq, Option.some.injEq, Addr.mk.injEq, and_true, true_and] at hv'
  obtain ⟨rfl, _⟩ := hv'
  exact ⟨hc, hf, hg⟩
theorem LyA.setWait (h : LyA w W l wv fv nv uv ov wf m out) {g c : Nat} (hv : wv = .slice (some ⟨g, 0, none⟩) l.length c) (k : Nat) (u : Int) (hg : w.heap.size ≤ g) : LyA w (W.setCell ⟨g, k, none⟩ (.int .i64 u)) l wv fv nv uv ov (fun x => if x = k then u else wf x) m out := by
  have h1 := h.fam.write (i := 0) rfl hv (j := k) (.int .i64 u)
  refine ⟨?_, h.below.setCell hg _⟩
  rw [← rowF_set]
  exact h1
theorem LyA.congr (h : LyA w W l wv fv nv uv ov wf m out) {wf' : Nat → Int} (hw : ∀ j, j < l.length → wf j = wf' j) : LyA w W l wv fv nv uv ov wf' m out := by
  refine ⟨?_, h.below⟩
  rw [← rowF_congr hw]
  exact h.fam
theorem last_step {E : List (Nat × Nat)} {m y x : Nat} (hE : E.getD m (0, 0) = (y, x)) (z : Nat) : lastI E z (m + 1) = if z = y then (m : Int) else lastI E z m := by
  rw [lastI, hE]
  by_cases h : y = z
  · rw [if_pos h, if_pos h.symm]
  · rw [if_neg h, if_neg (fun e => h e.symm)]
theorem lay_few {D : Nat → Bool} {q : Nat} (h : LayS l out q D) : out.length ≤ l.length := by
  apply Classical.byContradiction
  intro hn
  have hat : ∀ k, k ≤ l.length → k < out.length := fun k hk => by omega
  obtain ⟨a, b, hab, hb, e⟩ := holes l.length (fun k => out.getD k 0) (fun k hk => by
    show out.getD k 0 < l.length
    rw [List.getD_eq_getElem?_getD, List.getElem?_eq_getElem (hat k hk)]
    exact h.lt _ (List.getElem_mem _))
  have e2 : out.getD a 0 = out.getD b 0 := e
  rw [List.getD_eq_getElem?_getD, List.getD_eq_getElem?_getD, List.getElem?_eq_getElem (hat a (by omega)), List.getElem?_eq_getElem (hat b hb)] at e2
  have := (List.getElem?_inj (hat a (by omega)) h.nd).1 (show out[a]? = out[b]? by rw [List.getElem?_eq_getElem (hat a (by omega)), List.getElem?_eq_getElem (hat b hb)]; exact congrArg some e2)
  omega
/-- a user has one operand less to wait for. -/
theorem LyA.less {D D' : Nat → Bool} {k y x : Nat} (h : LyA w W l wv fv nv uv ov (fun z => (waits (entsOf l) D z : Int)) m out) (hk : k < (entsOf l).length) (hE : (entsOf l).getD k (0, 0) = (y, x)) (hDk : D k = false) (hDk' : D' k = true) (hD : ∀ j, j < (entsOf l).length → j ≠ k → D j = D' j) {g c : Nat} (hv : wv = .slice (some ⟨g, 0, none⟩) l.length c) (hg : w.heap.size ≤ g) :
    LyA w (W.setCell ⟨g, x, none⟩ (.int .i64 ((waits (entsOf l) D x : Int) - 1))) l wv fv nv uv ov (fun z => (waits (entsOf l) D' z : Int)) m out := by
  refine (h.setWait hv x _ hg).congr fun z _ => ?_
  by_cases hz : z = x
  · rw [if_pos hz, hz]
    have hw : waits (entsOf l) D x = waits (entsOf l) D' x + 1 := by
      refine cntP_less hk ?_ ?_ fun j hj hne => ?_
      · simp only [hE, hDk, decide_true, Bool.not_false, Bool.and_true]
      · simp only [hDk', Bool.not_true, Bool.and_false]
      · rw [hD j hj hne]
    omega
  · rw [if_neg hz]
    rw [waits_congr fun j hj h2 => hD j hj (by
      rintro rfl
      rw [hE] at h2
      exact hz h2.symm)]
/-- one more entry. -/
theorem LyA.entry {y x : Nat} (hE : (entsOf l).getD m (0, 0) = (y, x)) {nv' uv' : Value}
    (hF : Fam W w.heap.size 3 1 [(wv, l.length, rowF l.length wf), (fv, l.length, rowF l.length fun y => lastI (entsOf l) y m), (nv', m + 1, (rowF m fun j => lastI (entsOf l) ((entsOf l).getD j (0, 0)).1 j) ++ [.int .i64 (lastI (entsOf l) y m)]), (uv', m + 1, (rowF m fun j => (((entsOf l).getD j (0, 0)).2 : Int)) ++ [.int .i64 (x : Int)]), (ov, out.length, placesV out)])
    (hB : Below w.heap.size w W) {g c : Nat} (hv : fv = .slice (some ⟨g, 0, none⟩) l.length c) (hg : w.heap.size ≤ g) : LyA w (W.setCell ⟨g, y, none⟩ (.int .i64 (m : Int))) l wv fv nv' uv' ov wf (m + 1) out := by
  rw [rowF_snoc m (fun j => lastI (entsOf l) ((entsOf l).getD j (0, 0)).1 j) _ (fun j => lastI (entsOf l) ((entsOf l).getD j (0, 0)).1 j) (fun j _ => rfl) (by rw [hE]), rowF_snoc m (fun j => (((entsOf l).getD j (0, 0)).2 : Int)) _ (fun j => (((entsOf l).getD j (0, 0)).2 : Int)) (fun j _ => rfl) (by rw [hE])] at hF
  have h1 := hF.write (i := 1) rfl hv (j := y) (.int .i64 (m : Int))
  refine ⟨?_, hB.setCell hg _⟩
  have h2 : (rowF l.length fun z => lastI (entsOf l) z m).set y (.int .i64 (m : Int)) = rowF l.length fun z => lastI (entsOf l) z (m + 1) := by
    rw [rowF_set]
    exact rowF_congr fun z _ => (last_step hE z).symm
  rw [← h2]
  exact h1
end

end Go.Proofs.YtfmmmhcpdinhgabDoor
/-
  A search along the lines that lean: plain mathematics.
-/
namespace PureNet
set_option maxRecDepth 100000

theorem way_trans {l : List Ga} {i j k : Nat} (h : Way l i j) (h2 : Way l j k) : Way l i k := by
  induction h using PureNet.Way.ind with
  | one h1 => exact .more h1 h2
  | more h1 _ ih => exact .more h1 (ih h2)
/-- whoever is on a circle's way is in a circle. -/
theorem way_back {l : List Ga} {i j : Nat} (h : Way l i j) (h2 : Way l j i) : Way l j j := way_trans h2 h

def cntF (met : List Bool) : Nat := (met.filter fun b => !b).length
theorem cntF_set {met : List Bool} {y : Nat} (h : met[y]? = some false) : cntF (met.set y true) + 1 = cntF met := by
  unfold cntF
  induction met generalizing y with
  | nil => simp at h
  | cons b r ih =>
    cases y with
    | zero => simp at h; subst h; simp
    | succ y =>
      have := ih (y := y) (by simpa using h)
      cases b <;> simp at this ⊢ <;> omega

/-- what is known while lines are searched: cur: the line at hand, and how many of its operands have been seen. -/
structure Sea (l : List Ga) (fr : Nat) (ok : Nat → Bool) (met : List Bool) (work : List Nat) (cur : Nat → List Int → Prop) : Prop where
  len : met.length = l.length
  reach : ∀ x, met[x]? = some true → Way l fr x
  work_ : ∀ x ∈ work, x = fr ∨ met[x]? = some true
  closed : ∀ x, (x = fr ∨ met[x]? = some true) → x ∉ work → ∀ g, l[x]? = some g → cur x (leansOn g) ∨ ∀ a ∈ leansOn g, a.toNat ≠ fr ∧ (ok a.toNat = true → met[a.toNat]? = some true)
def nobody : Nat → List Int → Prop := fun _ _ => False
/-- one line, of whose operands the first t have been seen. -/
def seen (fr : Nat) (ok : Nat → Bool) (met : List Bool) (i t : Nat) : Nat → List Int → Prop := fun x asx => x = i ∧ ∀ (k : Nat) (a : Int), k < t → asx[k]? = some a → a.toNat ≠ fr ∧ (ok a.toNat = true → met[a.toNat]? = some true)
theorem Sea.start {l : List Ga} {fr : Nat} {ok : Nat → Bool} : Sea l fr ok (List.replicate l.length false) [fr] nobody := by
  refine ⟨by simp, fun x hx => ?_, fun x hx => .inl (by simpa using hx), fun x hx hw => ?_⟩
  · rw [List.getElem?_replicate] at hx
    split at hx <;> simp at hx
  · rcases hx with h | h
    · exact absurd (by simp [h]) hw
    · rw [List.getElem?_replicate] at h
      split at h <;> simp at h
/-- the last one is taken up. -/
theorem Sea.pop {l : List Ga} {fr i : Nat} {ok : Nat → Bool} {met : List Bool} {work : List Nat} (h : Sea l fr ok met (work ++ [i]) nobody) : Sea l fr ok met work (seen fr ok met i 0) ∧ (i = fr ∨ met[i]? = some true) := by
  refine ⟨⟨h.len, h.reach, fun x hx => h.work_ x (List.mem_append_left _ hx), fun x hx hw g hg => ?_⟩, h.work_ i (by simp)⟩
  by_cases hxi : x = i
  · exact .inl ⟨hxi, fun k a hk => by omega⟩
  · rcases h.closed x hx (by simp [hw, hxi]) g hg with h1 | h1
    · exact h1.elim
    · exact .inr h1
/-- an operand is passed by. -/
theorem Sea.pass {l : List Ga} {fr i t : Nat} {ok : Nat → Bool} {met : List Bool} {work : List Nat} (h : Sea l fr ok met work (seen fr ok met i t)) {g : Ga} {a : Int} (hg : l[i]? = some g) (ha : (leansOn g)[t]? = some a) (hne : a.toNat ≠ fr) (hok : ok a.toNat = true → met[a.toNat]? = some true) : Sea l fr ok met work (seen fr ok met i (t + 1)) := by
  refine ⟨h.len, h.reach, h.work_, fun x hx hw g' hg' => ?_⟩
  rcases h.closed x hx hw g' hg' with ⟨rfl, h1⟩ | h1
  · rw [hg] at hg'
    cases hg'
    refine .inl ⟨rfl, fun k a' hk ha' => ?_⟩
    by_cases hkt : k < t
    · exact h1 k a' hkt ha'
    · obtain rfl : k = t := by omega
      rw [ha] at ha'
      cases ha'
      exact ⟨hne, hok⟩
  · exact .inr h1
/-- an operand is met. -/
theorem Sea.meet {l : List Ga} {fr i t : Nat} {ok : Nat → Bool} {met : List Bool} {work : List Nat} (h : Sea l fr ok met work (seen fr ok met i t)) {g : Ga} {a : Int} (hg : l[i]? = some g) (ha : (leansOn g)[t]? = some a) (ha0 : 0 ≤ a) (hi : i = fr ∨ met[i]? = some true) (hne : a.toNat ≠ fr) (hlt : a.toNat < l.length) : Sea l fr ok (met.set a.toNat true) (work ++ [a.toNat]) (seen fr ok (met.set a.toNat true) i (t + 1)) := by
  have hw : Way l fr a.toNat := by
    have hl : Leans l i a.toNat := ⟨g, hg, by rw [Int.toNat_of_nonneg ha0]; exact List.mem_of_getElem? ha⟩
    rcases hi with rfl | hi
    · exact .one hl
    · exact way_snoc (h.reach i hi) hl
  have hset : ∀ x, (met.set a.toNat true)[x]? = some true ↔ (x = a.toNat ∨ met[x]? = some true) := fun x => by
    rw [List.getElem?_set]
    by_cases hx : a.toNat = x
    · rw [if_pos hx, if_pos (by rw [h.len]; exact hlt)]
      simp [hx]
    · rw [if_neg hx]
      constructor
      · intro h1; exact .inr h1
      · rintro (h1 | h1)
        · exact absurd h1.symm hx
        · exact h1
  refine ⟨by rw [List.length_set]; exact h.len, fun x hx => ?_, fun x hx => ?_, fun x hx hnw g' hg' => ?_⟩
  · rcases (hset x).1 hx with rfl | h1
    · exact hw
    · exact h.reach x h1
  · rcases List.mem_append.1 hx with h1 | h1
    · rcases h.work_ x h1 with h2 | h2
      · exact .inl h2
      · exact .inr ((hset x).2 (.inr h2))
    · simp at h1
      exact .inr ((hset x).2 (.inl h1))
  · have hxa : x ≠ a.toNat := fun e => hnw (by simp [e])
    have hx2 : x = fr ∨ met[x]? = some true := by
      rcases hx with h1 | h1
      · exact .inl h1
      · rcases (hset x).1 h1 with h2 | h2
        · exact absurd h2 hxa
        · exact .inr h2
    have up : ∀ b : Int, (b.toNat ≠ fr ∧ (ok b.toNat = true → met[b.toNat]? = some true)) → (b.toNat ≠ fr ∧ (ok b.toNat = true → (met.set a.toNat true)[b.toNat]? = some true)) := fun b hb => ⟨hb.1, fun e => (hset _).2 (.inr (hb.2 e))⟩
    rcases h.closed x hx2 (fun e => hnw (List.mem_append_left _ e)) g' hg' with ⟨rfl, h1⟩ | h1
    · rw [hg] at hg'
      cases hg'
      refine .inl ⟨rfl, fun k a' hk ha' => ?_⟩
      by_cases hkt : k < t
      · exact up a' (h1 k a' hkt ha')
      · obtain rfl : k = t := by omega
        rw [ha] at ha'
        cases ha'
        exact ⟨hne, fun _ => (hset _).2 (.inl rfl)⟩
    · exact .inr fun b hb => up b (h1 b hb)
/-- all operands have been seen. -/
theorem Sea.done {l : List Ga} {fr i t : Nat} {ok : Nat → Bool} {met : List Bool} {work : List Nat} (h : Sea l fr ok met work (seen fr ok met i t)) {g : Ga} (hg : l[i]? = some g) (ht : t = (leansOn g).length) : Sea l fr ok met work nobody := by
  refine ⟨h.len, h.reach, h.work_, fun x hx hw g' hg' => ?_⟩
  rcases h.closed x hx hw g' hg' with ⟨rfl, h1⟩ | h1
  · rw [hg] at hg'
    cases hg'
    refine .inr fun a ha => ?_
    obtain ⟨k, hk, e⟩ := List.getElem_of_mem ha
    exact h1 k a (by omega) (by rw [List.getElem?_eq_getElem hk, e])
  · exact .inr h1
/-- it comes back. -/
theorem Sea.back {l : List Ga} {fr i t : Nat} {ok : Nat → Bool} {met : List Bool} {work : List Nat} (h : Sea l fr ok met work (seen fr ok met i t)) {g : Ga} {a : Int} (hg : l[i]? = some g) (ha : (leansOn g)[t]? = some a) (ha0 : 0 ≤ a) (hi : i = fr ∨ met[i]? = some true) (he : a.toNat = fr) : Way l fr fr := by
  have hl : Leans l i fr := ⟨g, hg, by rw [← he, Int.toNat_of_nonneg ha0]; exact List.mem_of_getElem? ha⟩
  rcases hi with rfl | hi
  · exact .one hl
  · exact way_snoc (h.reach i hi) hl
/-- nothing is left to search. -/
theorem Sea.fin {l : List Ga} {fr : Nat} {ok : Nat → Bool} {met : List Bool} (h : Sea l fr ok met [] nobody) (hc : ∀ x, Way l x x → ok x = true) : ¬ Way l fr fr := by
  intro hw
  -- whatever lies on the way is met, and none leans on fr
  have key : ∀ x, Way l x fr → (x = fr ∨ (met[x]? = some true ∧ Way l fr x)) → False := by
    intro x hx
    generalize hz : fr = z at hx
    induction hx using PureNet.Way.ind with
    | @one i j hl =>
      intro hi
      obtain ⟨g, hg, hm⟩ := hl
      rcases h.closed i (by rcases hi with h1 | ⟨h1, _⟩; exact .inl (by rw [hz]; exact h1); exact .inr h1) (by simp) g hg with h1 | h1
      · exact h1.elim
      · have := (h1 _ hm).1
        simp at this
        exact this hz.symm
    | @more i j k hl hjk ih =>
      intro hi
      obtain ⟨g, hg, hm⟩ := hl
      have hwi : Way l fr j := by
        rcases hi with h1 | ⟨_, h1⟩
        · rw [hz, ← h1]; exact .one ⟨g, hg, hm⟩
        · exact way_snoc (by rw [hz]; exact h1) ⟨g, hg, hm⟩
      rcases h.closed i (by rcases hi with h1 | ⟨h1, _⟩; exact .inl (by rw [hz]; exact h1); exact .inr h1) (by simp) g hg with h1 | h1
      · exact h1.elim
      · have h2 := h1 _ hm
        simp only [Int.toNat_natCast] at h2
        refine ih hz (.inr ⟨h2.2 (hc j (way_back hwi (by rw [hz]; exact hjk))), by rw [← hz]; exact hwi⟩)
  exact key fr hw (.inl rfl)
end PureNet
/-
  The document's own comes.
-/
namespace Go.Proofs.YtfmmmhcpdinhgabDoor
open Go.RowKit Go.Deep PureNet ShfKit
set_option maxRecDepth 100000

/-- marks, and the places that are still to be searched. -/
structure Cm (w W : World) (met : List Bool) (wv : Value) (work : List Nat) : Prop where
  row : W.heap[w.heap.size]? = some (.cells (bo met).toArray 4 (0, 0))
  fam : Fam W w.heap.size 3 1 [(wv, work.length, placesV work)]
  below : Below w.heap.size w W
section
variable {w W W' : World} {met : List Bool} {wv : Value} {work : List Nat}
theorem Cm.on (h : Cm w W met wv work) (hb : Below W.heap.size W W') : Cm w W' met wv work :=
  ⟨(hb.block _ (Array.getElem?_eq_some_iff.1 h.row).1).trans h.row, h.fam.below hb, h.below.trans (hb.mono h.below.size)⟩
theorem Cm.mark (h : Cm w W met wv work) (y : Nat) : Cm w (W.setCell ⟨w.heap.size, y, none⟩ (.bool true)) (met.set y true) wv work := by
  refine ⟨?_, ?_, h.below.setCell (Nat.le_refl _) _⟩
  · have := row_set (i := y) (u := .bool true) h.row
    rw [this]
    congr 2
    apply Array.ext'
    simp [bo, List.map_set]
  · refine ⟨fun i x hx => ShfKit.own_kept (h.fam.own i x hx) fun g hg => Below.heap_setCell W _ _ _ ?_, h.fam.apart⟩
    rintro rfl
    exact own_ne (h.fam.own i x hx) h.row (by decide) hg
theorem Cm.cell (h : Cm w W met wv work) {y : Nat} {b : Bool} (hy : met[y]? = some b) : W.cell? ⟨w.heap.size, y, none⟩ = some (.bool b) ∧ W.frozen? ⟨w.heap.size, y, none⟩ = false := by
  refine ⟨?_, unfrozen_row h.row y⟩
  rw [cell_row h.row]
  simp [bo, hy]
theorem places_take (work : List Nat) (i : Nat) : (placesV (work ++ [i])).take work.length = placesV work := by
  rw [← places_snoc, List.take_left' (by simp [placesV, rowF_len])]
/-- the last one is cut off. -/
theorem Cm.cut {i g c : Nat} (h : Cm w W met (.slice (some ⟨g, 0, none⟩) (work.length + 1) c) (work ++ [i])) : Cm w W met (.slice (some ⟨g, 0, none⟩) work.length c) work := by
  refine ⟨h.row, ⟨fun j x hx => ?_, fun j k x y g hx hy hne => ?_⟩, h.below⟩
  · match j, hx with
    | 0, hx =>
      cases hx
      have h0 := h.fam.own 0 _ rfl
      refine ⟨by simp [placesV, rowF_len], ?_⟩
      rcases h0.2 with ⟨hv, _⟩ | ⟨g', cap, cur, hv, hb, hr, hnc, hcm, hcs, htk⟩
      · cases hv
      · have hv2 : Value.slice (some ⟨g, 0, none⟩) (work.length + 1) c = .slice (some ⟨g', 0, none⟩) (work ++ [i]).length cap := hv
        simp only [Value.slice.injEq, Option.some.injEq, Addr.mk.injEq, and_true] at hv2
        obtain ⟨rfl, _, rfl⟩ := hv2
        have hnc2 : (work ++ [i]).length ≤ c := hnc
        rw [List.length_append] at hnc2
        refine .inr ⟨g, c, cur, rfl, hb, hr, show work.length ≤ c by omega, hcm, hcs, ?_⟩
        have := congrArg (List.take work.length) htk
        rw [places_take] at this
        rw [← this, List.take_take, Nat.mul_one]
        simp
    | j + 1, hx => simp at hx
  · match j, k, hx, hy, hne with
    | 0, 0, _, _, hne => exact absurd rfl hne
    | 0, k + 1, _, hy, _ => simp at hy
    | j + 1, _, hx, _, _ => simp at hx
theorem Cm.shape (h : Cm w W met wv work) : ∃ sa c, wv = .slice sa work.length c := own_shape (h.fam.own 0 _ rfl)
theorem Cm.last {i : Nat} (h : Cm w W met wv (work ++ [i])) : ∃ g c, wv = .slice (some ⟨g, 0, none⟩) (work.length + 1) c ∧ g < W.heap.size ∧ W.cell? ⟨g, work.length, none⟩ = some (.int .i64 (i : Int)) ∧ work.length + 1 ≤ c := by
  obtain ⟨g, c, hv, _, hg, hc, _⟩ := own_cell (h.fam.own 0 _ rfl) (rowF_at (work ++ [i]).length (fun k => ((work ++ [i]).getD k 0 : Int)) work.length (by simp))
  have hv2 : wv = .slice (some ⟨g, 0, none⟩) (work ++ [i]).length c := hv
  refine ⟨g, c, by simpa using hv2, hg, by simpa using hc, ?_⟩
  have h0 := h.fam.own 0 _ rfl
  rcases h0.2 with ⟨hn, _⟩ | ⟨g', cap, cur, hw, _, _, hnc, _⟩
  · have hn2 : wv = .slice none 0 0 := hn
    rw [hv2] at hn2
    cases hn2
  · have hw2 : wv = .slice (some ⟨g', 0, none⟩) (work ++ [i]).length cap := hw
    rw [hv2] at hw2
    simp only [Value.slice.injEq, true_and] at hw2
    have hnc2 : (work ++ [i]).length ≤ cap := hnc
    rw [List.length_append, List.length_singleton] at hnc2
    omega
end
/-- how many marks are off, and how many places are to be searched. -/
def offs (W : World) (g n : Nat) : Nat := ((List.range n).filter fun i => match W.cell? ⟨g, i, none⟩ with | some (.bool false) => true | _ => false).length
def lenV : Value → Nat | .slice _ k _ => k | _ => 0
theorem cntF_take (met : List Bool) : ∀ m, m ≤ met.length → cntP (fun i => decide (met[i]? = some false)) m = cntF (met.take m) := by
  intro m
  induction m with
  | zero => intro _; rfl
  | succ m ih =>
    intro h
    have hm : met[m]? = some met[m] := List.getElem?_eq_getElem (by omega)
    rw [cntP_succ, ih (by omega), List.take_add_one, hm]
    unfold cntF
    rw [List.filter_append, List.length_append]
    cases met[m] <;> simp
theorem offs_eq {W : World} {g : Nat} {met : List Bool} (h : W.heap[g]? = some (.cells (bo met).toArray 4 (0, 0))) : offs W g met.length = cntF met := by
  have e := cntF_take met met.length (Nat.le_refl _)
  rw [List.take_length] at e
  rw [← e]
  unfold offs
  refine cntP_congr fun i hi => ?_
  have hm : met[i]? = some met[i] := List.getElem?_eq_getElem hi
  rw [cell_row h]
  simp only [bo, List.getElem?_toArray, List.getElem?_map, hm, Option.map_some]
  cases met[i] <;> simp

end Go.Proofs.YtfmmmhcpdinhgabDoor
/-
  The document's own Circles.
-/
namespace PureNet
set_option maxRecDepth 100000
theorem nodup_few {out : List Nat} {n : Nat} (hnd : out.Nodup) (hlt : ∀ x ∈ out, x < n) : out.length ≤ n := by
  apply Classical.byContradiction
  intro hn
  have hat : ∀ k, k ≤ n → k < out.length := fun k hk => by omega
  obtain ⟨a, b, hab, hb, e⟩ := holes n (fun k => out.getD k 0) (fun k hk => by
    show out.getD k 0 < n
    rw [List.getD_eq_getElem?_getD, List.getElem?_eq_getElem (hat k hk)]
    exact hlt _ (List.getElem_mem _))
  have e2 : out.getD a 0 = out.getD b 0 := e
  rw [List.getD_eq_getElem?_getD, List.getD_eq_getElem?_getD, List.getElem?_eq_getElem (hat a (by omega)), List.getElem?_eq_getElem (hat b hb)] at e2
  have := (List.getElem?_inj (hat a (by omega)) hnd).1 (show out[a]? = out[b]? by rw [List.getElem?_eq_getElem (hat a (by omega)), List.getElem?_eq_getElem (hat b hb)]; exact congrArg some e2)
  omega
theorem nodup_all {out : List Nat} {n : Nat} (hnd : out.Nodup) (hlt : ∀ x ∈ out, x < n) (hlen : out.length = n) : ∀ i, i < n → i ∈ out := by
  intro i hi
  apply Classical.byContradiction
  intro hni
  have h := nodup_few (out := out ++ [i]) (n := n) (by
    rw [List.nodup_append]
    exact ⟨hnd, by simp, fun a ha b hb => by simp at hb; subst hb; rintro rfl; exact hni ha⟩) (fun x hx => by
    rcases List.mem_append.1 hx with h | h
    · exact hlt x h
    · simp at h; omega)
  simp at h
  omega
section
variable {l : List Ga} {out : List Nat} {q : Nat} {D : Nat → Bool}
theorem LayS.behind (h : LayS l out q D) {k i j : Nat} (hk : out[k]? = some i) (hl : Leans l i j) : ∃ m, m < k ∧ out[m]? = some j := by
  obtain ⟨g, hg, hm⟩ := hl
  exact h.ord k i hk j ((ents_mem l j i).2 ⟨g, _, hg, hm, by simp⟩)
theorem LayS.far (h : LayS l out q D) {i j : Nat} (hw : Way l i j) : ∀ k : Nat, out[k]? = some i → ∃ m : Nat, m < k ∧ out[m]? = some j := by
  induction hw using PureNet.Way.ind with
  | one h1 => intro k hk; exact h.behind hk h1
  | more h1 _ ih =>
    intro k hk
    obtain ⟨m, hm, h2⟩ := h.behind hk h1
    obtain ⟨m2, hm2, h3⟩ := ih m h2
    exact ⟨m2, by omega, h3⟩
/-- who has been laid is in no circle. -/
theorem LayS.free (h : LayS l out q D) {i : Nat} (hi : i ∈ out) : ¬ Way l i i := by
  intro hw
  obtain ⟨k, hk, e⟩ := List.getElem_of_mem hi
  have hki : out[k]? = some i := by rw [List.getElem?_eq_getElem hk, e]
  obtain ⟨m, hm, h2⟩ := h.far hw k hki
  have := (List.getElem?_inj hk h.nd).1 (hki.trans h2.symm)
  omega
end
/-- what Circles answers. -/
def CircleIs (l : List Ga) (r : Int) : Prop := (r = -1 ∧ ∀ i, ¬ Way l i i) ∨ ∃ i : Nat, r = (i : Int) ∧ i < l.length ∧ Way l i i ∧ ∀ j, j < i → ¬ Way l j j
end PureNet

namespace Go.Proofs.YtfmmmhcpdinhgabDoor
open Go.RowKit Go.Deep PureNet ShfKit

theorem bits_set {W : World} {g : Nat} {L : List Bool} (h : W.heap[g]? = some (.cells (bo L).toArray 4 (0, 0))) (y : Nat) (b : Bool) : (W.setCell ⟨g, y, none⟩ (.bool b)).heap[g]? = some (.cells (bo (L.set y b)).toArray 4 (0, 0)) := by
  have := row_set (i := y) (u := .bool b) h
  rw [this]
  congr 2
  apply Array.ext'
  simp [bo, List.map_set]
theorem bits_cell {W : World} {g : Nat} {L : List Bool} (h : W.heap[g]? = some (.cells (bo L).toArray 4 (0, 0))) {y : Nat} {b : Bool} (hy : L[y]? = some b) : W.cell? ⟨g, y, none⟩ = some (.bool b) ∧ W.frozen? ⟨g, y, none⟩ = false ∧ g < W.heap.size := by
  refine ⟨?_, unfrozen_row h y, (Array.getElem?_eq_some_iff.1 h).1⟩
  rw [cell_row h]
  simp [bo, hy]
theorem bits_at {W : World} {g : Nat} {L : List Bool} (h : W.heap[g]? = some (.cells (bo L).toArray 4 (0, 0))) : CellsAt W (some ⟨g, 0, none⟩) (bo L) := ⟨fun k x hx => ⟨g, 0, rfl, (Array.getElem?_eq_some_iff.1 h).1, by rw [cell_row h, Nat.zero_add]; simpa using hx⟩⟩
/-- those that are left: all but the first k of out. -/
def leftL (n : Nat) (out : List Nat) : List Bool := (List.range n).map fun x => !decide (x ∈ out)
theorem leftL_at (n : Nat) (out : List Nat) (x : Nat) (h : x < n) : (leftL n out)[x]? = some (!decide (x ∈ out)) := by simp [leftL, h]
theorem leftL_len (n : Nat) (out : List Nat) : (leftL n out).length = n := by simp [leftL]
theorem leftL_snoc (n : Nat) (out : List Nat) (y : Nat) : (leftL n out).set y false = leftL n (out ++ [y]) := by
  apply List.ext_getElem?
  intro k
  rw [List.getElem?_set]
  by_cases hk : k < n
  · rw [leftL_at n _ k hk, leftL_at n _ k hk]
    by_cases hy : y = k
    · rw [if_pos hy, if_pos (by rw [leftL_len]; omega)]
      simp [hy]
    · rw [if_neg hy]
      have : (k ∈ out ++ [y]) ↔ k ∈ out := by
        simp
        intro e
        exact absurd e.symm hy
      rw [decide_eq_decide.2 this]
  · rw [List.getElem?_eq_none (by rw [leftL_len]; omega), List.getElem?_eq_none (by rw [leftL_len]; omega)]
    split
    · rw [if_neg (by rw [leftL_len]; omega)]
    · rfl

/-- the first i are marked. -/
def upL (n i : Nat) : List Bool := (List.range n).map fun x => decide (x < i)
theorem upL_at (n i x : Nat) (h : x < n) : (upL n i)[x]? = some (decide (x < i)) := by simp [upL, h]
theorem upL_len (n i : Nat) : (upL n i).length = n := by simp [upL]
theorem upL_zero (n : Nat) : upL n 0 = List.replicate n false := by
  apply List.ext_getElem?
  intro k
  by_cases hk : k < n
  · rw [upL_at n 0 k hk]; simp [hk]
  · rw [List.getElem?_eq_none (by rw [upL_len]; omega), List.getElem?_eq_none (by simp; omega)]
theorem upL_all (n : Nat) : upL n n = leftL n [] := by
  unfold upL leftL
  refine List.map_congr_left fun x hx => ?_
  have : x < n := by simpa using hx
  simp [this]
theorem upL_set (n i : Nat) : (upL n i).set i true = upL n (i + 1) := by
  apply List.ext_getElem?
  intro k
  rw [List.getElem?_set]
  by_cases hk : k < n
  · rw [upL_at n _ k hk, upL_at n _ k hk]
    by_cases hy : i = k
    · rw [if_pos hy, if_pos (by rw [upL_len]; omega)]
      simp [hy]
    · rw [if_neg hy]
      have : (k < i) ↔ (k < i + 1) := by omega
      rw [decide_eq_decide.2 this]
  · rw [List.getElem?_eq_none (by rw [upL_len]; omega), List.getElem?_eq_none (by rw [upL_len]; omega)]
    split
    · rw [if_neg (by rw [upL_len]; omega)]
    · rfl
/-- marks, and an order that is kept. -/
structure LfC (w W : World) (L : List Bool) (ov : Value) (out : List Nat) : Prop where
  row : W.heap[w.heap.size]? = some (.cells (bo L).toArray 4 (0, 0))
  below : Below w.heap.size w W
  own : W.ownsRow (w.heap.size + 1) 3 1 ov out.length (placesV out)
theorem LfC.set {w W : World} {L : List Bool} {ov : Value} {out : List Nat} (h : LfC w W L ov out) (y : Nat) (b : Bool) : LfC w (W.setCell ⟨w.heap.size, y, none⟩ (.bool b)) (L.set y b) ov out :=
  ⟨bits_set h.row y b, h.below.setCell (Nat.le_refl _) _, ownsRow_setCell_below h.own (show w.heap.size < w.heap.size + 1 by omega) _⟩
theorem LfC.on {w W W' : World} {L : List Bool} {ov : Value} {out : List Nat} (h : LfC w W L ov out) (hb : Below W.heap.size W W') : LfC w W' L ov out :=
  ⟨(hb.block _ (Array.getElem?_eq_some_iff.1 h.row).1).trans h.row, h.below.trans (hb.mono h.below.size), ownsRow_below h.own hb⟩

end Go.Proofs.YtfmmmhcpdinhgabDoor
/-
  The document's reading: a line, whole; what the lines' words are.
-/
namespace Go.Proofs.YtfmmmhcpdinhgabDoor
open Go.RowKit Go.Deep PureNet PureRd
set_option maxRecDepth 100000

theorem uses_few {s : Rs} (hi : Inv s) (ho : Ov s) (hf : s.fault = none) : (usesOf 0 s.lines).length ≤ 1048576 := by
  have h1 := usesOf_len (ls := s.lines) hi.uses3 0
  have h2 := lines_len hi ho
  have h3 := hi.many hf
  have h4 := ho.few
  omega
theorem item_doc (T : Nat → List UInt8) (w W : World) (r : Nat) (text : List UInt8) (s : Rs) (x : Dx) (y : Wd) (t : List Wd) (v e1 e2 : Value) (h : Dr w W r text (dOf s) x) (hv : WA W w.heap.size text (y :: t) v) (hf : s.fault = none) (hm : s.mode = 1) (hy : y.1 ≠ endW) (hi : Inv s) (ho : Ov s) (he : enC text (y :: t) = [e1, e2]) (hops : OpsD w T) (hl : ∀ z ∈ t, z.1.length ≤ 1048576) :
    Calls Tryd.prog 21 #[.pointer (some ⟨r, 0, none⟩), .agg #[v, e1, e2]] W (LineIs w W r text (lineF T (y :: t) s)) := by
  by_cases hw : formW y.1 = []
  · exact item1 T w W r text s x y t v e1 e2 h hv hf hm hy hw
  by_cases hout : y.1 = outW
  · by_cases hm2 : s.outs = 65536
    · exact item2 T w W r text s x y t v e1 e2 h hv hf hm hout hm2
    · exact item_out T w W r text s x y t v e1 e2 h hv hf hm hout hm2 ho.few he hl (uses_few hi ho hf)
  · by_cases hm2 : s.names.length = 65536
    · exact item3 T w W r text s x y t v e1 e2 h hv hf hm hout hw (gates_len hi) hm2
    · exact item_gate T w W r text s x y t v e1 e2 h hv hf hm hout hw (gates_len hi) hm2 (hi.many hf) he (hops.on h.below hops.pos) hl (uses_few hi ho hf)
/-- a line, whole. -/
theorem line_whole (T : Nat → List UInt8) (w W : World) (r : Nat) (text : List UInt8) (s : Rs) (x : Dx) (y : Wd) (t : List Wd) (v e1 e2 : Value) (h : Dr w W r text (dOf s) x) (hv : WA W w.heap.size text (y :: t) v) (hf : s.fault = none) (he : enC text (y :: t) = [e1, e2]) (hl : ∀ z ∈ t, z.1.length ≤ 1048576) (hm : s.mode ≤ 2) (hi : Inv s) (ho : Ov s) (hops : OpsD w T) :
    Calls Tryd.prog 12 #[.pointer (some ⟨r, 0, none⟩), .agg #[v, e1, e2], .bool (s.mode == 0)] W (LineIs w W r text (lineF T (y :: t) s)) :=
  line_doc T w W r text s x y t v e1 e2 h hv hf he hl hm (fun h1 hy W2 h2 hv2 => item_doc T w W2 r text s x y t v e1 e2 h2 hv2 hf h1 hy hi ho he hops hl)
theorem flO_few {M i : Nat} {cur : List UInt8} (h : cur.length ≤ M) : ∀ z ∈ flO i cur, z.1.length ≤ M := fun z hz => by
  unfold flO at hz
  split at hz
  · simp at hz
  · simp at hz
    rw [hz]
    exact h
theorem emitO_mem {l ws : List Wd} (h : l ∈ emitO ws) : l = ws ∧ l ≠ [] := by
  unfold emitO at h
  split at h
  · simp at h
  · next hne => simp at h; exact ⟨h, by rw [h]; exact hne⟩
theorem scanO_few {M : Nat} : ∀ (r : List UInt8) (b : Bool) (i : Nat) (ws : List Wd) (cur : List UInt8), (∀ z ∈ ws, z.1.length ≤ M) → cur.length + r.length ≤ M → ∀ l ∈ scanO b i ws cur r, l ≠ [] ∧ ∀ z ∈ l, z.1.length ≤ M
  | [], b, i, ws, cur, hw, hc, l, hl => by
    rw [scanO] at hl
    obtain ⟨rfl, hne⟩ := emitO_mem hl
    refine ⟨hne, fun z hz => ?_⟩
    rcases List.mem_append.1 hz with hz | hz
    · exact hw z hz
    · exact flO_few (by simp at hc; exact hc) z hz
  | c :: r, b, i, ws, cur, hw, hc, l, hl => by
    simp only [List.length_cons] at hc
    have hw2 : ∀ z ∈ ws ++ flO i cur, z.1.length ≤ M := fun z hz => by
      rcases List.mem_append.1 hz with hz | hz
      · exact hw z hz
      · exact flO_few (by omega) z hz
    rw [scanO] at hl
    split at hl
    · rcases List.mem_append.1 hl with hl | hl
      · obtain ⟨rfl, hne⟩ := emitO_mem hl
        exact ⟨hne, hw2⟩
      · exact scanO_few r false _ [] [] (fun z hz => by simp at hz) (by simp; omega) l hl
    · split at hl
      · exact scanO_few r true _ ws cur hw (by omega) l hl
      · split at hl
        · exact scanO_few r true _ _ [] hw2 (by simp; omega) l hl
        · split at hl
          · exact scanO_few r false _ _ [] hw2 (by simp; omega) l hl
          · exact scanO_few r false _ ws (cur ++ [c]) hw (by simp; omega) l hl
theorem linesO_few (text : List UInt8) : ∀ l ∈ linesO text, l ≠ [] ∧ ∀ z ∈ l, z.1.length ≤ text.length := fun l hl => scanO_few text false 0 [] [] (fun z hz => by simp at hz) (by simp) l hl
/-- the lines one by one: so far. -/
theorem foldL_app (T : Nat → List UInt8) : ∀ (a b : List (List Wd)) (s : Rs), (foldL T a s).fault = none → foldL T (a ++ b) s = foldL T b (foldL T a s)
  | [], b, s, _ => rfl
  | ws :: a, b, s, h => by
    rw [List.cons_append, foldL, foldL]
    rw [foldL] at h
    split
    · next hf => rw [if_pos hf] at h; exact foldL_app T a b _ h
    · next hf => rw [if_neg hf] at h; exact absurd h hf
theorem foldL_one (T : Nat → List UInt8) (ws : List Wd) (s : Rs) (h : s.fault = none) : foldL T [ws] s = lineF T ws s := by
  rw [foldL, if_pos h, foldL]
/-- the circle that is told is one. -/
theorem circle_one {l : List Ga} {a b : Int} (ha : CircleIs l a) (hb : CircleIs l b) : a = b := by
  rcases ha with ⟨rfl, na⟩ | ⟨i, rfl, hi, wi, ni⟩
  · rcases hb with ⟨rfl, _⟩ | ⟨j, rfl, hj, wj, nj⟩
    · rfl
    · exact absurd wj (na j)
  · rcases hb with ⟨rfl, nb⟩ | ⟨j, rfl, hj, wj, nj⟩
    · exact absurd wi (nb i)
    · rcases Nat.lt_trichotomy i j with h | h | h
      · exact absurd wi (nj i h)
      · rw [h]
      · exact absurd wj (ni j h)
end Go.Proofs.YtfmmmhcpdinhgabDoor
/-
  The document's reading: a line's faults have codes. Pure.
-/
namespace Go.Proofs.YtfmmmhcpdinhgabDoor
open Go.RowKit Go.Deep PureNet PureRd
set_option maxRecDepth 100000

theorem chk_code (T : Nat → List UInt8) (s : Rs) : ∀ (cs : List UInt8) (l : Wd) (t : List Wd) (it : It) (p : Int × Nat) (jt : It), chk T s cs l t it = (some p, jt) → p.1 = 140 ∨ p.1 = 141
  | [], l, t, it, p, jt, h => by
    rw [chk] at h
    simp only [Prod.mk.injEq, Option.map_eq_some_iff] at h
    obtain ⟨⟨z, _, hz⟩, _⟩ := h
    rw [← hz]
    exact .inl rfl
  | c :: cs, l, [], it, p, jt, h => by
    rw [chk] at h
    simp only [Prod.mk.injEq, Option.some.injEq] at h
    rw [← h.1]
    exact .inl rfl
  | c :: cs, l, y :: t, it, p, jt, h => by
    rw [chk] at h
    split at h
    · split at h
      · split at h
        · simp only [Prod.mk.injEq, Option.some.injEq] at h
          rw [← h.1]
          exact .inr rfl
        · exact chk_code T s cs y t _ p jt h
      · simp only [Prod.mk.injEq, Option.some.injEq] at h
        rw [← h.1]
        exact .inl rfl
    · split at h
      · split at h
        · simp only [Prod.mk.injEq, Option.some.injEq] at h
          rw [← h.1]
          exact .inl rfl
        · exact chk_code T s cs y t _ p jt h
      · split at h
        · split at h
          · simp only [Prod.mk.injEq, Option.some.injEq] at h
            rw [← h.1]
            exact .inl rfl
          · exact chk_code T s cs y t _ p jt h
        · split at h
          · exact chk_code T s cs y t _ p jt h
          · simp only [Prod.mk.injEq, Option.some.injEq] at h
            rw [← h.1]
            exact .inl rfl
theorem line_code (T : Nat → List UInt8) {s : Rs} (y : Wd) (t : List Wd) (hf : s.fault = none) (hm : s.mode ≤ 2) (p : Int × Nat) (h : (lineF T (y :: t) s).fault = some p) : p.1 ≠ 0 := by
  have fin : ∀ {c : Int} {a : Nat}, (lineF T (y :: t) s).fault = some (c, a) → c ≠ 0 → p.1 ≠ 0 := fun he hc => by
    rw [he, Option.some.injEq] at h
    rw [← h]
    exact hc
  by_cases h2 : s.mode = 2
  · exact fin (line_done T hf h2) (by decide)
  by_cases h0 : s.mode = 0
  · by_cases hy : y.1 = cirW
    · match t, h, @fin with
      | [], _, fin => exact fin (line_head_none T hf h0 hy) (by decide)
      | [z], h, fin =>
        cases hn : nameL z.1 with
        | false => exact fin (line_head_bad T hf h0 hy hn) (by decide)
        | true => rw [line_head_ok T h0 hy hn] at h; simp [hf] at h
      | z :: q :: u, _, fin =>
        cases hn : nameL z.1 with
        | false => exact fin (line_head_bad T hf h0 hy hn) (by decide)
        | true => exact fin (line_head_more T hf h0 hy hn) (by decide)
    · exact fin (line_not_head T hf h0 hy) (by decide)
  have h1 : s.mode = 1 := by omega
  by_cases hy : y.1 = endW
  · match t, h, @fin with
    | [], h, _ => rw [line_end_ok T h1 hy] at h; simp [hf] at h
    | z :: u, _, fin => exact fin (line_end_more T hf h1 hy) (by decide)
  by_cases hw : formW y.1 = []
  · exact fin (line_odd T hf h1 hy hw) (by decide)
  by_cases ho : y.1 = outW
  · by_cases hm2 : s.outs = 65536
    · exact fin (line_out_many T hf h1 ho hm2) (by decide)
    · obtain ⟨q1, q2⟩ := line_out T hf h1 ho hm2 _ _ rfl (t := t)
      cases hc : (chk T s [117] y t it0).1 with
      | some q =>
        have e := q1 q hc
        rw [e, Option.some.injEq] at h
        rw [← h]
        rcases chk_code T s [117] y t it0 q (chk T s [117] y t it0).2 (by rw [← hc]) with e | e <;> rw [e] <;> decide
      | none =>
        obtain ⟨l, hl⟩ := q2 hc
        rw [hl] at h
        have : (outed s l (chk T s [117] y t it0).2).fault = s.fault := rfl
        rw [this, hf] at h
        simp at h
  · obtain ⟨q0, q⟩ := line_gate T hf h1 ho hw (t := t)
    by_cases hm2 : s.names.length = 65536
    · exact fin (q0 hm2) (by decide)
    · obtain ⟨q1, q2⟩ := q hm2 _ _ rfl
      cases hc : (chk T s (formW y.1) y t it0).1 with
      | some q =>
        have e := q1 q hc
        rw [e, Option.some.injEq] at h
        rw [← h]
        rcases chk_code T s (formW y.1) y t it0 q (chk T s (formW y.1) y t it0).2 (by rw [← hc]) with e | e <;> rw [e] <;> decide
      | none =>
        obtain ⟨l, hl⟩ := q2 hc
        rw [hl] at h
        have : (added (kindW y.1) s l (chk T s (formW y.1) y t it0).2).fault = s.fault := rfl
        rw [this, hf] at h
        simp at h
/-- the document's reading, begun. -/
theorem Dr.start {w W : World} {text : List UInt8} (hW : W = (w.alloc (Obj.cells #[.slice none 0 0, .slice none 0 0] 45)).alloc (Obj.cells #[.string ⟨#[]⟩, .slice none 0 0, .slice none 0 0, .pointer (some ⟨w.heap.size, 0, none⟩), .slice none 0 0, .slice none 0 0, .bool false] 49)) :
    Dr w W (w.heap.size + 1) text (dOf PureRd.start) ⟨w.heap.size, .slice none 0 0, .slice none 0 0, .slice none 0 0, .slice none 0 0, .slice none 0 0, .slice none 0 0, [], []⟩ := by
  have b1 : Below w.heap.size w W := by rw [hW]; exact ((Below.refl _ _).alloc (Nat.le_refl _) _).alloc (by simp) _
  have hb : W.heap[w.heap.size + 1]? = some (.cells #[.string ⟨#[]⟩, .slice none 0 0, .slice none 0 0, .pointer (some ⟨w.heap.size, 0, none⟩), .slice none 0 0, .slice none 0 0, .bool false] 49 (0, 0)) := by
    have := heap_alloc_new (w.alloc (Obj.cells #[.slice none 0 0, .slice none 0 0] 45)) (Obj.cells #[.string ⟨#[]⟩, .slice none 0 0, .slice none 0 0, .pointer (some ⟨w.heap.size, 0, none⟩), .slice none 0 0, .slice none 0 0, .bool false] 49)
    rw [hW]
    simpa using this
  have hk : W.heap[w.heap.size]? = some (.cells #[.slice none 0 0, .slice none 0 0] 45 (0, 0)) := by
    rw [hW, Lib.alloc_old _ _ _ (by simp)]
    exact heap_alloc_new w _
  exact ⟨hb, by omega, hk, Nat.le_refl _, World.ownsRow_nil _ _ _ _, World.ownsRow_nil _ _ _ _, World.ownsRow_nil _ _ _ _, World.ownsRow_nil _ _ _ _, World.ownsRow_nil _ _ _ _, World.ownsRow_nil _ _ _ _, fun g hg => by simp [Value.ownBlock] at hg, rfl, fun i j a b _ h => by simp at h, fun k => rfl, b1, rfl, fun p hp => by simp at hp⟩
theorem lnC_at (text : List UInt8) (ls : List (List Wd × Value)) (hne : ∀ x ∈ ls, x.1 ≠ []) : ∀ (k j : Nat) (x : List Wd × Value), ls[k]? = some x → j < 3 → (lnC text ls)[k * 3 + j]? = (x.2 :: enC text x.1)[j]? := by
  induction ls with
  | nil => intro k j x h; simp at h
  | cons z t ih =>
    intro k j x h hj
    have e : lnC text (z :: t) = (z.2 :: enC text z.1) ++ lnC text t := by simp [lnC]
    have hl : (z.2 :: enC text z.1).length = 3 := by
      have h1 := hne z (by simp)
      unfold enC
      cases hg : z.1.getLast? with
      | none => rw [List.getLast?_eq_none_iff] at hg; exact absurd hg h1
      | some y => rfl
    rw [e]
    cases k with
    | zero =>
      simp at h
      subst h
      rw [Nat.zero_mul, Nat.zero_add, List.getElem?_append_left (by omega)]
    | succ k =>
      rw [List.getElem?_append_right (by omega)]
      have : (k + 1) * 3 + j - (z.2 :: enC text z.1).length = k * 3 + j := by omega
      rw [this]
      exact ih (fun y hy => hne y (List.mem_cons_of_mem _ hy)) k j x (by simpa using h) hj
theorem enC_two (text : List UInt8) {ws : List Wd} (h : ws ≠ []) : ∃ a b : Int, enC text ws = [.int .i64 a, .int .i64 b] := by
  unfold enC
  cases hg : ws.getLast? with
  | none => rw [List.getLast?_eq_none_iff] at hg; exact absurd hg h
  | some y => exact ⟨_, _, rfl⟩
end Go.Proofs.YtfmmmhcpdinhgabDoor
/-
  The document's own Parse: what its loop knows.
-/
namespace Go.Proofs.YtfmmmhcpdinhgabDoor
open Go.RowKit Go.Deep PureNet PureRd
set_option maxRecDepth 100000

/-- what the loop over the lines knows. -/
structure Lo (T : Nat → List UInt8) (text : List UInt8) (W4 WL : World) (r i : Nat) (s : Rs) (x : Dx) : Prop where
  fold : s = foldL T ((linesO text).take i) PureRd.start
  flt : s.fault = none
  inv : Inv s
  ov : Ov s
  mode : s.mode ≤ 2
  first : (s.mode == 0) = ((i : Int) == 0)
  dr : Dr W4 WL r text (dOf s) x
theorem Lo.next {T : Nat → List UInt8} {text : List UInt8} {W4 WL WL' : World} {r i : Nat} {s : Rs} {x x' : Dx} (h : Lo T text W4 WL r i s x) {y : Wd} {t : List Wd} (hy : (linesO text)[i]? = some (y :: t)) (hf : (lineF T (y :: t) s).fault = none) (hd : Dr W4 WL' r text (dOf (lineF T (y :: t) s)) x') : Lo T text W4 WL' r (i + 1) (lineF T (y :: t) s) x' := by
  obtain ⟨o1, m1, m2⟩ := Ov.line T y t h.ov h.flt h.mode hf
  refine ⟨?_, hf, h.inv.line T _, o1, m2, ?_, hd⟩
  · have e : (linesO text).take (i + 1) = (linesO text).take i ++ [y :: t] := by rw [List.take_add_one, hy]; rfl
    rw [e, foldL_app T _ _ _ (by rw [← h.fold]; exact h.flt), ← h.fold, foldL_one T _ _ h.flt]
  · have a : ((lineF T (y :: t) s).mode == 0) = false := by
      have : (lineF T (y :: t) s).mode ≠ 0 := by omega
      simpa using this
    have b : (((i + 1 : Nat) : Int) == 0) = false := by
      have : ((i + 1 : Nat) : Int) ≠ 0 := by omega
      simpa using this
    rw [a, b]
/-- a fault in a line is what the text is read to. -/
theorem Lo.fault {T : Nat → List UInt8} {text : List UInt8} {W4 WL : World} {r i : Nat} {s : Rs} {x : Dx} (h : Lo T text W4 WL r i s x) {y : Wd} {t : List Wd} (hy : (linesO text)[i]? = some (y :: t)) {p : Int × Nat} (hp : (lineF T (y :: t) s).fault = some p) : (readLinesF T text PureRd.start).fault = some p := by
  have hi : i < (linesO text).length := (List.getElem?_eq_some_iff.1 hy).1
  have e : linesO text = (linesO text).take i ++ (y :: t) :: (linesO text).drop (i + 1) := by
    conv => lhs; rw [← List.take_append_drop i (linesO text)]
    rw [List.drop_eq_getElem_cons hi, (List.getElem?_eq_some_iff.1 hy).2]
  have e2 : foldL T (linesO text) PureRd.start = lineF T (y :: t) s := by
    rw [e, foldL_app T _ _ _ (by rw [← h.fold]; exact h.flt), ← h.fold, foldL, if_pos h.flt, foldL_fault T _ _ (by rw [hp]; simp)]
  rw [read_fold, e2]
  split
  · rw [refuse_stays hp]; exact hp
  · exact hp
theorem Lo.short {T : Nat → List UInt8} {text : List UInt8} {W4 WL : World} {r i : Nat} {s : Rs} {x : Dx} (h : Lo T text W4 WL r i s x) (hi : i = (linesO text).length) (hm : s.mode ≠ 2) : (readLinesF T text PureRd.start).fault = some (140, text.length) := by
  have e2 : foldL T (linesO text) PureRd.start = s := by rw [h.fold, hi, List.take_length]
  rw [read_fold, e2, if_pos (by have := h.mode; omega), refuse_set h.flt]
theorem Lo.whole {T : Nat → List UInt8} {text : List UInt8} {W4 WL : World} {r i : Nat} {s : Rs} {x : Dx} (h : Lo T text W4 WL r i s x) (hi : i = (linesO text).length) (hm : s.mode = 2) : readLinesF T text PureRd.start = s := by
  have e2 : foldL T (linesO text) PureRd.start = s := by rw [h.fold, hi, List.take_length]
  rw [read_fold, e2, if_neg (by omega)]
end Go.Proofs.YtfmmmhcpdinhgabDoor
