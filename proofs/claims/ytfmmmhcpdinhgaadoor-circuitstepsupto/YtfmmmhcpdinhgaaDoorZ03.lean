import Derived.Test.YtfmmmhcpdinhgaaDoorZ02
/-
  Circles: where each line of a set leans on one of it, one of it is in a circle.
-/
namespace PureNet
set_option maxRecDepth 100000

theorem holes (n : Nat) : ∀ f : Nat → Nat, (∀ k, k ≤ n → f k < n) → ∃ a b, a < b ∧ b ≤ n ∧ f a = f b := by
  induction n with
  | zero => intro f h; have := h 0 (Nat.le_refl _); omega
  | succ n ih =>
    intro f h
    by_cases hx : ∃ k, k ≤ n ∧ f k = f (n + 1)
    · obtain ⟨k, hk, e⟩ := hx
      exact ⟨k, n + 1, by omega, Nat.le_refl _, e⟩
    · have hne : ∀ k, k ≤ n → f k ≠ f (n + 1) := fun k hk e => hx ⟨k, hk, e⟩
      obtain ⟨a, b, hab, hb, e⟩ := ih (fun k => if f k = n then f (n + 1) else f k) (fun k hk => by
        have h1 := h k (by omega)
        have h2 := h (n + 1) (Nat.le_refl _)
        have h3 := hne k hk
        show (if f k = n then f (n + 1) else f k) < n
        split <;> omega)
      refine ⟨a, b, hab, by omega, ?_⟩
      have ha := hne a (by omega)
      have hb' := hne b hb
      have e2 : (if f a = n then f (n + 1) else f a) = (if f b = n then f (n + 1) else f b) := e
      split at e2 <;> split at e2 <;> omega
theorem circle_of {l : List Ga} (S : Nat → Prop) (hS : ∀ i, S i → i < l.length ∧ ∃ j, Leans l i j ∧ S j) {i : Nat} (hi : S i) : ∃ k, S k ∧ Way l k k := by
  have nx : ∀ x : { i // S i }, ∃ y : { i // S i }, Leans l x.1 y.1 := fun x => by
    obtain ⟨_, j, h1, h2⟩ := hS x.1 x.2
    exact ⟨⟨j, h2⟩, h1⟩
  obtain ⟨g, hg⟩ : ∃ g : { i // S i } → { i // S i }, ∀ x, Leans l x.1 (g x).1 := ⟨fun x => Classical.choose (nx x), fun x => Classical.choose_spec (nx x)⟩
  let f : Nat → { i // S i } := fun k => Nat.rec ⟨i, hi⟩ (fun _ x => g x) k
  have hstep : ∀ k, Leans l (f k).1 (f (k + 1)).1 := fun k => hg (f k)
  have hway : ∀ a d, Way l (f a).1 (f (a + d + 1)).1 := fun a d => by
    induction d with
    | zero => exact .one (hstep a)
    | succ d ih => exact way_snoc ih (hstep (a + d + 1))
  obtain ⟨a, b, hab, _, e⟩ := holes l.length (fun k => (f k).1) (fun k _ => (hS _ (f k).2).1)
  have hw := hway a (b - a - 1)
  rw [show a + (b - a - 1) + 1 = b by omega] at hw
  refine ⟨(f a).1, (f a).2, ?_⟩
  have e2 : (f a).1 = (f b).1 := e
  rw [← e2] at hw
  exact hw
theorem filter_le {α : Type} (p q : α → Bool) : ∀ (l : List α), (∀ x ∈ l, p x = true → q x = true) → (l.filter p).length ≤ (l.filter q).length := by
  intro l
  induction l with
  | nil => intro _; simp
  | cons x r ih =>
    intro h
    have hr := ih (fun y hy => h y (List.mem_cons_of_mem _ hy))
    have hx := h x (by simp)
    cases hp : p x with
    | true => simp [hp, hx hp]; exact hr
    | false => cases hq : q x <;> simp [hp, hq] <;> omega
theorem filter_lt {α : Type} (p q : α → Bool) : ∀ (l : List α), (∀ x ∈ l, p x = true → q x = true) → (∃ x ∈ l, q x = true ∧ p x = false) → (l.filter p).length < (l.filter q).length := by
  intro l
  induction l with
  | nil => rintro _ ⟨x, hx, _⟩; cases hx
  | cons x r ih =>
    rintro h ⟨y, hy, hq, hp⟩
    have hle := filter_le p q r (fun z hz => h z (List.mem_cons_of_mem _ hz))
    rcases List.mem_cons.1 hy with rfl | hy
    · simp [hq, hp]; omega
    · have hr := ih (fun z hz => h z (List.mem_cons_of_mem _ hz)) ⟨y, hy, hq, hp⟩
      have hx := h x (by simp)
      cases hp2 : p x with
      | true => simp [hp2, hx hp2]; exact hr
      | false => cases hq2 : q x <;> simp [hp2, hq2] <;> omega
open Classical in
/-- without circles there is an order. -/
theorem ranked_of_free {l : List Ga} (hl : ∀ (i : Nat) (g : Ga), l[i]? = some g → lineB g l.length = true) (hf : ∀ i, ¬ Way l i i) : ∃ r, Ranked l r := by
  refine ⟨fun i => ((List.range l.length).filter fun x => decide (Way l i x)).length, fun i j h => ?_⟩
  have hj : j < l.length := by
    obtain ⟨g, hg, hm⟩ := h
    have := lineB_leans (hl i g hg) hm
    omega
  refine filter_lt _ _ _ (fun x _ hx => ?_) ⟨j, by simpa using hj, ?_, ?_⟩
  · simp only [decide_eq_true_eq] at hx ⊢
    exact .more h hx
  · simp only [decide_eq_true_eq]
    exact .one h
  · simp only [decide_eq_false_iff_not]
    exact hf j
/-- the values of a formed circuit are just these. -/
theorem Formed.unique {c : Net} (h : Formed c) {ins las v v' : List Bool} (hv : Vals c.gates ins las v) (hv' : Vals c.gates ins las v') : v = v' := by
  obtain ⟨r, hr⟩ := ranked_of_free (fun i g hg => (h.lines i g hg).2) h.free
  exact vals_unique hr (fun i g hg => (h.lines i g hg).2) hv hv'
end PureNet
/-
  The search of the program, by lists: its state, its steps; where no line is in a circle.
-/
namespace PureNet

/-- the state of a search. -/
structure Ps where
  met : Nat → Int
  reached : Nat → Int
  part : Nat → Int
  way : List (Nat × List Nat)
  waiting : List Nat
  out : List Nat
def upd (f : Nat → Int) (x : Nat) (v : Int) : Nat → Int := fun y => if y = x then v else f y
def leanN (l : List Ga) (x : Nat) : List Nat := match l[x]? with | some g => (leansOn g).map Int.toNat | none => []
def Ps.number (s : Ps) : Int := (s.out.length : Int) + ((s.waiting.length : Int) + 1)
def Ps.meet (l : List Ga) (s : Ps) (x : Nat) : Ps := ⟨upd s.met x s.number, upd s.reached x s.number, s.part, s.way ++ [(x, leanN l x)], s.waiting ++ [x], s.out⟩
def Ps.reach (s : Ps) (x : Nat) (m : Int) : Ps := ⟨s.met, upd s.reached x (min (s.reached x) m), s.part, s.way, s.waiting, s.out⟩
def Ps.goes (s : Ps) (way : List (Nat × List Nat)) : Ps := ⟨s.met, s.reached, s.part, way, s.waiting, s.out⟩
/-- a part comes out: what waits from x on, the last first. -/
def Ps.comeOut (s : Ps) (pre post : List Nat) (x : Nat) : Ps := ⟨s.met, s.reached, fun y => if y ∈ x :: post then s.met x else s.part y, s.way, pre, s.out ++ (x :: post).reverse⟩

/-- what is in bounds. -/
structure Ps.Ok (l : List Ga) (s : Ps) : Prop where
  way : ∀ a ∈ s.way, a.1 < l.length ∧ ∀ y ∈ a.2, y < l.length
  wait : ∀ x ∈ s.waiting, x < l.length
  wayN : s.way.length ≤ l.length
  outN : s.out.length + s.waiting.length ≤ l.length
/-- what a search keeps, by a measure. -/
structure Keeps (l : List Ga) (I : Ps → Prop) (m : Ps → Nat) : Prop where
  ok : ∀ s, I s → s.Ok l
  back : ∀ s ws x, I s → s.way = ws ++ [(x, [])] → s.reached x = s.met x → ∃ pre post, s.waiting = pre ++ x :: post ∧ x ∉ post ∧ s.part x = 0 ∧ s.met x ≠ 0 ∧ I ((s.goes ws).comeOut pre post x) ∧ m ((s.goes ws).comeOut pre post x) < m s
  on : ∀ s ws x, I s → s.way = ws ++ [(x, [])] → s.reached x ≠ s.met x → ∃ vs y lf, ws = vs ++ [(y, lf)] ∧ I ((s.goes ws).reach y (s.reached x)) ∧ m ((s.goes ws).reach y (s.reached x)) < m s
  meet : ∀ s ws x y lf, I s → s.way = ws ++ [(x, y :: lf)] → s.met y = 0 → I ((s.goes (ws ++ [(x, lf)])).meet l y) ∧ m ((s.goes (ws ++ [(x, lf)])).meet l y) < m s
  again : ∀ s ws x y lf, I s → s.way = ws ++ [(x, y :: lf)] → s.met y ≠ 0 → s.part y = 0 → I ((s.goes (ws ++ [(x, lf)])).reach x (s.met y)) ∧ m ((s.goes (ws ++ [(x, lf)])).reach x (s.met y)) < m s
  past : ∀ s ws x y lf, I s → s.way = ws ++ [(x, y :: lf)] → s.met y ≠ 0 → s.part y ≠ 0 → I (s.goes (ws ++ [(x, lf)])) ∧ m (s.goes (ws ++ [(x, lf)])) < m s

/-- a search where no line is in a circle. -/
structure Sr (l : List Ga) (P : Nat → Prop) (S0 : List Nat) (E : Nat → Prop) (s : Ps) : Prop where
  rea : s.reached = s.met
  wai : s.waiting = s.way.map Prod.fst
  par : ∀ y, s.part y = if y ∈ s.out then s.met y else 0
  nd : (s.out ++ s.way.map Prod.fst).Nodup
  lt : ∀ x ∈ s.out ++ s.way.map Prod.fst, x < l.length
  met : ∀ x, s.met x ≠ 0 ↔ x ∈ s.out ++ s.way.map Prod.fst
  top : ∀ x, s.met x ≤ ((s.out ++ s.way.map Prod.fst).length : Int)
  inj : ∀ x y, s.met x = s.met y → s.met x ≠ 0 → x = y
  ord : ∀ (i x y : Nat), s.out[i]? = some x → Leans l x y → ∃ j, j < i ∧ s.out[j]? = some y
  chain : ∀ (k : Nat) (a b : Nat × List Nat), s.way[k]? = some a → s.way[k + 1]? = some b → Leans l a.1 b.1
  left : ∀ (k : Nat) (a : Nat × List Nat), s.way[k]? = some a → ∀ y, Leans l a.1 y → y ∈ a.2 ∨ y ∈ s.out ∨ (∃ b, s.way[k + 1]? = some b ∧ b.1 = y) ∨ (k + 1 = s.way.length ∧ E y)
  leftL : ∀ a ∈ s.way, ∀ y ∈ a.2, Leans l a.1 y
  allow : ∀ x ∈ s.out ++ s.way.map Prod.fst, P x
  keep : ∀ x ∈ S0, x ∈ s.out ++ s.way.map Prod.fst
def Ps.left (n : Nat) (s : Ps) : Nat := 5 * (n - (s.out ++ s.way.map Prod.fst).length) + (s.way.map fun a => a.2.length + 1).sum

theorem leanN_mem {l : List Ga} (hl : ∀ (i : Nat) (g : Ga), l[i]? = some g → ∀ a ∈ leansOn g, 0 ≤ a ∧ a < (l.length : Int)) (x y : Nat) : y ∈ leanN l x ↔ Leans l x y := by
  unfold leanN Leans
  cases h : l[x]? with
  | none => simp
  | some g =>
    simp only [List.mem_map, Option.some.injEq, exists_eq_left']
    constructor
    · rintro ⟨a, ha, rfl⟩
      rw [Int.toNat_of_nonneg (hl x g h a ha).1]
      exact ha
    · intro hy
      exact ⟨_, hy, by simp⟩
theorem leanN_len (l : List Ga) (x : Nat) : (leanN l x).length ≤ 3 := by
  unfold leanN
  cases l[x]? with
  | none => simp
  | some g =>
    simp only [List.length_map]
    unfold leansOn
    split
    · simp
    · split <;> simp
theorem few_of_nodup {n : Nat} {L : List Nat} (hn : L.Nodup) (hl : ∀ x ∈ L, x < n) : L.length ≤ n := by
  apply Classical.byContradiction
  intro hno
  have hat : ∀ k, k ≤ n → k < L.length := fun k hk => by omega
  obtain ⟨a, b, hab, hb, e⟩ := holes n (fun k => L.getD k 0) (fun k hk => by
    show L.getD k 0 < n
    rw [List.getD_eq_getElem?_getD, List.getElem?_eq_getElem (hat k hk)]
    exact hl _ (List.getElem_mem _))
  have e2 : L.getD a 0 = L.getD b 0 := e
  rw [List.getD_eq_getElem?_getD, List.getD_eq_getElem?_getD, List.getElem?_eq_getElem (hat a (by omega)), List.getElem?_eq_getElem (hat b hb)] at e2
  have := (List.getElem?_inj (hat a (by omega)) hn).1 (show L[a]? = L[b]? by rw [List.getElem?_eq_getElem (hat a (by omega)), List.getElem?_eq_getElem (hat b hb)]; exact congrArg some e2)
  omega
theorem way_chain {l : List Ga} {way : List (Nat × List Nat)} (h : ∀ (k : Nat) (a b : Nat × List Nat), way[k]? = some a → way[k + 1]? = some b → Leans l a.1 b.1) : ∀ (d k : Nat) (a b : Nat × List Nat), way[k]? = some a → way[k + d + 1]? = some b → Way l a.1 b.1 := by
  intro d
  induction d with
  | zero => intro k a b ha hb; exact .one (h k a b ha hb)
  | succ d ih =>
    intro k a b ha hb
    have hk : k + d + 1 < way.length := by
      have := (List.getElem?_eq_some_iff.1 hb).1
      omega
    have hm : way[k + d + 1]? = some way[k + d + 1] := List.getElem?_eq_getElem hk
    exact way_snoc (ih k a _ ha hm) (h _ _ _ hm hb)

section
variable {l : List Ga} {P : Nat → Prop} {S0 : List Nat} {E : Nat → Prop} {s : Ps}
theorem Sr.ok (hl : ∀ (i : Nat) (g : Ga), l[i]? = some g → ∀ a ∈ leansOn g, 0 ≤ a ∧ a < (l.length : Int)) (h : Sr l P S0 E s) : s.Ok l := by
  have hfew := few_of_nodup h.nd h.lt
  rw [List.length_append, List.length_map] at hfew
  refine ⟨fun a ha => ⟨h.lt _ (List.mem_append_right _ (List.mem_map_of_mem ha)), fun y hy => ?_⟩, fun x hx => h.lt x (List.mem_append_right _ (by rw [← h.wai]; exact hx)), by omega, by rw [h.wai, List.length_map]; omega⟩
  obtain ⟨g, hg, hy2⟩ := h.leftL a ha y hy
  have := hl _ g hg _ hy2
  omega
theorem Sr.at_last (ws : List (Nat × List Nat)) (a : Nat × List Nat) : (ws ++ [a])[ws.length]? = some a := by simp
/-- what is met, and not out, is on the way. -/
theorem Sr.no_again (hf : ∀ i, ¬ Way l i i) (h : Sr l P S0 E s) {ws : List (Nat × List Nat)} {x y : Nat} {lf : List Nat} (hw : s.way = ws ++ [(x, y :: lf)]) (hm : s.met y ≠ 0) : s.part y ≠ 0 := by
  intro hp
  have hy := (h.met y).1 hm
  have hno : y ∉ s.out := fun ho => by
    have := h.par y
    rw [if_pos ho] at this
    exact hm (by rw [← this]; exact hp)
  have hyw : y ∈ s.way.map Prod.fst := by
    rcases List.mem_append.1 hy with h1 | h1
    · exact absurd h1 hno
    · exact h1
  obtain ⟨a, ha, rfl⟩ := List.mem_map.1 hyw
  obtain ⟨k, hk, hka⟩ := List.getElem_of_mem ha
  have hka2 : s.way[k]? = some a := by rw [List.getElem?_eq_getElem hk, hka]
  have hx : s.way[ws.length]? = some (x, a.1 :: lf) := by rw [hw]; exact Sr.at_last _ _
  have hlean : Leans l x a.1 := h.leftL (x, a.1 :: lf) (by rw [hw]; simp) a.1 (by simp)
  have hkl : k ≤ ws.length := by rw [hw, List.length_append, List.length_singleton] at hk; omega
  by_cases hkw : k = ws.length
  · rw [hkw] at hka2
    rw [hx] at hka2
    have e1 : x = a.1 := congrArg Prod.fst (Option.some.inj hka2)
    rw [← e1] at hlean
    exact hf _ (.one hlean)
  · have := way_chain h.chain (ws.length - k - 1) k a (x, a.1 :: lf) hka2 (by rw [show k + (ws.length - k - 1) + 1 = ws.length by omega]; exact hx)
    exact hf _ (way_snoc this hlean)
theorem Sr.take (h : Sr l P S0 (fun _ => False) s) {ws : List (Nat × List Nat)} {x y : Nat} {lf : List Nat} (hw : s.way = ws ++ [(x, y :: lf)]) : Sr l P S0 (fun z => z = y) (s.goes (ws ++ [(x, lf)])) := by
  have hm : (ws ++ [(x, lf)]).map Prod.fst = s.way.map Prod.fst := by rw [hw]; simp
  have hat : ∀ (k : Nat) (a : Nat × List Nat), (ws ++ [(x, lf)])[k]? = some a → ∃ b, s.way[k]? = some b ∧ b.1 = a.1 ∧ (∀ z, z ∈ b.2 → z ∈ a.2 ∨ (k + 1 = (ws ++ [(x, lf)]).length ∧ z = y)) ∧ ∀ z ∈ a.2, z ∈ b.2 := fun k a hk => by
    by_cases hlt : k < ws.length
    · rw [List.getElem?_append_left hlt] at hk
      exact ⟨a, by rw [hw, List.getElem?_append_left hlt]; exact hk, rfl, fun z hz => .inl hz, fun z hz => hz⟩
    · have hk2 := (List.getElem?_eq_some_iff.1 hk).1
      rw [List.length_append, List.length_singleton] at hk2
      obtain rfl : k = ws.length := by omega
      rw [Sr.at_last] at hk
      obtain rfl := Option.some.inj hk
      refine ⟨(x, y :: lf), by rw [hw]; exact Sr.at_last _ _, rfl, fun z hz => ?_, fun z hz => by simp [show z ∈ lf from hz]⟩
      rcases List.mem_cons.1 hz with rfl | hz
      · exact .inr ⟨by simp, rfl⟩
      · exact .inl hz
  have hback : ∀ (k : Nat) (b : Nat × List Nat), s.way[k]? = some b → ∃ a, (ws ++ [(x, lf)])[k]? = some a ∧ a.1 = b.1 := fun k b hk => by
    have hk2 := (List.getElem?_eq_some_iff.1 hk).1
    have hk3 : k < (ws ++ [(x, lf)]).length := by rw [hw] at hk2; simpa using hk2
    obtain ⟨b', hb', e, _⟩ := hat k _ (List.getElem?_eq_getElem hk3)
    rw [hk] at hb'
    obtain rfl := Option.some.inj hb'
    exact ⟨_, List.getElem?_eq_getElem hk3, e.symm⟩
  refine ⟨h.rea, by show s.waiting = (ws ++ [(x, lf)]).map Prod.fst; rw [hm]; exact h.wai, h.par, ?_, ?_, ?_, ?_, h.inj, h.ord, fun k a b ha hb => ?_, fun k a ha z hz => ?_, fun a ha z hz => ?_, ?_, ?_⟩
  · show (s.out ++ (ws ++ [(x, lf)]).map Prod.fst).Nodup
    rw [hm]; exact h.nd
  · show ∀ z ∈ s.out ++ (ws ++ [(x, lf)]).map Prod.fst, z < l.length
    rw [hm]; exact h.lt
  · show ∀ z, s.met z ≠ 0 ↔ z ∈ s.out ++ (ws ++ [(x, lf)]).map Prod.fst
    rw [hm]; exact h.met
  · show ∀ z, s.met z ≤ ((s.out ++ (ws ++ [(x, lf)]).map Prod.fst).length : Int)
    rw [hm]; exact h.top
  · obtain ⟨a', ha', ea, _⟩ := hat k a ha
    obtain ⟨b', hb', eb, _⟩ := hat (k + 1) b hb
    rw [← ea, ← eb]
    exact h.chain k a' b' ha' hb'
  · obtain ⟨a', ha', ea, h1, h2⟩ := hat k a ha
    rw [← ea] at hz
    rcases h.left k a' ha' z hz with hz2 | hz2 | ⟨b, hb, e⟩ | ⟨_, hno⟩
    · rcases h1 z hz2 with hz3 | hz3
      · exact .inl hz3
      · exact .inr (.inr (.inr hz3))
    · exact .inr (.inl hz2)
    · obtain ⟨b', hb', e'⟩ := hback (k + 1) b hb
      exact .inr (.inr (.inl ⟨b', hb', e'.trans e⟩))
    · exact hno.elim
  · have ha : a ∈ ws ++ [(x, lf)] := ha
    obtain ⟨k, hk, e⟩ := List.getElem_of_mem ha
    obtain ⟨a', ha', ea, _, h2⟩ := hat k a (by rw [List.getElem?_eq_getElem hk, e])
    rw [← ea]
    exact h.leftL a' (List.mem_of_getElem? ha') z (h2 z hz)
  · show ∀ z ∈ s.out ++ (ws ++ [(x, lf)]).map Prod.fst, P z
    rw [hm]; exact h.allow
  · show ∀ z ∈ S0, z ∈ s.out ++ (ws ++ [(x, lf)]).map Prod.fst
    rw [hm]; exact h.keep
theorem Sr.settle (h : Sr l P S0 E s) (hE : ∀ z, E z → z ∈ s.out) : Sr l P S0 (fun _ => False) s :=
  ⟨h.rea, h.wai, h.par, h.nd, h.lt, h.met, h.top, h.inj, h.ord, h.chain, fun k a ha z hz => by
    rcases h.left k a ha z hz with h1 | h1 | h1 | ⟨_, h1⟩
    · exact .inl h1
    · exact .inr (.inl h1)
    · exact .inr (.inr (.inl h1))
    · exact .inr (.inl (hE z h1)), h.leftL, h.allow, h.keep⟩
/-- a line is met. -/
theorem Sr.meet (hl : ∀ (i : Nat) (g : Ga), l[i]? = some g → ∀ a ∈ leansOn g, 0 ≤ a ∧ a < (l.length : Int)) (h : Sr l P S0 E s) {y : Nat} (hE : ∀ z, E z → z = y) (hy : y < l.length) (hm : s.met y = 0) (hP : P y)
    (hlast : ∀ ws a, s.way = ws ++ [a] → Leans l a.1 y) : Sr l P S0 (fun _ => False) (s.meet l y) := by
  have hno : y ∉ s.out ++ s.way.map Prod.fst := fun hin => (h.met y).2 hin hm
  have hmap : (s.way ++ [(y, leanN l y)]).map Prod.fst = s.way.map Prod.fst ++ [y] := by simp
  have hnum : s.number = ((s.out ++ s.way.map Prod.fst).length : Int) + 1 := by
    unfold Ps.number
    rw [h.wai, List.length_append]
    simp
    omega
  have happ : s.out ++ (s.way.map Prod.fst ++ [y]) = (s.out ++ s.way.map Prod.fst) ++ [y] := by rw [List.append_assoc]
  refine ⟨?_, ?_, fun z => ?_, ?_, ?_, fun z => ?_, fun z => ?_, fun a b hab ha => ?_, h.ord, fun k a b ha hb => ?_, fun k a ha z hz => ?_, fun a ha z hz => ?_, ?_, ?_⟩
  · show upd s.reached y s.number = upd s.met y s.number
    rw [h.rea]
  · show s.waiting ++ [y] = (s.way ++ [(y, leanN l y)]).map Prod.fst
    rw [hmap, h.wai]
  · show s.part z = if z ∈ s.out then upd s.met y s.number z else 0
    rw [h.par z]
    by_cases hz : z ∈ s.out
    · rw [if_pos hz, if_pos hz, upd, if_neg (by rintro rfl; exact hno (List.mem_append_left _ hz))]
    · rw [if_neg hz, if_neg hz]
  · show (s.out ++ (s.way ++ [(y, leanN l y)]).map Prod.fst).Nodup
    rw [hmap, happ, List.nodup_append]
    exact ⟨h.nd, by simp, fun a ha b hb e => hno (by simp at hb; rw [← hb, ← e]; exact ha)⟩
  · show ∀ z ∈ s.out ++ (s.way ++ [(y, leanN l y)]).map Prod.fst, z < l.length
    rw [hmap, happ]
    intro z hz
    rcases List.mem_append.1 hz with hz | hz
    · exact h.lt z hz
    · simp at hz; omega
  · show upd s.met y s.number z ≠ 0 ↔ z ∈ s.out ++ (s.way ++ [(y, leanN l y)]).map Prod.fst
    rw [hmap, happ, List.mem_append, upd]
    by_cases hz : z = y
    · subst hz
      rw [if_pos rfl, hnum]
      simp
      omega
    · rw [if_neg hz, h.met z]
      simp [hz]
  · show upd s.met y s.number z ≤ ((s.out ++ (s.way ++ [(y, leanN l y)]).map Prod.fst).length : Int)
    rw [hmap, happ, List.length_append, List.length_singleton, upd]
    by_cases hz : z = y
    · rw [if_pos hz, hnum]; omega
    · rw [if_neg hz]
      have := h.top z
      omega
  · have hab2 : upd s.met y s.number a = upd s.met y s.number b := hab
    have ha2 : upd s.met y s.number a ≠ 0 := ha
    unfold upd at hab2 ha2
    by_cases ea : a = y
    · by_cases eb : b = y
      · rw [ea, eb]
      · rw [if_pos ea, if_neg eb] at hab2
        have := h.top b
        omega
    · by_cases eb : b = y
      · rw [if_neg ea, if_pos eb] at hab2
        have := h.top a
        omega
      · rw [if_neg ea, if_neg eb] at hab2
        rw [if_neg ea] at ha2
        exact h.inj a b hab2 ha2
  · have ha : (s.way ++ [(y, leanN l y)])[k]? = some a := ha
    have hb : (s.way ++ [(y, leanN l y)])[k + 1]? = some b := hb
    have hk := (List.getElem?_eq_some_iff.1 hb).1
    rw [List.length_append, List.length_singleton] at hk
    rw [List.getElem?_append_left (by omega)] at ha
    by_cases hlt : k + 1 < s.way.length
    · rw [List.getElem?_append_left hlt] at hb
      exact h.chain k a b ha hb
    · have e : k + 1 = s.way.length := by omega
      rw [e, Sr.at_last] at hb
      obtain rfl := Option.some.inj hb
      refine hlast (s.way.take k) a ?_
      have := List.take_append_getElem (l := s.way) (i := k) (by omega)
      rw [(List.getElem?_eq_some_iff.1 ha).2] at this
      rw [this, List.take_of_length_le (by omega)]
  · have ha : (s.way ++ [(y, leanN l y)])[k]? = some a := ha
    have hk := (List.getElem?_eq_some_iff.1 ha).1
    rw [List.length_append, List.length_singleton] at hk
    by_cases hlt : k < s.way.length
    · rw [List.getElem?_append_left hlt] at ha
      rcases h.left k a ha z hz with h1 | h1 | ⟨b, hb, e⟩ | ⟨hk1, he⟩
      · exact .inl h1
      · exact .inr (.inl h1)
      · exact .inr (.inr (.inl ⟨b, by show (s.way ++ [(y, leanN l y)])[k + 1]? = some b; rw [List.getElem?_append_left (List.getElem?_eq_some_iff.1 hb).1]; exact hb, e⟩))
      · exact .inr (.inr (.inl ⟨(y, leanN l y), by show (s.way ++ [(y, leanN l y)])[k + 1]? = some (y, leanN l y); rw [hk1]; exact Sr.at_last _ _, (hE z he).symm⟩))
    · obtain rfl : k = s.way.length := by omega
      rw [Sr.at_last] at ha
      obtain rfl := Option.some.inj ha
      exact .inl ((leanN_mem hl y z).2 hz)
  · have ha : a ∈ s.way ++ [(y, leanN l y)] := ha
    rcases List.mem_append.1 ha with ha | ha
    · exact h.leftL a ha z hz
    · obtain rfl := List.mem_singleton.1 ha
      exact (leanN_mem hl y z).1 hz
  · show ∀ z ∈ s.out ++ (s.way ++ [(y, leanN l y)]).map Prod.fst, P z
    rw [hmap, happ]
    intro z hz
    rcases List.mem_append.1 hz with hz | hz
    · exact h.allow z hz
    · simp at hz; rw [hz]; exact hP
  · show ∀ z ∈ S0, z ∈ s.out ++ (s.way ++ [(y, leanN l y)]).map Prod.fst
    rw [hmap, happ]
    intro z hz
    exact List.mem_append_left _ (h.keep z hz)
/-- a line comes out. -/
theorem Sr.back (h : Sr l P S0 (fun _ => False) s) {ws : List (Nat × List Nat)} {x : Nat} (hw : s.way = ws ++ [(x, [])]) : s.waiting = ws.map Prod.fst ++ [x] ∧ s.part x = 0 ∧ s.met x ≠ 0 ∧ Sr l P S0 (fun _ => False) ((s.goes ws).comeOut (ws.map Prod.fst) [] x) := by
  have hmap : s.way.map Prod.fst = ws.map Prod.fst ++ [x] := by rw [hw]; simp
  have hxin : x ∈ s.out ++ s.way.map Prod.fst := by rw [hmap]; simp
  have hxo : x ∉ s.out := fun ho => by
    have := h.nd
    rw [hmap, List.nodup_append] at this
    exact this.2.2 x ho x (by simp) rfl
  have hperm : ((s.out ++ [x]) ++ ws.map Prod.fst).Perm (s.out ++ s.way.map Prod.fst) := by
    rw [hmap, List.append_assoc]
    exact List.Perm.append_left _ List.perm_append_comm
  have hmx := (h.met x).2 hxin
  have hpx : s.part x = 0 := by rw [h.par x, if_neg hxo]
  have hget : ∀ (k : Nat) (a : Nat × List Nat), ws[k]? = some a → s.way[k]? = some a := fun k a hk => by rw [hw, List.getElem?_append_left (List.getElem?_eq_some_iff.1 hk).1]; exact hk
  refine ⟨by rw [h.wai, hmap], hpx, hmx, ?_⟩
  refine ⟨h.rea, rfl, fun z => ?_, ?_, ?_, fun z => ?_, fun z => ?_, h.inj, fun i a b ha hb => ?_, fun k a b ha hb => h.chain k a b (hget k a ha) (hget _ b hb), fun k a ha z hz => ?_, fun a ha z hz => h.leftL a (by rw [hw]; exact List.mem_append_left _ ha) z hz, ?_, ?_⟩
  · show (if z ∈ [x] then s.met x else s.part z) = if z ∈ s.out ++ [x].reverse then s.met z else 0
    by_cases hz : z = x
    · subst hz; simp
    · rw [if_neg (by simpa using hz), h.par z]
      simp [hz]
  · show ((s.out ++ [x].reverse) ++ ws.map Prod.fst).Nodup
    exact hperm.nodup_iff.2 h.nd
  · show ∀ z ∈ (s.out ++ [x].reverse) ++ ws.map Prod.fst, z < l.length
    exact fun z hz => h.lt z (hperm.mem_iff.1 hz)
  · show s.met z ≠ 0 ↔ z ∈ (s.out ++ [x].reverse) ++ ws.map Prod.fst
    rw [h.met z]
    exact hperm.mem_iff.symm
  · show s.met z ≤ (((s.out ++ [x].reverse) ++ ws.map Prod.fst).length : Int)
    rw [show ((s.out ++ [x].reverse) ++ ws.map Prod.fst).length = _ from hperm.length_eq]
    exact h.top z
  · have ha : (s.out ++ [x])[i]? = some a := ha
    have hi := (List.getElem?_eq_some_iff.1 ha).1
    rw [List.length_append, List.length_singleton] at hi
    by_cases hlt : i < s.out.length
    · rw [List.getElem?_append_left hlt] at ha
      obtain ⟨j, hj, hjb⟩ := h.ord i a b ha hb
      exact ⟨j, hj, by show (s.out ++ [x])[j]? = some b; rw [List.getElem?_append_left (by omega)]; exact hjb⟩
    · obtain rfl : i = s.out.length := by omega
      simp at ha
      subst ha
      rcases h.left ws.length (x, []) (by rw [hw]; exact Sr.at_last _ _) b hb with h1 | h1 | ⟨c, hc, _⟩ | ⟨_, hno⟩
      · simp at h1
      · obtain ⟨j, hj, e⟩ := List.getElem_of_mem h1
        exact ⟨j, hj, by show (s.out ++ [x])[j]? = some b; rw [List.getElem?_append_left hj, List.getElem?_eq_getElem hj, e]⟩
      · have := (List.getElem?_eq_some_iff.1 hc).1
        rw [hw, List.length_append, List.length_singleton] at this
        omega
      · exact hno.elim
  · have ha : ws[k]? = some a := ha
    rcases h.left k a (hget k a ha) z hz with h1 | h1 | ⟨b, hb, e⟩ | ⟨_, hno⟩
    · exact .inl h1
    · exact .inr (.inl (List.mem_append_left _ h1))
    · by_cases hlt : k + 1 < ws.length
      · rw [hw, List.getElem?_append_left hlt] at hb
        exact .inr (.inr (.inl ⟨b, hb, e⟩))
      · have hk := (List.getElem?_eq_some_iff.1 ha).1
        rw [hw, show k + 1 = ws.length by omega, Sr.at_last] at hb
        obtain rfl := Option.some.inj hb
        exact .inr (.inl (by show z ∈ s.out ++ [x]; rw [← e]; simp))
    · exact hno.elim
  · show ∀ z ∈ (s.out ++ [x].reverse) ++ ws.map Prod.fst, P z
    exact fun z hz => h.allow z (hperm.mem_iff.1 hz)
  · show ∀ z ∈ S0, z ∈ (s.out ++ [x].reverse) ++ ws.map Prod.fst
    exact fun z hz => hperm.mem_iff.2 (h.keep z hz)
end

theorem Sr.keeps {l : List Ga} (hl : ∀ (i : Nat) (g : Ga), l[i]? = some g → ∀ a ∈ leansOn g, 0 ≤ a ∧ a < (l.length : Int)) (hf : ∀ i, ¬ Way l i i) (P : Nat → Prop) (hP : ∀ x y, P x → Leans l x y → P y) (S0 : List Nat) : Keeps l (Sr l P S0 fun _ => False) (Ps.left l.length) := by
  refine ⟨fun s h => h.ok hl, fun s ws x h hw hr => ?_, fun s ws x h hw hr => absurd (by rw [h.rea]) hr, fun s ws x y lf h hw hm => ?_, fun s ws x y lf h hw hm hp => absurd hp (h.no_again hf hw hm), fun s ws x y lf h hw hm hp => ?_⟩
  · obtain ⟨h1, h2, h3, h4⟩ := h.back hw
    refine ⟨ws.map Prod.fst, [], h1, by simp, h2, h3, h4, ?_⟩
    show 5 * (l.length - ((s.out ++ [x].reverse) ++ ws.map Prod.fst).length) + (ws.map fun a => a.2.length + 1).sum < 5 * (l.length - (s.out ++ s.way.map Prod.fst).length) + (s.way.map fun a => a.2.length + 1).sum
    rw [hw]
    simp
  · have hlean : Leans l x y := h.leftL (x, y :: lf) (by rw [hw]; simp) y (by simp)
    obtain ⟨g, hg, hy2⟩ := hlean
    have hb := hl x g hg _ hy2
    have hno : y ∉ s.out ++ s.way.map Prod.fst := fun hin => (h.met y).2 hin hm
    have hfull : (s.out ++ s.way.map Prod.fst).length < l.length := by
      have := few_of_nodup (n := l.length) (L := (s.out ++ s.way.map Prod.fst) ++ [y]) (List.nodup_append.2 ⟨h.nd, by simp, fun a ha b hb e => hno (by simp at hb; rw [← hb, ← e]; exact ha)⟩) (fun z hz => by
        rcases List.mem_append.1 hz with hz | hz
        · exact h.lt z hz
        · simp at hz; omega)
      rw [List.length_append, List.length_singleton] at this
      omega
    refine ⟨?_, ?_⟩
    · refine Sr.meet hl (h.take hw) (fun z hz => hz) (by omega) hm (hP x y (h.allow x (by rw [hw]; simp)) ⟨g, hg, hy2⟩) fun vs a e => ?_
      have e2 : ws ++ [(x, lf)] = vs ++ [a] := e
      have := List.append_inj_right' e2 rfl
      obtain rfl := List.singleton_inj.1 this
      exact ⟨g, hg, hy2⟩
    · show 5 * (l.length - (s.out ++ ((ws ++ [(x, lf)]) ++ [(y, leanN l y)]).map Prod.fst).length) + (((ws ++ [(x, lf)]) ++ [(y, leanN l y)]).map fun a => a.2.length + 1).sum < 5 * (l.length - (s.out ++ s.way.map Prod.fst).length) + (s.way.map fun a => a.2.length + 1).sum
      have hq := leanN_len l y
      rw [hw] at hfull ⊢
      simp at hfull ⊢
      omega
  · have hyo : y ∈ s.out := by
      apply Classical.byContradiction
      intro hn
      exact hp (by rw [h.par y, if_neg hn])
    refine ⟨(h.take hw).settle (fun z hz => by rw [hz]; exact hyo), ?_⟩
    show 5 * (l.length - (s.out ++ (ws ++ [(x, lf)]).map Prod.fst).length) + ((ws ++ [(x, lf)]).map fun a => a.2.length + 1).sum < 5 * (l.length - (s.out ++ s.way.map Prod.fst).length) + (s.way.map fun a => a.2.length + 1).sum
    rw [hw]
    simp
end PureNet
/-
  The document's own FormedLine, leans.
-/
namespace Go.Proofs.YtfmmmhcpdinhgaaDoor
open Go.RowKit Go.Deep PureNet
set_option maxRecDepth 100000

set_option maxHeartbeats 2000000 in
set_option maxRecDepth 100000 in
theorem formedLine_any (g : Ga) (n : Nat) (w : World) : Calls Tryd.prog 56 #[.agg #[.int .i64 g.kind, .string g.name, .int .i64 g.op, .int .i64 g.a, .int .i64 g.b, .int .i64 g.c], .int .i64 (n : Int)] w fun e w' => e = .returned (.bool (lineB g n)) ∧ Below w.heap.size w w' := by
  have FA := hid (fun v u W => field_any v u n W)
  by_cases hk : 1 ≤ g.kind ∧ g.kind ≤ 4 ∧ 0 ≤ g.op
  · obtain ⟨k1, k2, k3⟩ := hk
    have hk : g.kind = 1 ∨ g.kind = 2 ∨ g.kind = 3 ∨ g.kind = 4 := by omega
    have HL : Hid (lineB g n = (decide (g.op ≤ mostOp g.kind) && fieldB g.a (decide (g.kind ≠ 1)) n && fieldB g.b (decide (g.kind = 2 ∨ g.kind = 4)) n && fieldB g.c (decide (g.kind = 4)) n)) := by
      show _ = _
      unfold lineB
      rw [show decide (1 ≤ g.kind ∧ g.kind ≤ 4 ∧ 0 ≤ g.op ∧ g.op ≤ mostOp g.kind) = decide (g.op ≤ mostOp g.kind) by simp [k1, k2, k3]]
    have k4 : ¬ g.op < 0 := by omega
    clear k1 k2 k3
    rcases hk with hk | hk | hk | hk
    · rw [hk] at HL ⊢
      have HK := hid hk
      clear hk
      go_enter Tryd.func56, Tryd.ntmps56
      go_wp2_with (first
        | (go_at_call 84; with_reducible refine (FA.out _ _ _).mono ?_; rintro e w1 ⟨rfl, rfl⟩))
      all_goals go_ret
      all_goals first
        | (have e : lineB g n = false := (by rw [HL.out]; simp [mostOp, *]; try (intro hh; omega)); rw [e]; exact ⟨rfl, (Below.refl _ _).alloc (Nat.le_refl _) _⟩)
        | (have e : lineB g n = fieldB g.c false n := (by rw [HL.out]; simp [mostOp, *]; try (intro hh; omega)); rw [e]; exact ⟨rfl, (Below.refl _ _).alloc (Nat.le_refl _) _⟩)
    · rw [hk] at HL ⊢
      have HK := hid hk
      clear hk
      go_enter Tryd.func56, Tryd.ntmps56
      go_wp2_with (first
        | (go_at_call 84; with_reducible refine (FA.out _ _ _).mono ?_; rintro e w1 ⟨rfl, rfl⟩))
      all_goals go_ret
      all_goals first
        | (have e : lineB g n = false := (by rw [HL.out]; simp [mostOp, *]; try (intro hh; omega)); rw [e]; exact ⟨rfl, (Below.refl _ _).alloc (Nat.le_refl _) _⟩)
        | (have e : lineB g n = fieldB g.c false n := (by rw [HL.out]; simp [mostOp, *]; try (intro hh; omega)); rw [e]; exact ⟨rfl, (Below.refl _ _).alloc (Nat.le_refl _) _⟩)
    · rw [hk] at HL ⊢
      have HK := hid hk
      clear hk
      go_enter Tryd.func56, Tryd.ntmps56
      go_wp2_with (first
        | (go_at_call 84; with_reducible refine (FA.out _ _ _).mono ?_; rintro e w1 ⟨rfl, rfl⟩))
      all_goals go_ret
      all_goals first
        | (have e : lineB g n = false := (by rw [HL.out]; simp [mostOp, *]; try (intro hh; omega)); rw [e]; exact ⟨rfl, (Below.refl _ _).alloc (Nat.le_refl _) _⟩)
        | (have e : lineB g n = fieldB g.c false n := (by rw [HL.out]; simp [mostOp, *]; try (intro hh; omega)); rw [e]; exact ⟨rfl, (Below.refl _ _).alloc (Nat.le_refl _) _⟩)
    · rw [hk] at HL ⊢
      have HK := hid hk
      clear hk
      go_enter Tryd.func56, Tryd.ntmps56
      go_wp2_with (first
        | (go_at_call 84; with_reducible refine (FA.out _ _ _).mono ?_; rintro e w1 ⟨rfl, rfl⟩))
      all_goals go_ret
      all_goals first
        | (have e : lineB g n = false := (by rw [HL.out]; simp [mostOp, *]; try (intro hh; omega)); rw [e]; exact ⟨rfl, (Below.refl _ _).alloc (Nat.le_refl _) _⟩)
        | (have e : lineB g n = fieldB g.c true n := (by rw [HL.out]; simp [mostOp, *]; try (intro hh; omega)); rw [e]; exact ⟨rfl, (Below.refl _ _).alloc (Nat.le_refl _) _⟩)
  · have HL : Hid (lineB g n = false) := by
      show _ = _
      unfold lineB
      rw [decide_eq_false (by omega)]
      simp
    rcases (show g.kind < 1 ∨ (1 ≤ g.kind ∧ 4 < g.kind) ∨ (1 ≤ g.kind ∧ g.kind ≤ 4 ∧ g.op < 0) by omega) with h1 | ⟨h1, h2⟩ | ⟨h1, h2, h3⟩
    · clear hk
      go_enter Tryd.func56, Tryd.ntmps56
      go_wp2
      go_ret
      rw [HL.out]
      exact ⟨rfl, (Below.refl _ _).alloc (Nat.le_refl _) _⟩
    · clear hk
      go_enter Tryd.func56, Tryd.ntmps56
      go_wp2
      go_ret
      rw [HL.out]
      exact ⟨rfl, (Below.refl _ _).alloc (Nat.le_refl _) _⟩
    · clear hk
      go_enter Tryd.func56, Tryd.ntmps56
      go_wp2
      go_ret
      rw [HL.out]
      exact ⟨rfl, (Below.refl _ _).alloc (Nat.le_refl _) _⟩
end Go.Proofs.YtfmmmhcpdinhgaaDoor
/-
  The document's own leans, Count, firsts.
-/
namespace Go.Proofs.YtfmmmhcpdinhgaaDoor
open Go.RowKit Go.Deep PureNet
set_option maxRecDepth 100000

/-- on how many lines a line leans, and which, as a value. -/
def leansV (g : Ga) : Value := if g.kind = 2 then .tuple #[.int .i64 2, .agg #[.int .i64 g.a, .int .i64 g.b, .int .i64 0]] else if g.kind = 4 then .tuple #[.int .i64 3, .agg #[.int .i64 g.a, .int .i64 g.b, .int .i64 g.c]] else .tuple #[.int .i64 0, .agg #[.int .i64 0, .int .i64 0, .int .i64 0]]
set_option maxHeartbeats 1000000 in
set_option maxRecDepth 100000 in
theorem leans_any (g : Ga) (w : World) : Calls Tryd.prog 47 #[.agg #[.int .i64 g.kind, .string g.name, .int .i64 g.op, .int .i64 g.a, .int .i64 g.b, .int .i64 g.c]] w fun e w' => e = .returned (leansV g) ∧ Below w.heap.size w w' := by
  by_cases h2 : g.kind = 2
  · have HV : Hid (leansV g = .tuple #[.int .i64 2, .agg #[.int .i64 g.a, .int .i64 g.b, .int .i64 0]]) := by show _ = _; simp [leansV, h2]
    obtain ⟨x, hx⟩ : ∃ x, x = w.alloc (Obj.cells #[.int .i64 2, .string g.name, .int .i64 g.op, .int .i64 g.a, .int .i64 g.b, .int .i64 g.c] 38) := ⟨_, rfl⟩
    have c0 : ∀ i, x.cell? ⟨w.heap.size, i, none⟩ = (#[.int .i64 2, .string g.name, .int .i64 g.op, .int .i64 g.a, .int .i64 g.b, .int .i64 g.c] : Array Value)[i]? := fun i => by rw [hx]; exact cell_row (heap_alloc_new w _) i
    have hb0 : w.heap.size < x.heap.size := by rw [hx]; simp
    have BX : Hid (Below w.heap.size w x) := by rw [hx]; exact (Below.refl _ _).alloc (Nat.le_refl _) _
    have HX := hid hx
    clear hx
    rw [h2]
    clear h2
    go_enter Tryd.func47, Tryd.ntmps47
    go_wp2_with (rw [← HX.out])
    go_region
    go_wp2
    exact bodyPost_ret (v := .tuple #[.int .i64 2, .agg #[.int .i64 g.a, .int .i64 g.b, .int .i64 0]]) (by simp [results, Tryd.results47, go_sem]) rfl ⟨by rw [HV.out], below_drewN (BX.out.alloc BX.out.size _) 1⟩
  · by_cases h4 : g.kind = 4
    · have HV : Hid (leansV g = .tuple #[.int .i64 3, .agg #[.int .i64 g.a, .int .i64 g.b, .int .i64 g.c]]) := by show _ = _; simp [leansV, h4]
      obtain ⟨x, hx⟩ : ∃ x, x = w.alloc (Obj.cells #[.int .i64 4, .string g.name, .int .i64 g.op, .int .i64 g.a, .int .i64 g.b, .int .i64 g.c] 38) := ⟨_, rfl⟩
      have c0 : ∀ i, x.cell? ⟨w.heap.size, i, none⟩ = (#[.int .i64 4, .string g.name, .int .i64 g.op, .int .i64 g.a, .int .i64 g.b, .int .i64 g.c] : Array Value)[i]? := fun i => by rw [hx]; exact cell_row (heap_alloc_new w _) i
      have hb0 : w.heap.size < x.heap.size := by rw [hx]; simp
      have BX : Hid (Below w.heap.size w x) := by rw [hx]; exact (Below.refl _ _).alloc (Nat.le_refl _) _
      have HX := hid hx
      clear hx
      rw [h4]
      clear h4 h2
      go_enter Tryd.func47, Tryd.ntmps47
      go_wp2_with (rw [← HX.out])
      go_region
      go_wp2
      exact bodyPost_ret (v := .tuple #[.int .i64 3, .agg #[.int .i64 g.a, .int .i64 g.b, .int .i64 g.c]]) (by simp [results, Tryd.results47, go_sem]) rfl ⟨by rw [HV.out], below_drewN (BX.out.alloc BX.out.size _) 1⟩
    · have HV : Hid (leansV g = .tuple #[.int .i64 0, .agg #[.int .i64 0, .int .i64 0, .int .i64 0]]) := by show _ = _; simp [leansV, h2, h4]
      obtain ⟨x, hx⟩ : ∃ x, x = w.alloc (Obj.cells #[.int .i64 g.kind, .string g.name, .int .i64 g.op, .int .i64 g.a, .int .i64 g.b, .int .i64 g.c] 38) := ⟨_, rfl⟩
      have c0 : ∀ i, x.cell? ⟨w.heap.size, i, none⟩ = (#[.int .i64 g.kind, .string g.name, .int .i64 g.op, .int .i64 g.a, .int .i64 g.b, .int .i64 g.c] : Array Value)[i]? := fun i => by rw [hx]; exact cell_row (heap_alloc_new w _) i
      have hb0 : w.heap.size < x.heap.size := by rw [hx]; simp
      have BX : Hid (Below w.heap.size w x) := by rw [hx]; exact (Below.refl _ _).alloc (Nat.le_refl _) _
      have HX := hid hx
      clear hx
      go_enter Tryd.func47, Tryd.ntmps47
      go_wp2_with (rw [← HX.out])
      exact bodyPost_ret (v := .tuple #[.int .i64 0, .agg #[.int .i64 0, .int .i64 0, .int .i64 0]]) (by simp [results, Tryd.results47, go_sem]) rfl ⟨by rw [HV.out], BX.out.alloc BX.out.size _⟩

set_option maxHeartbeats 1000000 in
set_option maxRecDepth 100000 in
theorem rcount_any (c : Net) (sg so : Option Addr) (cg co : Nat) (k : Int) (w : World) (hc : CellsAt w sg (gas c.gates)) (hl : c.gates.length ≤ 1099511627776) :
    Calls Tryd.prog 60 #[cirV c sg cg so co, .int .i64 k] w fun e w' => e = .returned (.int .i64 (cnt k c.gates : Int)) ∧ Below w.heap.size w w' := by
  have HC := hid hc
  clear hc
  go_enter Tryd.func60, Tryd.ntmps60
  go_wp2
  obtain ⟨x, hx⟩ : ∃ x, x = w.alloc (Obj.cells #[Value.string c.name, Value.slice sg c.gates.length cg, Value.slice so c.outs.length co] 26) := ⟨_, rfl⟩
  have c0 : ∀ i, x.cell? ⟨w.heap.size, i, none⟩ = (#[Value.string c.name, Value.slice sg c.gates.length cg, Value.slice so c.outs.length co] : Array Value)[i]? := fun i => by rw [hx]; exact cell_row (heap_alloc_new w _) i
  have hb0 : w.heap.size < x.heap.size := by rw [hx]; simp
  have BX : Hid (Below w.heap.size w x) := by rw [hx]; exact (Below.refl _ _).alloc (Nat.le_refl _) _
  rw [← hx]
  clear hx
  go_loopw [5, 6] (fun nv iv W => ∃ i : Nat, i ≤ c.gates.length ∧ iv = .int .i64 (i : Int) ∧ nv = .int .i64 (cnt k (c.gates.take i) : Int) ∧ W = x) (fun nv iv _ => c.gates.length - (intOf iv).toNat)
  case atStart => exact ⟨0, Nat.zero_le _, rfl, rfl, rfl⟩
  case round =>
    obtain ⟨i, hi, rfl, rfl, rfl⟩ := hrel
    have hcl := cnt_take_le_i k c.gates i
    by_cases hlt : i < c.gates.length
    · obtain ⟨g, hg⟩ : ∃ g, c.gates[i]? = some g := ⟨_, List.getElem?_eq_getElem hlt⟩
      obtain ⟨b, o, rfl, hb, d0, _⟩ := gate_at (HC.out.below BX.out) i g hg
      have HN := hid (cnt_take_succ k c.gates i hg)
      by_cases hk : g.kind = k
      · rw [if_pos hk] at HN
        clear hg
        go_wp2
        exact ⟨⟨i + 1, hlt, by go_num, by rw [HN.out]; go_num, trivial⟩, by simp [intOf]; omega⟩
      · rw [if_neg hk] at HN
        clear hg
        go_wp2
        exact ⟨⟨i + 1, hlt, by go_num, by rw [HN.out]; rfl, trivial⟩, by simp [intOf]; omega⟩
    · have hin : i = c.gates.length := by omega
      have HT : Hid (cnt k (c.gates.take i) = cnt k c.gates) := by show _ = _; rw [hin, List.take_length]
      clear hin
      go_wp2
      go_ret
      exact ⟨by rw [← HT.out]; rfl, BX.out⟩

set_option maxHeartbeats 1000000 in
set_option maxRecDepth 100000 in
theorem rfirsts_any (c : Net) (sg so : Option Addr) (cg co : Nat) (w : World) (hc : CellsAt w sg (gas c.gates)) (hl : c.gates.length ≤ 1099511627776) :
    Calls Tryd.prog 62 #[cirV c sg cg so co] w fun e w' => ∃ v, e = .returned v ∧ Mk w w' 4 1 v (cnt 3 c.gates) (bo (firstsOf c.gates)) := by
  have HC := hid hc
  clear hc
  go_enter Tryd.func62, Tryd.ntmps62
  go_wp2
  obtain ⟨x, hx⟩ : ∃ x, x = w.alloc (Obj.cells #[Value.string c.name, Value.slice sg c.gates.length cg, Value.slice so c.outs.length co] 26) := ⟨_, rfl⟩
  have RX : Hid (x.heap[w.heap.size]? = some (.cells #[Value.string c.name, Value.slice sg c.gates.length cg, Value.slice so c.outs.length co] 26 (0, 0))) := by rw [hx]; exact heap_alloc_new w _
  have BX : Hid (Below w.heap.size w x) := by rw [hx]; exact (Below.refl _ _).alloc (Nat.le_refl _) _
  rw [← hx]
  clear hx
  go_loopw [3, 4] (fun vv iv W => ∃ i : Nat, i ≤ c.gates.length ∧ iv = .int .i64 (i : Int) ∧ Hid (Mk x W 4 1 vv (cnt 3 (c.gates.take i)) (bo (firstsOf (c.gates.take i))))) (fun vv iv _ => c.gates.length - (intOf iv).toNat)
  case atStart => exact ⟨0, Nat.zero_le _, rfl, Mk.nil _ _ _⟩
  case round =>
    obtain ⟨i, hi, rfl, HR⟩ := hrel
    have hr := HR.out
    obtain ⟨sv, cv, rfl⟩ := own_shape hr.own
    have hrow := (hr.below.block _ (Array.getElem?_eq_some_iff.1 RX.out).1).trans RX.out
    have c0 := fun j => cell_row hrow j
    have hb0 := (Array.getElem?_eq_some_iff.1 hrow).1
    have hwr : Below w.heap.size w wr := BX.out.trans (hr.below.mono BX.out.size)
    have hcl := cnt_take_le_i 3 c.gates i
    by_cases hlt : i < c.gates.length
    · obtain ⟨g, hg⟩ : ∃ g, c.gates[i]? = some g := ⟨_, List.getElem?_eq_getElem hlt⟩
      obtain ⟨b, o, rfl, hb, d0, _, d2, _⟩ := gate_at (HC.out.below hwr) i g hg
      have HN := hid (cnt_take_succ 3 c.gates i hg)
      have htk : c.gates.take (i + 1) = c.gates.take i ++ [g] := by rw [List.take_add_one, hg]; rfl
      by_cases hk : g.kind = 3
      · have HT : Hid (bo (firstsOf (c.gates.take (i + 1))) = bo (firstsOf (c.gates.take i)) ++ [.bool (decide (g.op = 1))]) := by
          show _ = _
          rw [htk]
          simp [bo, firstsOf, hk]
        rw [if_pos hk] at HN
        rw [hk] at d0
        have hbe : (g.op == 1) = decide (g.op = 1) := by by_cases h : g.op = 1 <;> simp [h]
        obtain ⟨m, hm⟩ : ∃ m, m = cnt 3 (c.gates.take i) := ⟨_, rfl⟩
        rw [← hm] at HN hcl HR ⊢
        clear hg htk hk hr hrow hwr hm
        go_wp2_with (first
          | (at_builtin; refine mk_app rfl _ _ 29 (.bool false) 1 rfl Tryd.underlying29 info4 rfl (by decide) HR.out [.bool (decide (g.op = 1))] 4 _ rfl rfl rfl rfl (fun u hu => by simp at hu; subst hu; rfl) (by omega) (by omega) ?_; intro sx cx w2 _ m2; have M2 := hid m2; clear m2))
        exact ⟨⟨i + 1, hlt, by go_num, by show Mk _ _ _ _ _ _ _; rw [HT.out, HN.out]; exact M2.out⟩, by simp [intOf]; omega⟩
      · have HT : Hid (bo (firstsOf (c.gates.take (i + 1))) = bo (firstsOf (c.gates.take i))) := by
          show _ = _
          rw [htk]
          simp [bo, firstsOf, hk]
        rw [if_neg hk] at HN
        clear hg htk hr hrow hwr
        go_wp2
        exact ⟨⟨i + 1, hlt, by go_num, by show Mk _ _ _ _ _ _ _; rw [HT.out, HN.out]; exact HR.out⟩, by simp [intOf]; omega⟩
    · have hin : i = c.gates.length := by omega
      subst hin
      rw [List.take_length] at hr
      have HF : Hid (Mk w wr 4 1 (Value.slice sv (cnt 3 (c.gates.take c.gates.length)) cv) (cnt 3 c.gates) (bo (firstsOf c.gates))) := by
        rw [List.take_length]
        exact ⟨⟨hr.own.1, hr.own.2.imp id (fun ⟨g, cap, cur, hv, hB, r⟩ => ⟨g, cap, cur, hv, Nat.le_trans BX.out.size hB, r⟩)⟩, hwr⟩
      clear hr hwr hrow
      go_wp2
      go_ret
      exact ⟨_, rfl, HF.out⟩
end Go.Proofs.YtfmmmhcpdinhgaaDoor
/-
  Lists that were handed out, and what is grown out of them: which blocks turn, which stay. For any program.
-/
namespace ShfKit
open Go Go.RowKit
set_option maxRecDepth 100000

section
variable {P : Program} {w w' W W' : World} {B B' e size n m : Nat} {v u : Value} {xs news A M : List Value}

theorem own_base (h : w.ownsRow B' e size v n xs) (hB : B ≤ B') : w.ownsRow B e size v n xs := by
  refine ⟨h.1, ?_⟩
  rcases h.2 with hn | ⟨g, cap, cur, hv, hb, rest⟩
  · exact .inl hn
  · exact .inr ⟨g, cap, cur, hv, Nat.le_trans hB hb, rest⟩
theorem own_block (h : w.ownsRow B e size v n xs) {g : Nat} (hg : v.ownBlock = some g) : B ≤ g ∧ g < w.heap.size := by
  rcases h.2 with ⟨hv, _⟩ | ⟨g', cap, cur, hv, hb, hr, _⟩
  · rw [hv] at hg; cases hg
  · rw [hv] at hg
    simp only [Value.ownBlock, Option.some.injEq] at hg
    subst hg
    exact ⟨hb, (Array.getElem?_eq_some_iff.1 hr).1⟩
theorem own_kept (h : w.ownsRow B e size v n xs) (hk : ∀ g, v.ownBlock = some g → w'.heap[g]? = w.heap[g]?) : w'.ownsRow B e size v n xs := by
  refine ⟨h.1, ?_⟩
  rcases h.2 with hn | ⟨g, cap, cur, hv, hb, hr, rest⟩
  · exact .inl hn
  · exact .inr ⟨g, cap, cur, hv, hb, (hk g (by rw [hv]; rfl)).trans hr, rest⟩

/-- append: where it stood, or in a block that is new. -/
theorem run_append_far (w : World) (B : Nat) (t ty e : TypeId) (i : TypeInfo) (z : Value) (size bytes : Nat) (ht : P.underlying t = some (.slice e)) (hi : P.info? e = some i) (hz : i.zero = some z)
    (hsize : i.size = size) (hby : i.bytes = bytes) (hzs : z.cells.size = size) (hsz : 0 < size)
    (v : Value) (n : Nat) (xs : List Value) (hown : w.ownsRow B e size v n xs)
    (a : Addr) (m c : Nat) (news : List Value) (hl : news.length = m * size) (hnews : ∀ j u, news[j]? = some u → w.cell? (a.add j) = some u) (h1 : ∀ u ∈ news, u.oneCell' = true)
    (h63 : n + m ≤ maxLen) (hbytes : (n + m) * bytes ≤ 140737488355328) (hbase : B ≤ w.heap.size) :
    ∃ v' w', (Builtin.append_ #[t, t] ty #[v, .slice (some a) m c]).run P w = .ok v' w' ∧ w'.ownsRow B e size v' (n + m) (xs ++ news) ∧
      ((v'.ownBlock = v.ownBlock ∧ w.grownBy w' v.ownBlock) ∨ ((∀ g, v'.ownBlock = some g → w.heap.size ≤ g) ∧ w.grownBy w' none)) := by
  rcases hown.2 with ⟨rfl, rfl⟩ | ⟨g, cap, cur, rfl, hb, hr, hnc, hcm, hcs, htk⟩
  · obtain rfl : xs = [] := List.eq_nil_of_length_eq_zero (by simpa using hown.1)
    obtain ⟨v', w', hrun, r1, r2, _⟩ := run_append_own (P := P) w w.heap.size t ty e i z size bytes ht hi hz hsize hby hzs hsz (.slice none 0 0) 0 [] (World.ownsRow_nil w _ e size) a m c news hl hnews h1 h63 hbytes (Nat.le_refl _)
    exact ⟨v', w', hrun, own_base r1 hbase, .inr ⟨fun g hg => (own_block r1 hg).1, r2⟩⟩
  · by_cases hroom : n + m ≤ cap
    · obtain ⟨w', hrun, r1, r2⟩ := run_append_own_spare (P := P) w B t ty e i size ht hi hsize g n cap xs hown a m c news hl hnews h1 hroom
      exact ⟨_, w', hrun, r1, .inl ⟨rfl, r2⟩⟩
    · have hold : ∀ j u, xs[j]? = some u → w.cell? ((⟨g, 0, none⟩ : Addr).add j) = some u := fun j u hj => by
        rw [Addr.add_lit, Nat.zero_add]
        have h1 : cur.toList[j]? = some u := by
          rw [← htk] at hj
          rw [List.getElem?_take] at hj
          split at hj
          · exact hj
          · cases hj
        simp [World.cell?, hr]
        simpa using h1
      obtain ⟨v', w', hrun, r1, r2⟩ := run_append_arg_grows (P := P) w t ty e i z size bytes ht hi hz hsize hby hzs hsz ⟨g, 0, none⟩ n cap xs hown.1 hold a m c news hl hnews (by omega) h63 hbytes
      exact ⟨v', w', hrun, own_base r1 hbase, .inr ⟨fun g hg => (own_block r1 hg).1, r2⟩⟩

/-- the same, for the walk. -/
theorem wpList_append_far {ops : Array Oper} {rest : List Oper} {o : Oper} {a : Act} {Q : Exit → Act → World → Prop} (w : World)
    (hg : o.guard = none) (s x : Operand) (t : TypeId) (hop : o.op = Op.call { callee := Callee.builtin Builtin.append, args := #[s, x], argTypes := #[t, t] })
    (B : Nat) (e : TypeId) (i : TypeInfo) (z : Value) (size bytes : Nat) (ht : P.underlying t = some (.slice e)) (hi : P.info? e = some i) (hz : i.zero = some z)
    (hsize : i.size = size) (hby : i.bytes = bytes) (hzs : z.cells.size = size) (hsz : 0 < size)
    (v : Value) (n : Nat) (xs : List Value) (hs : a.eval s = v) (hown : w.ownsRow B e size v n xs)
    (ad : Addr) (m c : Nat) (news : List Value) (hx : a.eval x = .slice (some ad) m c) (hl : news.length = m * size) (hnews : ∀ j u, news[j]? = some u → w.cell? (ad.add j) = some u) (h1 : ∀ u ∈ news, u.oneCell' = true)
    (h63 : n + m ≤ maxLen) (hbytes : (n + m) * bytes ≤ 140737488355328) (hbase : B ≤ w.heap.size)
    (hK : ∀ v' w', w'.ownsRow B e size v' (n + m) (xs ++ news) → ((v'.ownBlock = v.ownBlock ∧ w.grownBy w' v.ownBlock) ∨ ((∀ g, v'.ownBlock = some g → w.heap.size ≤ g) ∧ w.grownBy w' none)) → wpList P ops Q rest (a.put o.dst v') w') :
    wpList P ops Q (o :: rest) a w := by
  refine wpList_plain hg fun K hK' => ?_
  obtain ⟨v', w', hrun, r1, r2⟩ := run_append_far (P := P) w B t o.type e i z size bytes ht hi hz hsize hby hzs hsz v n xs hown ad m c news hl hnews h1 h63 hbytes hbase
  unfold Oper.wp
  simp [execOp, hop, resolve, invoke, builtin, hs, hx, hrun, Result.andThen]
  exact hK' _ _ (hK v' w' r1 r2)

/-- v: a list as it was handed out, with the cells A; u: what has been grown out of it, with the cells M. -/
structure Pair (W : World) (B e size : Nat) (v : Value) (n : Nat) (A : List Value) (u : Value) (m : Nat) (M : List Value) : Prop where
  shape : ∃ sa c, v = .slice sa n c
  len : A.length = n * size
  rd : ∀ j (hj : j < A.length), ∃ g c, v = .slice (some ⟨g, 0, none⟩) n c ∧ B ≤ g ∧ g < W.heap.size ∧ W.cell? ⟨g, j, none⟩ = some A[j]
  lo : ∀ g, v.ownBlock = some g → B ≤ g ∧ g < W.heap.size
  own : W.ownsRow B e size u m M
  fr : M.take A.length = A
/-- a block of one of the two. -/
def InB (v u : Value) (k : Nat) : Prop := v.ownBlock = some k ∨ u.ownBlock = some k

theorem Pair.start (h : W.ownsRow B e size v n A) : Pair W B e size v n A v n A := by
  refine ⟨?_, h.1, fun j hj => ?_, fun g hg => own_block h hg, h, by rw [List.take_length]⟩
  · rcases h.2 with ⟨hv, h0⟩ | ⟨g, cap, cur, hv, _⟩
    · exact ⟨none, 0, by rw [hv, h0]⟩
    · exact ⟨_, _, hv⟩
  · rcases h.2 with ⟨hv, h0⟩ | ⟨g, cap, cur, hv, hb, hr, hnc, hcm, hcs, htk⟩
    · have := h.1
      rw [h0] at this
      omega
    · refine ⟨g, cap, hv, hb, (Array.getElem?_eq_some_iff.1 hr).1, ?_⟩
      have h1 : cur.toList[j]? = some A[j] := by
        have h2 : (cur.toList.take (n * size))[j]? = some A[j] := by rw [htk, List.getElem?_eq_getElem hj]
        rw [List.getElem?_take] at h2
        split at h2
        · exact h2
        · cases h2
      simp [World.cell?, hr]
      simpa using h1
theorem Pair.kept (h : Pair W B e size v n A u m M) (hs : W.heap.size ≤ W'.heap.size) (hk : ∀ k, InB v u k → W'.heap[k]? = W.heap[k]?) : Pair W' B e size v n A u m M := by
  refine ⟨h.shape, h.len, fun j hj => ?_, fun g hg => ⟨(h.lo g hg).1, Nat.lt_of_lt_of_le (h.lo g hg).2 hs⟩, own_kept h.own fun g hg => hk g (.inr hg), h.fr⟩
  obtain ⟨g, c, hv, hb, hl, hc⟩ := h.rd j hj
  refine ⟨g, c, hv, hb, Nat.lt_of_lt_of_le hl hs, ?_⟩
  rw [World.cell?_of_block (w := W) (hk g (.inl (by rw [hv]; rfl)))]
  exact hc
theorem Pair.blk (h : Pair W B e size v n A u m M) {k : Nat} (hk : InB v u k) : B ≤ k ∧ k < W.heap.size := by
  rcases hk with hk | hk
  · exact h.lo k hk
  · exact own_block h.own hk
/-- one more. -/
theorem Pair.grow (h : Pair W B e size v n A u m M) {u' : Value} {m' : Nat} {x : List Value} (ho : W'.ownsRow B e size u' m' (M ++ x))
    (hf : (u'.ownBlock = u.ownBlock ∧ W.grownBy W' u.ownBlock) ∨ ((∀ g, u'.ownBlock = some g → W.heap.size ≤ g) ∧ W.grownBy W' none)) :
    Pair W' B e size v n A u' m' (M ++ x) ∧ ∀ k, InB v u' k → InB v u k ∨ W.heap.size ≤ k := by
  have hfr : (M ++ x).take A.length = A := by
    have hl : A.length ≤ M.length := by
      have := congrArg List.length h.fr
      simp at this
      omega
    rw [List.take_append_of_le_length hl, h.fr]
  have hsz : W.heap.size ≤ W'.heap.size := by rcases hf with ⟨_, hg⟩ | ⟨_, hg⟩ <;> exact hg.size
  refine ⟨⟨h.shape, h.len, fun j hj => ?_, fun g hg => ⟨(h.lo g hg).1, Nat.lt_of_lt_of_le (h.lo g hg).2 hsz⟩, ho, hfr⟩, fun k hk => ?_⟩
  · obtain ⟨g, c, hv, hb, hl, hc⟩ := h.rd j hj
    refine ⟨g, c, hv, hb, Nat.lt_of_lt_of_le hl hsz, ?_⟩
    rcases hf with ⟨he, hg⟩ | ⟨_, hg⟩
    · by_cases hgu : u.ownBlock = some g
      · rw [← he] at hgu
        rcases ho.2 with ⟨hv', _⟩ | ⟨g', cap, cur, hv', _, hr, hnc, _, hcs, htk⟩
        · rw [hv'] at hgu
          exact absurd hgu (by simp [Value.ownBlock])
        · rw [hv'] at hgu
          simp only [Value.ownBlock, Option.some.injEq] at hgu
          subst hgu
          have h2 : (cur.toList.take (m' * size))[j]? = some A[j] := by
            rw [htk]
            have h3 : ((M ++ x).take A.length)[j]? = some A[j] := by rw [hfr, List.getElem?_eq_getElem hj]
            rw [List.getElem?_take_of_lt hj] at h3
            exact h3
          rw [List.getElem?_take] at h2
          split at h2
          · simp [World.cell?, hr]
            simpa using h2
          · cases h2
      · rw [World.cell?_of_block (w := W) (hg.block g hl (fun e => hgu e.symm))]
        exact hc
    · rw [World.cell?_of_block (w := W) (hg.block g hl (fun e => by cases e))]
      exact hc
  · rcases hk with hk | hk
    · exact .inl (.inl hk)
    · rcases hf with ⟨he, _⟩ | ⟨hn, _⟩
      · exact .inl (.inr (by rw [← he]; exact hk))
      · exact .inr (hn k hk)
end
end ShfKit
/-
  Several rows of one type, each in a block of its own. For any program.
-/
namespace ShfKit
open Go Go.RowKit
set_option maxRecDepth 100000

abbrev Rw := Value × Nat × List Value
/-- rows, each in a block of its own. -/
structure Fam (W : World) (B e size : Nat) (L : List Rw) : Prop where
  own : ∀ (i : Nat) (x : Rw), L[i]? = some x → W.ownsRow B e size x.1 x.2.1 x.2.2
  apart : ∀ (i j : Nat) (x y : Rw) (g : Nat), L[i]? = some x → L[j]? = some y → i ≠ j → x.1.ownBlock = some g → y.1.ownBlock ≠ some g

section
variable {P : Program} {W W' : World} {B e size : Nat} {L : List Rw}
theorem Fam.nil (W : World) (B e size : Nat) : Fam W B e size [] := ⟨fun i x h => by simp at h, fun i j x y g h => by simp at h⟩
theorem Fam.kept (h : Fam W B e size L) (hk : ∀ g, B ≤ g → g < W.heap.size → W'.heap[g]? = W.heap[g]?) : Fam W' B e size L :=
  ⟨fun i x hx => own_kept (h.own i x hx) fun g hg => hk g (own_block (h.own i x hx) hg).1 (own_block (h.own i x hx) hg).2, h.apart⟩
theorem Fam.below (h : Fam W B e size L) (hb : Below W.heap.size W W') : Fam W' B e size L := h.kept fun g _ hg => hb.block g hg
/-- one of them has become another, and only its own block has turned, or new ones have come. -/
theorem Fam.turn (h : Fam W B e size L) {i : Nat} {x y : Rw} (hx : L[i]? = some x) (ho : W'.ownsRow B e size y.1 y.2.1 y.2.2)
    (hf : (y.1.ownBlock = x.1.ownBlock ∧ W.grownBy W' x.1.ownBlock) ∨ ((∀ g, y.1.ownBlock = some g → W.heap.size ≤ g) ∧ W.grownBy W' none)) : Fam W' B e size (L.set i y) := by
  have hi := (List.getElem?_eq_some_iff.1 hx).1
  have old : ∀ (j : Nat) (z : Rw), j ≠ i → L[j]? = some z → W'.ownsRow B e size z.1 z.2.1 z.2.2 := fun j z hj hz => by
    refine own_kept (h.own j z hz) fun g hg => ?_
    have hlt := (own_block (h.own j z hz) hg).2
    rcases hf with ⟨_, hgr⟩ | ⟨_, hgr⟩
    · exact hgr.block g hlt (fun e => h.apart j i z x g hz hx hj hg e.symm)
    · exact hgr.block g hlt (fun e => by cases e)
  have new : ∀ (j : Nat) (z : Rw) (g : Nat), j ≠ i → L[j]? = some z → z.1.ownBlock = some g → y.1.ownBlock ≠ some g := fun j z g hj hz hg hy => by
    rcases hf with ⟨he, _⟩ | ⟨hn, _⟩
    · rw [he] at hy
      exact h.apart j i z x g hz hx hj hg hy
    · have := hn g hy
      have := (own_block (h.own j z hz) hg).2
      omega
  refine ⟨fun j z hz => ?_, fun j k z u g hz hu hjk hg => ?_⟩
  · rw [List.getElem?_set] at hz
    by_cases hji : i = j
    · rw [if_pos hji, if_pos (by omega)] at hz
      cases hz
      exact ho
    · rw [if_neg hji] at hz
      exact old j z (fun e => hji e.symm) hz
  · rw [List.getElem?_set] at hz hu
    by_cases hji : i = j
    · rw [if_pos hji, if_pos (by omega)] at hz
      cases hz
      rw [if_neg (by omega)] at hu
      intro hue
      exact new k u g (by omega) hu hue hg
    · rw [if_neg hji] at hz
      by_cases hki : i = k
      · rw [if_pos hki, if_pos (by omega)] at hu
        cases hu
        exact new j z g (fun e => hji e.symm) hz hg
      · rw [if_neg hki] at hu
        exact h.apart j k z u g hz hu hjk hg
/-- one more row, in a block that is new. -/
theorem Fam.push (h : Fam W B e size L) {y : Rw} (hb : Below W.heap.size W W') (ho : W'.ownsRow W.heap.size e size y.1 y.2.1 y.2.2) (hB : B ≤ W.heap.size) : Fam W' B e size (L ++ [y]) := by
  have h2 := h.below hb
  refine ⟨fun j z hz => ?_, fun j k z u g hz hu hjk hg => ?_⟩
  · by_cases hj : j < L.length
    · rw [List.getElem?_append_left hj] at hz
      exact h2.own j z hz
    · rw [List.getElem?_append_right (by omega)] at hz
      have : j - L.length = 0 := by have := (List.getElem?_eq_some_iff.1 hz).1; simp at this; omega
      rw [this] at hz
      cases hz
      exact own_base ho hB
  · by_cases hj : j < L.length
    · rw [List.getElem?_append_left hj] at hz
      by_cases hk : k < L.length
      · rw [List.getElem?_append_left hk] at hu
        exact h.apart j k z u g hz hu hjk hg
      · rw [List.getElem?_append_right (by omega)] at hu
        have : k - L.length = 0 := by have := (List.getElem?_eq_some_iff.1 hu).1; simp at this; omega
        rw [this] at hu
        cases hu
        intro e
        have := (own_block ho e).1
        have := (own_block (h.own j z hz) hg).2
        omega
    · rw [List.getElem?_append_right (by omega)] at hz
      have : j - L.length = 0 := by have := (List.getElem?_eq_some_iff.1 hz).1; simp at this; omega
      rw [this] at hz
      cases hz
      by_cases hk : k < L.length
      · rw [List.getElem?_append_left hk] at hu
        intro e
        have := (own_block ho hg).1
        have := (own_block (h.own k u hu) e).2
        omega
      · have := (List.getElem?_eq_some_iff.1 hu).1
        simp at this
        have hk2 : k = L.length := by omega
        have : j - L.length = 0 := by omega
        omega
/-- a cell of a row. -/
theorem own_cell {v : Value} {n : Nat} {xs : List Value} (h : W.ownsRow B e size v n xs) {j : Nat} {x : Value} (hj : xs[j]? = some x) : ∃ g c, v = .slice (some ⟨g, 0, none⟩) n c ∧ B ≤ g ∧ g < W.heap.size ∧ W.cell? ⟨g, j, none⟩ = some x ∧ W.frozen? ⟨g, j, none⟩ = false := by
  have hlt := (List.getElem?_eq_some_iff.1 hj).1
  rcases h.2 with ⟨hv, h0⟩ | ⟨g, cap, cur, hv, hb, hr, hnc, hcm, hcs, htk⟩
  · have := h.1
    rw [h0] at this
    omega
  · refine ⟨g, cap, hv, hb, (Array.getElem?_eq_some_iff.1 hr).1, ?_, by simp [World.frozen?, hr]⟩
    rw [← htk] at hj
    rw [List.getElem?_take] at hj
    split at hj
    · simp [World.cell?, hr]
      simpa using hj
    · cases hj
/-- a cell of a row is written. -/
theorem own_set {v : Value} {n : Nat} {xs : List Value} (h : W.ownsRow B e size v n xs) {g c j : Nat} (hv : v = .slice (some ⟨g, 0, none⟩) n c) (u : Value) : (W.setCell ⟨g, j, none⟩ u).ownsRow B e size v n (xs.set j u) ∧ W.grownBy (W.setCell ⟨g, j, none⟩ u) v.ownBlock := by
  have hob : v.ownBlock = some g := by rw [hv]; rfl
  refine ⟨⟨by rw [List.length_set]; exact h.1, ?_⟩, ⟨rfl, rfl, rfl, by simp [World.setCell], fun k hk hne => Below.heap_setCell W _ _ _ (fun e => hne (by rw [hob, e]))⟩⟩
  rcases h.2 with ⟨hv', h0⟩ | ⟨g', cap, cur, hv', hb, hr, hnc, hcm, hcs, htk⟩
  · rw [hv] at hv'; cases hv'
  · rw [hv] at hv'
    cases hv'
    refine .inr ⟨g, c, cur.setIfInBounds j u, hv, hb, ?_, hnc, hcm, by simpa using hcs, ?_⟩
    · simp [World.setCell, Array.getElem?_modify, hr]
    · rw [← htk, Array.toList_setIfInBounds, List.take_set]
theorem Fam.write (h : Fam W B e size L) {i : Nat} {x : Rw} (hx : L[i]? = some x) {g c j : Nat} (hv : x.1 = .slice (some ⟨g, 0, none⟩) x.2.1 c) (u : Value) : Fam (W.setCell ⟨g, j, none⟩ u) B e size (L.set i (x.1, x.2.1, x.2.2.set j u)) := by
  obtain ⟨h1, h2⟩ := own_set (h.own i x hx) (j := j) hv u
  exact h.turn (y := (x.1, x.2.1, x.2.2.set j u)) hx h1 (.inl ⟨rfl, h2⟩)
end
end ShfKit
