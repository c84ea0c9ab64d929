import Derived.Test.YtfmmmhcpdinhgaaDoorZ07
/-
  The search of the program, by lists: its state, its steps; where no line is in a circle.
-/
namespace PureNet

/-- the state of a search. -/
structure Ps where
  met : Nat → Int
  reached : Nat → Int
  part : Nat → Int
  way : List (Nat × List Nat)
  waiting : List Nat
  out : List Nat
def upd (f : Nat → Int) (x : Nat) (v : Int) : Nat → Int := fun y => if y = x then v else f y
def leanN (l : List Ga) (x : Nat) : List Nat := match l[x]? with | some g => (leansOn g).map Int.toNat | none => []
def Ps.number (s : Ps) : Int := (s.out.length : Int) + ((s.waiting.length : Int) + 1)
def Ps.meet (l : List Ga) (s : Ps) (x : Nat) : Ps := ⟨upd s.met x s.number, upd s.reached x s.number, s.part, s.way ++ [(x, leanN l x)], s.waiting ++ [x], s.out⟩
def Ps.reach (s : Ps) (x : Nat) (m : Int) : Ps := ⟨s.met, upd s.reached x (min (s.reached x) m), s.part, s.way, s.waiting, s.out⟩
def Ps.goes (s : Ps) (way : List (Nat × List Nat)) : Ps := ⟨s.met, s.reached, s.part, way, s.waiting, s.out⟩
/-- a part comes out: what waits from x on, the last first. -/
def Ps.comeOut (s : Ps) (pre post : List Nat) (x : Nat) : Ps := ⟨s.met, s.reached, fun y => if y ∈ x :: post then s.met x else s.part y, s.way, pre, s.out ++ (x :: post).reverse⟩

/-- what is in bounds. -/
structure Ps.Ok (l : List Ga) (s : Ps) : Prop where
  way : ∀ a ∈ s.way, a.1 < l.length ∧ ∀ y ∈ a.2, y < l.length
  wait : ∀ x ∈ s.waiting, x < l.length
  wayN : s.way.length ≤ l.length
  outN : s.out.length + s.waiting.length ≤ l.length
/-- what a search keeps, by a measure. -/
structure Keeps (l : List Ga) (I : Ps → Prop) (m : Ps → Nat) : Prop where
  ok : ∀ s, I s → s.Ok l
  back : ∀ s ws x, I s → s.way = ws ++ [(x, [])] → s.reached x = s.met x → ∃ pre post, s.waiting = pre ++ x :: post ∧ x ∉ post ∧ s.part x = 0 ∧ s.met x ≠ 0 ∧ I ((s.goes ws).comeOut pre post x) ∧ m ((s.goes ws).comeOut pre post x) < m s
  on : ∀ s ws x, I s → s.way = ws ++ [(x, [])] → s.reached x ≠ s.met x → ∃ vs y lf, ws = vs ++ [(y, lf)] ∧ I ((s.goes ws).reach y (s.reached x)) ∧ m ((s.goes ws).reach y (s.reached x)) < m s
  meet : ∀ s ws x y lf, I s → s.way = ws ++ [(x, y :: lf)] → s.met y = 0 → I ((s.goes (ws ++ [(x, lf)])).meet l y) ∧ m ((s.goes (ws ++ [(x, lf)])).meet l y) < m s
  again : ∀ s ws x y lf, I s → s.way = ws ++ [(x, y :: lf)] → s.met y ≠ 0 → s.part y = 0 → I ((s.goes (ws ++ [(x, lf)])).reach x (s.met y)) ∧ m ((s.goes (ws ++ [(x, lf)])).reach x (s.met y)) < m s
  past : ∀ s ws x y lf, I s → s.way = ws ++ [(x, y :: lf)] → s.met y ≠ 0 → s.part y ≠ 0 → I (s.goes (ws ++ [(x, lf)])) ∧ m (s.goes (ws ++ [(x, lf)])) < m s

/-- a search where no line is in a circle. -/
structure Sr (l : List Ga) (P : Nat → Prop) (S0 : List Nat) (E : Nat → Prop) (s : Ps) : Prop where
  rea : s.reached = s.met
  wai : s.waiting = s.way.map Prod.fst
  par : ∀ y, s.part y = if y ∈ s.out then s.met y else 0
  nd : (s.out ++ s.way.map Prod.fst).Nodup
  lt : ∀ x ∈ s.out ++ s.way.map Prod.fst, x < l.length
  met : ∀ x, s.met x ≠ 0 ↔ x ∈ s.out ++ s.way.map Prod.fst
  top : ∀ x, s.met x ≤ ((s.out ++ s.way.map Prod.fst).length : Int)
  inj : ∀ x y, s.met x = s.met y → s.met x ≠ 0 → x = y
  ord : ∀ (i x y : Nat), s.out[i]? = some x → Leans l x y → ∃ j, j < i ∧ s.out[j]? = some y
  chain : ∀ (k : Nat) (a b : Nat × List Nat), s.way[k]? = some a → s.way[k + 1]? = some b → Leans l a.1 b.1
  left : ∀ (k : Nat) (a : Nat × List Nat), s.way[k]? = some a → ∀ y, Leans l a.1 y → y ∈ a.2 ∨ y ∈ s.out ∨ (∃ b, s.way[k + 1]? = some b ∧ b.1 = y) ∨ (k + 1 = s.way.length ∧ E y)
  leftL : ∀ a ∈ s.way, ∀ y ∈ a.2, Leans l a.1 y
  allow : ∀ x ∈ s.out ++ s.way.map Prod.fst, P x
  keep : ∀ x ∈ S0, x ∈ s.out ++ s.way.map Prod.fst
def Ps.left (n : Nat) (s : Ps) : Nat := 5 * (n - (s.out ++ s.way.map Prod.fst).length) + (s.way.map fun a => a.2.length + 1).sum

theorem leanN_mem {l : List Ga} (hl : ∀ (i : Nat) (g : Ga), l[i]? = some g → ∀ a ∈ leansOn g, 0 ≤ a ∧ a < (l.length : Int)) (x y : Nat) : y ∈ leanN l x ↔ Leans l x y := by
  unfold leanN Leans
  cases h : l[x]? with
  | none => simp
  | some g =>
    simp only [List.mem_map, Option.some.injEq, exists_eq_left']
    constructor
    · rintro ⟨a, ha, rfl⟩
      rw [Int.toNat_of_nonneg (hl x g h a ha).1]
      exact ha
    · intro hy
      exact ⟨_, hy, by simp⟩
theorem leanN_len (l : List Ga) (x : Nat) : (leanN l x).length ≤ 3 := by
  unfold leanN
  cases l[x]? with
  | none => simp
  | some g =>
    simp only [List.length_map]
    unfold leansOn
    split
    · simp
    · split <;> simp
theorem few_of_nodup {n : Nat} {L : List Nat} (hn : L.Nodup) (hl : ∀ x ∈ L, x < n) : L.length ≤ n := by
  apply Classical.byContradiction
  intro hno
  have hat : ∀ k, k ≤ n → k < L.length := fun k hk => by omega
  obtain ⟨a, b, hab, hb, e⟩ := holes n (fun k => L.getD k 0) (fun k hk => by
    show L.getD k 0 < n
    rw [List.getD_eq_getElem?_getD, List.getElem?_eq_getElem (hat k hk)]
    exact hl _ (List.getElem_mem _))
  have e2 : L.getD a 0 = L.getD b 0 := e
  rw [List.getD_eq_getElem?_getD, List.getD_eq_getElem?_getD, List.getElem?_eq_getElem (hat a (by omega)), List.getElem?_eq_getElem (hat b hb)] at e2
  have := (List.getElem?_inj (hat a (by omega)) hn).1 (show L[a]? = L[b]? by rw [List.getElem?_eq_getElem (hat a (by omega)), List.getElem?_eq_getElem (hat b hb)]; exact congrArg some e2)
  omega
theorem way_chain {l : List Ga} {way : List (Nat × List Nat)} (h : ∀ (k : Nat) (a b : Nat × List Nat), way[k]? = some a → way[k + 1]? = some b → Leans l a.1 b.1) : ∀ (d k : Nat) (a b : Nat × List Nat), way[k]? = some a → way[k + d + 1]? = some b → Way l a.1 b.1 := by
  intro d
  induction d with
  | zero => intro k a b ha hb; exact .one (h k a b ha hb)
  | succ d ih =>
    intro k a b ha hb
    have hk : k + d + 1 < way.length := by
      have := (List.getElem?_eq_some_iff.1 hb).1
      omega
    have hm : way[k + d + 1]? = some way[k + d + 1] := List.getElem?_eq_getElem hk
    exact way_snoc (ih k a _ ha hm) (h _ _ _ hm hb)

section
variable {l : List Ga} {P : Nat → Prop} {S0 : List Nat} {E : Nat → Prop} {s : Ps}
theorem Sr.ok (hl : ∀ (i : Nat) (g : Ga), l[i]? = some g → ∀ a ∈ leansOn g, 0 ≤ a ∧ a < (l.length : Int)) (h : Sr l P S0 E s) : s.Ok l := by
  have hfew := few_of_nodup h.nd h.lt
  rw [List.length_append, List.length_map] at hfew
  refine ⟨fun a ha => ⟨h.lt _ (List.mem_append_right _ (List.mem_map_of_mem ha)), fun y hy => ?_⟩, fun x hx => h.lt x (List.mem_append_right _ (by rw [← h.wai]; exact hx)), by omega, by rw [h.wai, List.length_map]; omega⟩
  obtain ⟨g, hg, hy2⟩ := h.leftL a ha y hy
  have := hl _ g hg _ hy2
  omega
theorem Sr.at_last (ws : List (Nat × List Nat)) (a : Nat × List Nat) : (ws ++ [a])[ws.length]? = some a := by simp
/-- what is met, and not out, is on the way. -/
theorem Sr.no_again (hf : ∀ i, ¬ Way l i i) (h : Sr l P S0 E s) {ws : List (Nat × List Nat)} {x y : Nat} {lf : List Nat} (hw : s.way = ws ++ [(x, y :: lf)]) (hm : s.met y ≠ 0) : s.part y ≠ 0 := by
  intro hp
  have hy := (h.met y).1 hm
  have hno : y ∉ s.out := fun ho => by
    have := h.par y
    rw [if_pos ho] at this
    exact hm (by rw [← this]; exact hp)
  have hyw : y ∈ s.way.map Prod.fst := by
    rcases List.mem_append.1 hy with h1 | h1
    · exact absurd h1 hno
    · exact h1
  obtain ⟨a, ha, rfl⟩ := List.mem_map.1 hyw
  obtain ⟨k, hk, hka⟩ := List.getElem_of_mem ha
  have hka2 : s.way[k]? = some a := by rw [List.getElem?_eq_getElem hk, hka]
  have hx : s.way[ws.length]? = some (x, a.1 :: lf) := by rw [hw]; exact Sr.at_last _ _
  have hlean : Leans l x a.1 := h.leftL (x, a.1 :: lf) (by rw [hw]; simp) a.1 (by simp)
  have hkl : k ≤ ws.length := by rw [hw, List.length_append, List.length_singleton] at hk; omega
  by_cases hkw : k = ws.length
  · rw [hkw] at hka2
    rw [hx] at hka2
    have e1 : x = a.1 := congrArg Prod.fst (Option.some.inj hka2)
    rw [← e1] at hlean
    exact hf _ (.one hlean)
  · have := way_chain h.chain (ws.length - k - 1) k a (x, a.1 :: lf) hka2 (by rw [show k + (ws.length - k - 1) + 1 = ws.length by omega]; exact hx)
    exact hf _ (way_snoc this hlean)
theorem Sr.take (h : Sr l P S0 (fun _ => False) s) {ws : List (Nat × List Nat)} {x y : Nat} {lf : List Nat} (hw : s.way = ws ++ [(x, y :: lf)]) : Sr l P S0 (fun z => z = y) (s.goes (ws ++ [(x, lf)])) := by
  have hm : (ws ++ [(x, lf)]).map Prod.fst = s.way.map Prod.fst := by rw [hw]; simp
  have hat : ∀ (k : Nat) (a : Nat × List Nat), (ws ++ [(x, lf)])[k]? = some a → ∃ b, s.way[k]? = some b ∧ b.1 = a.1 ∧ (∀ z, z ∈ b.2 → z ∈ a.2 ∨ (k + 1 = (ws ++ [(x, lf)]).length ∧ z = y)) ∧ ∀ z ∈ a.2, z ∈ b.2 := fun k a hk => by
    by_cases hlt : k < ws.length
    · rw [List.getElem?_append_left hlt] at hk
      exact ⟨a, by rw [hw, List.getElem?_append_left hlt]; exact hk, rfl, fun z hz => .inl hz, fun z hz => hz⟩
    · have hk2 := (List.getElem?_eq_some_iff.1 hk).1
      rw [List.length_append, List.length_singleton] at hk2
      obtain rfl : k = ws.length := by omega
      rw [Sr.at_last] at hk
      obtain rfl := Option.some.inj hk
      refine ⟨(x, y :: lf), by rw [hw]; exact Sr.at_last _ _, rfl, fun z hz => ?_, fun z hz => by simp [show z ∈ lf from hz]⟩
      rcases List.mem_cons.1 hz with rfl | hz
      · exact .inr ⟨by simp, rfl⟩
      · exact .inl hz
  have hback : ∀ (k : Nat) (b : Nat × List Nat), s.way[k]? = some b → ∃ a, (ws ++ [(x, lf)])[k]? = some a ∧ a.1 = b.1 := fun k b hk => by
    have hk2 := (List.getElem?_eq_some_iff.1 hk).1
    have hk3 : k < (ws ++ [(x, lf)]).length := by rw [hw] at hk2; simpa using hk2
    obtain ⟨b', hb', e, _⟩ := hat k _ (List.getElem?_eq_getElem hk3)
    rw [hk] at hb'
    obtain rfl := Option.some.inj hb'
    exact ⟨_, List.getElem?_eq_getElem hk3, e.symm⟩
  refine ⟨h.rea, by show s.waiting = (ws ++ [(x, lf)]).map Prod.fst; rw [hm]; exact h.wai, h.par, ?_, ?_, ?_, ?_, h.inj, h.ord, fun k a b ha hb => ?_, fun k a ha z hz => ?_, fun a ha z hz => ?_, ?_, ?_⟩
  · show (s.out ++ (ws ++ [(x, lf)]).map Prod.fst).Nodup
    rw [hm]; exact h.nd
  · show ∀ z ∈ s.out ++ (ws ++ [(x, lf)]).map Prod.fst, z < l.length
    rw [hm]; exact h.lt
  · show ∀ z, s.met z ≠ 0 ↔ z ∈ s.out ++ (ws ++ [(x, lf)]).map Prod.fst
    rw [hm]; exact h.met
  · show ∀ z, s.met z ≤ ((s.out ++ (ws ++ [(x, lf)]).map Prod.fst).length : Int)
    rw [hm]; exact h.top
  · obtain ⟨a', ha', ea, _⟩ := hat k a ha
    obtain ⟨b', hb', eb, _⟩ := hat (k + 1) b hb
    rw [← ea, ← eb]
    exact h.chain k a' b' ha' hb'
  · obtain ⟨a', ha', ea, h1, h2⟩ := hat k a ha
    rw [← ea] at hz
    rcases h.left k a' ha' z hz with hz2 | hz2 | ⟨b, hb, e⟩ | ⟨_, hno⟩
    · rcases h1 z hz2 with hz3 | hz3
      · exact .inl hz3
      · exact .inr (.inr (.inr hz3))
    · exact .inr (.inl hz2)
    · obtain ⟨b', hb', e'⟩ := hback (k + 1) b hb
      exact .inr (.inr (.inl ⟨b', hb', e'.trans e⟩))
    · exact hno.elim
  · have ha : a ∈ ws ++ [(x, lf)] := ha
    obtain ⟨k, hk, e⟩ := List.getElem_of_mem ha
    obtain ⟨a', ha', ea, _, h2⟩ := hat k a (by rw [List.getElem?_eq_getElem hk, e])
    rw [← ea]
    exact h.leftL a' (List.mem_of_getElem? ha') z (h2 z hz)
  · show ∀ z ∈ s.out ++ (ws ++ [(x, lf)]).map Prod.fst, P z
    rw [hm]; exact h.allow
  · show ∀ z ∈ S0, z ∈ s.out ++ (ws ++ [(x, lf)]).map Prod.fst
    rw [hm]; exact h.keep
theorem Sr.settle (h : Sr l P S0 E s) (hE : ∀ z, E z → z ∈ s.out) : Sr l P S0 (fun _ => False) s :=
  ⟨h.rea, h.wai, h.par, h.nd, h.lt, h.met, h.top, h.inj, h.ord, h.chain, fun k a ha z hz => by
    rcases h.left k a ha z hz with h1 | h1 | h1 | ⟨_, h1⟩
    · exact .inl h1
    · exact .inr (.inl h1)
    · exact .inr (.inr (.inl h1))
    · exact .inr (.inl (hE z h1)), h.leftL, h.allow, h.keep⟩
/-- a line is met. -/
theorem Sr.meet (hl : ∀ (i : Nat) (g : Ga), l[i]? = some g → ∀ a ∈ leansOn g, 0 ≤ a ∧ a < (l.length : Int)) (h : Sr l P S0 E s) {y : Nat} (hE : ∀ z, E z → z = y) (hy : y < l.length) (hm : s.met y = 0) (hP : P y)
    (hlast : ∀ ws a, s.way = ws ++ [a] → Leans l a.1 y) : Sr l P S0 (fun _ => False) (s.meet l y) := by
  have hno : y ∉ s.out ++ s.way.map Prod.fst := fun hin => (h.met y).2 hin hm
  have hmap : (s.way ++ [(y, leanN l y)]).map Prod.fst = s.way.map Prod.fst ++ [y] := by simp
  have hnum : s.number = ((s.out ++ s.way.map Prod.fst).length : Int) + 1 := by
    unfold Ps.number
    rw [h.wai, List.length_append]
    simp
    omega
  have happ : s.out ++ (s.way.map Prod.fst ++ [y]) = (s.out ++ s.way.map Prod.fst) ++ [y] := by rw [List.append_assoc]
  refine ⟨?_, ?_, fun z => ?_, ?_, ?_, fun z => ?_, fun z => ?_, fun a b hab ha => ?_, h.ord, fun k a b ha hb => ?_, fun k a ha z hz => ?_, fun a ha z hz => ?_, ?_, ?_⟩
  · show upd s.reached y s.number = upd s.met y s.number
    rw [h.rea]
  · show s.waiting ++ [y] = (s.way ++ [(y, leanN l y)]).map Prod.fst
    rw [hmap, h.wai]
  · show s.part z = if z ∈ s.out then upd s.met y s.number z else 0
    rw [h.par z]
    by_cases hz : z ∈ s.out
    · rw [if_pos hz, if_pos hz, upd, if_neg (by rintro rfl; exact hno (List.mem_append_left _ hz))]
    · rw [if_neg hz, if_neg hz]
  · show (s.out ++ (s.way ++ [(y, leanN l y)]).map Prod.fst).Nodup
    rw [hmap, happ, List.nodup_append]
    exact ⟨h.nd, by simp, fun a ha b hb e => hno (by simp at hb; rw [← hb, ← e]; exact ha)⟩
  · show ∀ z ∈ s.out ++ (s.way ++ [(y, leanN l y)]).map Prod.fst, z < l.length
    rw [hmap, happ]
    intro z hz
    rcases List.mem_append.1 hz with hz | hz
    · exact h.lt z hz
    · simp at hz; omega
  · show upd s.met y s.number z ≠ 0 ↔ z ∈ s.out ++ (s.way ++ [(y, leanN l y)]).map Prod.fst
    rw [hmap, happ, List.mem_append, upd]
    by_cases hz : z = y
    · subst hz
      rw [if_pos rfl, hnum]
      simp
      omega
    · rw [if_neg hz, h.met z]
      simp [hz]
  · show upd s.met y s.number z ≤ ((s.out ++ (s.way ++ [(y, leanN l y)]).map Prod.fst).length : Int)
    rw [hmap, happ, List.length_append, List.length_singleton, upd]
    by_cases hz : z = y
    · rw [if_pos hz, hnum]; omega
    · rw [if_neg hz]
      have := h.top z
      omega
  · have hab2 : upd s.met y s.number a = upd s.met y s.number b := hab
    have ha2 : upd s.met y s.number a ≠ 0 := ha
    unfold upd at hab2 ha2
    by_cases ea : a = y
    · by_cases eb : b = y
      · rw [ea, eb]
      · rw [if_pos ea, if_neg eb] at hab2
        have := h.top b
        omega
    · by_cases eb : b = y
      · rw [if_neg ea, if_pos eb] at hab2
        have := h.top a
        omega
      · rw [if_neg ea, if_neg eb] at hab2
        rw [if_neg ea] at ha2
        exact h.inj a b hab2 ha2
  · have ha : (s.way ++ [(y, leanN l y)])[k]? = some a := ha
    have hb : (s.way ++ [(y, leanN l y)])[k + 1]? = some b := hb
    have hk := (List.getElem?_eq_some_iff.1 hb).1
    rw [List.length_append, List.length_singleton] at hk
    rw [List.getElem?_append_left (by omega)] at ha
    by_cases hlt : k + 1 < s.way.length
    · rw [List.getElem?_append_left hlt] at hb
      exact h.chain k a b ha hb
    · have e : k + 1 = s.way.length := by omega
      rw [e, Sr.at_last] at hb
      obtain rfl := Option.some.inj hb
      refine hlast (s.way.take k) a ?_
      have := List.take_append_getElem (l := s.way) (i := k) (by omega)
      rw [(List.getElem?_eq_some_iff.1 ha).2] at this
      rw [this, List.take_of_length_le (by omega)]
  · have ha : (s.way ++ [(y, leanN l y)])[k]? = some a := ha
    have hk := (List.getElem?_eq_some_iff.1 ha).1
    rw [List.length_append, List.length_singleton] at hk
    by_cases hlt : k < s.way.length
    · rw [List.getElem?_append_left hlt] at ha
      rcases h.left k a ha z hz with h1 | h1 | ⟨b, hb, e⟩ | ⟨hk1, he⟩
      · exact .inl h1
      · exact .inr (.inl h1)
      · exact .inr (.inr (.inl ⟨b, by show (s.way ++ [(y, leanN l y)])[k + 1]? = some b; rw [List.getElem?_append_left (List.getElem?_eq_some_iff.1 hb).1]; exact hb, e⟩))
      · exact .inr (.inr (.inl ⟨(y, leanN l y), by show (s.way ++ [(y, leanN l y)])[k + 1]? = some (y, leanN l y); rw [hk1]; exact Sr.at_last _ _, (hE z he).symm⟩))
    · obtain rfl : k = s.way.length := by omega
      rw [Sr.at_last] at ha
      obtain rfl := Option.some.inj ha
      exact .inl ((leanN_mem hl y z).2 hz)
  · have ha : a ∈ s.way ++ [(y, leanN l y)] := ha
    rcases List.mem_append.1 ha with ha | ha
    · exact h.leftL a ha z hz
    · obtain rfl := List.mem_singleton.1 ha
      exact (leanN_mem hl y z).1 hz
  · show ∀ z ∈ s.out ++ (s.way ++ [(y, leanN l y)]).map Prod.fst, P z
    rw [hmap, happ]
    intro z hz
    rcases List.mem_append.1 hz with hz | hz
    · exact h.allow z hz
    · simp at hz; rw [hz]; exact hP
  · show ∀ z ∈ S0, z ∈ s.out ++ (s.way ++ [(y, leanN l y)]).map Prod.fst
    rw [hmap, happ]
    intro z hz
    exact List.mem_append_left _ (h.keep z hz)
/-- a line comes out. -/
theorem Sr.back (h : Sr l P S0 (fun _ => False) s) {ws : List (Nat × List Nat)} {x : Nat} (hw : s.way = ws ++ [(x, [])]) : s.waiting = ws.map Prod.fst ++ [x] ∧ s.part x = 0 ∧ s.met x ≠ 0 ∧ Sr l P S0 (fun _ => False) ((s.goes ws).comeOut (ws.map Prod.fst) [] x) := by
  have hmap : s.way.map Prod.fst = ws.map Prod.fst ++ [x] := by rw [hw]; simp
  have hxin : x ∈ s.out ++ s.way.map Prod.fst := by rw [hmap]; simp
  have hxo : x ∉ s.out := fun ho => by
    have := h.nd
    rw [hmap, List.nodup_append] at this
    exact this.2.2 x ho x (by simp) rfl
  have hperm : ((s.out ++ [x]) ++ ws.map Prod.fst).Perm (s.out ++ s.way.map Prod.fst) := by
    rw [hmap, List.append_assoc]
    exact List.Perm.append_left _ List.perm_append_comm
  have hmx := (h.met x).2 hxin
  have hpx : s.part x = 0 := by rw [h.par x, if_neg hxo]
  have hget : ∀ (k : Nat) (a : Nat × List Nat), ws[k]? = some a → s.way[k]? = some a := fun k a hk => by rw [hw, List.getElem?_append_left (List.getElem?_eq_some_iff.1 hk).1]; exact hk
  refine ⟨by rw [h.wai, hmap], hpx, hmx, ?_⟩
  refine ⟨h.rea, rfl, fun z => ?_, ?_, ?_, fun z => ?_, fun z => ?_, h.inj, fun i a b ha hb => ?_, fun k a b ha hb => h.chain k a b (hget k a ha) (hget _ b hb), fun k a ha z hz => ?_, fun a ha z hz => h.leftL a (by rw [hw]; exact List.mem_append_left _ ha) z hz, ?_, ?_⟩
  · show (if z ∈ [x] then s.met x else s.part z) = if z ∈ s.out ++ [x].reverse then s.met z else 0
    by_cases hz : z = x
    · subst hz; simp
    · rw [if_neg (by simpa using hz), h.par z]
      simp [hz]
  · show ((s.out ++ [x].reverse) ++ ws.map Prod.fst).Nodup
    exact hperm.nodup_iff.2 h.nd
  · show ∀ z ∈ (s.out ++ [x].reverse) ++ ws.map Prod.fst, z < l.length
    exact fun z hz => h.lt z (hperm.mem_iff.1 hz)
  · show s.met z ≠ 0 ↔ z ∈ (s.out ++ [x].reverse) ++ ws.map Prod.fst
    rw [h.met z]
    exact hperm.mem_iff.symm
  · show s.met z ≤ (((s.out ++ [x].reverse) ++ ws.map Prod.fst).length : Int)
    rw [show ((s.out ++ [x].reverse) ++ ws.map Prod.fst).length = _ from hperm.length_eq]
    exact h.top z
  · have ha : (s.out ++ [x])[i]? = some a := ha
    have hi := (List.getElem?_eq_some_iff.1 ha).1
    rw [List.length_append, List.length_singleton] at hi
    by_cases hlt : i < s.out.length
    · rw [List.getElem?_append_left hlt] at ha
      obtain ⟨j, hj, hjb⟩ := h.ord i a b ha hb
      exact ⟨j, hj, by show (s.out ++ [x])[j]? = some b; rw [List.getElem?_append_left (by omega)]; exact hjb⟩
    · obtain rfl : i = s.out.length := by omega
      simp at ha
      subst ha
      rcases h.left ws.length (x, []) (by rw [hw]; exact Sr.at_last _ _) b hb with h1 | h1 | ⟨c, hc, _⟩ | ⟨_, hno⟩
      · simp at h1
      · obtain ⟨j, hj, e⟩ := List.getElem_of_mem h1
        exact ⟨j, hj, by show (s.out ++ [x])[j]? = some b; rw [List.getElem?_append_left hj, List.getElem?_eq_getElem hj, e]⟩
      · have := (List.getElem?_eq_some_iff.1 hc).1
        rw [hw, List.length_append, List.length_singleton] at this
        omega
      · exact hno.elim
  · have ha : ws[k]? = some a := ha
    rcases h.left k a (hget k a ha) z hz with h1 | h1 | ⟨b, hb, e⟩ | ⟨_, hno⟩
    · exact .inl h1
    · exact .inr (.inl (List.mem_append_left _ h1))
    · by_cases hlt : k + 1 < ws.length
      · rw [hw, List.getElem?_append_left hlt] at hb
        exact .inr (.inr (.inl ⟨b, hb, e⟩))
      · have hk := (List.getElem?_eq_some_iff.1 ha).1
        rw [hw, show k + 1 = ws.length by omega, Sr.at_last] at hb
        obtain rfl := Option.some.inj hb
        exact .inr (.inl (by show z ∈ s.out ++ [x]; rw [← e]; simp))
    · exact hno.elim
  · show ∀ z ∈ (s.out ++ [x].reverse) ++ ws.map Prod.fst, P z
    exact fun z hz => h.allow z (hperm.mem_iff.1 hz)
  · show ∀ z ∈ S0, z ∈ (s.out ++ [x].reverse) ++ ws.map Prod.fst
    exact fun z hz => hperm.mem_iff.2 (h.keep z hz)
end

theorem Sr.keeps {l : List Ga} (hl : ∀ (i : Nat) (g : Ga), l[i]? = some g → ∀ a ∈ leansOn g, 0 ≤ a ∧ a < (l.length : Int)) (hf : ∀ i, ¬ Way l i i) (P : Nat → Prop) (hP : ∀ x y, P x → Leans l x y → P y) (S0 : List Nat) : Keeps l (Sr l P S0 fun _ => False) (Ps.left l.length) := by
  refine ⟨fun s h => h.ok hl, fun s ws x h hw hr => ?_, fun s ws x h hw hr => absurd (by rw [h.rea]) hr, fun s ws x y lf h hw hm => ?_, fun s ws x y lf h hw hm hp => absurd hp (h.no_again hf hw hm), fun s ws x y lf h hw hm hp => ?_⟩
  · obtain ⟨h1, h2, h3, h4⟩ := h.back hw
    refine ⟨ws.map Prod.fst, [], h1, by simp, h2, h3, h4, ?_⟩
    show 5 * (l.length - ((s.out ++ [x].reverse) ++ ws.map Prod.fst).length) + (ws.map fun a => a.2.length + 1).sum < 5 * (l.length - (s.out ++ s.way.map Prod.fst).length) + (s.way.map fun a => a.2.length + 1).sum
    rw [hw]
    simp
  · have hlean : Leans l x y := h.leftL (x, y :: lf) (by rw [hw]; simp) y (by simp)
    obtain ⟨g, hg, hy2⟩ := hlean
    have hb := hl x g hg _ hy2
    have hno : y ∉ s.out ++ s.way.map Prod.fst := fun hin => (h.met y).2 hin hm
    have hfull : (s.out ++ s.way.map Prod.fst).length < l.length := by
      have := few_of_nodup (n := l.length) (L := (s.out ++ s.way.map Prod.fst) ++ [y]) (List.nodup_append.2 ⟨h.nd, by simp, fun a ha b hb e => hno (by simp at hb; rw [← hb, ← e]; exact ha)⟩) (fun z hz => by
        rcases List.mem_append.1 hz with hz | hz
        · exact h.lt z hz
        · simp at hz; omega)
      rw [List.length_append, List.length_singleton] at this
      omega
    refine ⟨?_, ?_⟩
    · refine Sr.meet hl (h.take hw) (fun z hz => hz) (by omega) hm (hP x y (h.allow x (by rw [hw]; simp)) ⟨g, hg, hy2⟩) fun vs a e => ?_
      have e2 : ws ++ [(x, lf)] = vs ++ [a] := e
      have := List.append_inj_right' e2 rfl
      obtain rfl := List.singleton_inj.1 this
      exact ⟨g, hg, hy2⟩
    · show 5 * (l.length - (s.out ++ ((ws ++ [(x, lf)]) ++ [(y, leanN l y)]).map Prod.fst).length) + (((ws ++ [(x, lf)]) ++ [(y, leanN l y)]).map fun a => a.2.length + 1).sum < 5 * (l.length - (s.out ++ s.way.map Prod.fst).length) + (s.way.map fun a => a.2.length + 1).sum
      have hq := leanN_len l y
      rw [hw] at hfull ⊢
      simp at hfull ⊢
      omega
  · have hyo : y ∈ s.out := by
      apply Classical.byContradiction
      intro hn
      exact hp (by rw [h.par y, if_neg hn])
    refine ⟨(h.take hw).settle (fun z hz => by rw [hz]; exact hyo), ?_⟩
    show 5 * (l.length - (s.out ++ (ws ++ [(x, lf)]).map Prod.fst).length) + ((ws ++ [(x, lf)]).map fun a => a.2.length + 1).sum < 5 * (l.length - (s.out ++ s.way.map Prod.fst).length) + (s.way.map fun a => a.2.length + 1).sum
    rw [hw]
    simp
end PureNet
/-
  The search of the program in memory.
-/
namespace Go.Proofs.YtfmmmhcpdinhgaaDoor
open Go.RowKit Go.Deep PureNet ShfKit
set_option maxRecDepth 100000

/-- only rows of that type have turned. -/
def Kp (t : Nat) (W W' : World) : Prop := ∀ (k : Nat) (cs : Array Value) (tt : Nat) (fz : Nat × Nat), W.heap[k]? = some (.cells cs tt fz) → tt ≠ t → W'.heap[k]? = some (.cells cs tt fz)
theorem Kp.below {t : Nat} {W W' : World} (h : Below W.heap.size W W') : Kp t W W' := fun k _ _ _ hk _ => (h.block k (Array.getElem?_eq_some_iff.1 hk).1).trans hk
theorem Kp.own {t B e size n : Nat} {W W' : World} {v : Value} {xs : List Value} (h : Kp t W W') (ho : W.ownsRow B e size v n xs) (hne : e ≠ t) : W'.ownsRow B e size v n xs :=
  ShfKit.own_kept ho fun g hg => by
    obtain ⟨c, f, hk⟩ := Lib.ownsRow_kind ho g hg
    rw [hk]
    exact h g c e f hk hne
theorem Kp.fam {t B e size : Nat} {W W' : World} {L : List Rw} (h : Kp t W W') (hF : Fam W B e size L) (hne : e ≠ t) : Fam W' B e size L := ⟨fun i x hx => h.own (hF.own i x hx) hne, hF.apart⟩
theorem Kp.setCell {t p j : Nat} {W : World} {cs : Array Value} {fz : Nat × Nat} (hp : W.heap[p]? = some (.cells cs t fz)) (u : Value) : Kp t W (W.setCell ⟨p, j, none⟩ u) := fun k c tt f hk ht => by
  refine (Below.heap_setCell W _ _ _ (fun e => ?_)).trans hk
  subst e
  rw [hp] at hk
  simp only [Option.some.injEq, Obj.cells.injEq] at hk
  exact ht hk.2.1.symm
theorem Kp.grown {t B size n : Nat} {W W' : World} {v : Value} {xs : List Value} (ho : W.ownsRow B t size v n xs) (hg : W.grownBy W' v.ownBlock) : Kp t W W' := fun k c tt f hk ht => by
  refine (hg.block k (Array.getElem?_eq_some_iff.1 hk).1 (fun e => ?_)).trans hk
  exact own_ne ho hk ht e.symm
theorem Fam.take {B e size : Nat} {W : World} {L : List Rw} (h : Fam W B e size L) (k : Nat) : Fam W B e size (L.take k) := by
  refine ⟨fun i x hx => ?_, fun i j x y g hx hy => ?_⟩
  · rw [List.getElem?_take] at hx
    split at hx
    · exact h.own i x hx
    · cases hx
  · rw [List.getElem?_take] at hx hy
    split at hx
    · split at hy
      · exact h.apart i j x y g hx hy
      · cases hy
    · cases hx

/-- what is left to look at: a slice of a row. -/
def Lf (lv : Value) (r : Rw) (left : List Nat) : Prop := ∃ s c, lv = .slice s left.length c ∧ left.length ≤ c ∧ (left ≠ [] → ∃ g k, s = some ⟨g, k, none⟩ ∧ r.1.ownBlock = some g ∧ ∀ (j y : Nat), left[j]? = some y → r.2.2[k + j]? = some (.int .i64 (y : Int)))

set_option maxHeartbeats 1000000 in
theorem pleans_any (g : Ga) (w : World) (hK : KindsAt w) (h1 : 1 ≤ g.kind ∧ g.kind ≤ 4) (hn : ∀ a ∈ leansOn g, 0 ≤ a) :
    Calls Tryd.prog 81 #[.agg #[.int .i64 g.kind, .string g.name, .int .i64 g.op, .int .i64 g.a, .int .i64 g.b, .int .i64 g.c]] w fun e w' => ∃ lv r, e = .returned lv ∧ Lf lv r ((leansOn g).map Int.toNat) ∧ w'.ownsRow w.heap.size 3 1 r.1 r.2.1 r.2.2 ∧ Below w.heap.size w w' := by
  obtain ⟨x, hx⟩ : ∃ x, x = w.alloc (Obj.cells #[Value.int .i64 g.kind, .string g.name, .int .i64 g.op, .int .i64 g.a, .int .i64 g.b, .int .i64 g.c] 38) := ⟨_, rfl⟩
  have BX : Hid (Below w.heap.size w x) := by rw [hx]; exact (Below.refl _ _).alloc (Nat.le_refl _) _
  have C0 : Hid (x.heap[w.heap.size]? = some (.cells #[Value.int .i64 g.kind, .string g.name, .int .i64 g.op, .int .i64 g.a, .int .i64 g.b, .int .i64 g.c] 38 (0, 0))) := by rw [hx]; exact heap_alloc_new w _
  have c0 := fun j => cell_row C0.out j
  have hb0 := (Array.getElem?_eq_some_iff.1 C0.out).1
  have US := hid (fun k hk h1 h4 => used_any k g x (hK.on BX.out) hk h1 h4)
  have HN := hid hn
  have HX := hid hx
  clear hx hK hn
  by_cases h3 : g.kind = 3
  · have H3 := hid h3
    have h3b : (g.kind == 3) = true := by rw [h3]; rfl
    clear h3
    go_enter Tryd.func81, Tryd.ntmps81
    go_wp2_with (rw [← HX.out])
    refine bodyPost_ret (v := .slice none 0 0) (by simp [results, Tryd.results81, go_sem]) rfl ⟨.slice none 0 0, (.slice none 0 0, 0, []), rfl, ⟨none, 0, ?_, by simp [leansOn, H3.out], fun h => absurd (by simp [leansOn, H3.out]) h⟩, World.ownsRow_nil _ _ _ _, BX.out⟩
    simp [leansOn, H3.out]
  · have hk : ∃ k : Nat, g.kind = (k : Int) ∧ 1 ≤ k ∧ k ≤ 4 ∧ k ≠ 3 := ⟨g.kind.toNat, by omega, by omega, by omega, by omega⟩
    obtain ⟨k, hk, hk1, hk4, hk3⟩ := hk
    have h3b : (g.kind == 3) = false := beq_eq_false_iff_ne.2 h3
    have HK := hid hk
    have UA := hid (US.out k hk hk1 hk4)
    clear hk h3 US
    go_enter Tryd.func81, Tryd.ntmps81
    go_wp2_with (first | (rw [← HX.out]) | (go_at_call 104; refine Calls.mono UA.out ?_; rintro e w1 ⟨b, rfl, hb, hrow, b1⟩; have HB := hid hb; have HR := hid hrow; have B1 := hid b1; clear hb hrow b1))
    refine bodyPost_ret (v := .slice (some ⟨b, 0, none⟩) (usesN k) 3) (by simp [results, Tryd.results81, go_sem]) rfl ⟨.slice (some ⟨b, 0, none⟩) (usesN k) 3, (.slice (some ⟨b, 0, none⟩) 3 3, 3, [.int .i64 g.a, .int .i64 g.b, .int .i64 g.c]), rfl, ⟨some ⟨b, 0, none⟩, 3, ?_, ?_, fun _ => ⟨b, 0, rfl, rfl, fun j y hy => ?_⟩⟩, ⟨rfl, .inr ⟨b, 3, _, rfl, Nat.le_trans BX.out.size HB.out, HR.out, Nat.le_refl _, by unfold maxLen; omega, rfl, rfl⟩⟩, BX.out.trans (B1.out.mono BX.out.size)⟩
    · have e : ((leansOn g).map Int.toNat).length = usesN k := by
        rw [List.length_map]
        unfold leansOn usesN
        rw [HK.out]
        have : k = 1 ∨ k = 2 ∨ k = 4 := by omega
        rcases this with rfl | rfl | rfl <;> rfl
      rw [e]
    · rw [List.length_map]
      unfold leansOn
      split
      · simp
      · split <;> simp
    · rw [List.getElem?_map, Option.map_eq_some_iff] at hy
      obtain ⟨a, ha, rfl⟩ := hy
      have h0 := HN.out a (List.mem_of_getElem? ha)
      rw [Int.toNat_of_nonneg h0, Nat.zero_add]
      unfold leansOn at ha
      split at ha
      · match j, ha with
        | 0, ha => simp at ha; simp [ha]
        | 1, ha => simp at ha; simp [ha]
        | j + 2, ha => simp at ha
      · split at ha
        · match j, ha with
          | 0, ha => simp at ha; simp [ha]
          | 1, ha => simp at ha; simp [ha]
          | 2, ha => simp at ha; simp [ha]
          | j + 3, ha => simp at ha
        · simp at ha

def stopsV : List (Nat × List Nat) → List (Value × Rw) → List Value
  | a :: way, r :: rs => .int .i64 (a.1 : Int) :: r.1 :: stopsV way rs
  | _, _ => []
theorem stopsV_len : ∀ (way : List (Nat × List Nat)) (rs : List (Value × Rw)), rs.length = way.length → (stopsV way rs).length = way.length * 2
  | [], [], _ => rfl
  | a :: way, r :: rs, h => by simp only [stopsV, List.length_cons, stopsV_len way rs (by simpa using h)]; omega
theorem stopsV_snoc : ∀ (way : List (Nat × List Nat)) (rs : List (Value × Rw)) (a : Nat × List Nat) (r : Value × Rw), rs.length = way.length → stopsV (way ++ [a]) (rs ++ [r]) = stopsV way rs ++ [.int .i64 (a.1 : Int), r.1]
  | [], [], _, _, _ => rfl
  | b :: way, q :: rs, a, r, h => by simp only [stopsV, List.cons_append, stopsV_snoc way rs a r (by simpa using h)]

/-- a search in memory, made since w, at p. -/
structure Se (w W : World) (p : Nat) (gv : Value) (n : Nat) (s : Ps) (mv rv pv wv tv ov : Value) (rs : List (Value × Rw)) : Prop where
  below : Below w.heap.size w W
  pb : w.heap.size ≤ p
  box : W.heap[p]? = some (.cells #[gv, mv, rv, pv, wv, tv, ov] 78 (0, 0))
  fam : Fam W w.heap.size 3 1 ([(mv, n, rowF n s.met), (rv, n, rowF n s.reached), (pv, n, rowF n s.part), (tv, s.waiting.length, placesV s.waiting), (ov, s.out.length, placesV s.out)] ++ rs.map Prod.snd)
  way : W.ownsRow w.heap.size 100 2 wv s.way.length (stopsV s.way rs)
  rsn : rs.length = s.way.length
  lf : ∀ (k : Nat) (a : Nat × List Nat) (r : Value × Rw), s.way[k]? = some a → rs[k]? = some r → Lf r.1 r.2 a.2

section
variable {w W W' : World} {p n : Nat} {gv mv rv pv wv tv ov : Value} {s : Ps} {rs : List (Value × Rw)}
theorem Se.on (h : Se w W p gv n s mv rv pv wv tv ov rs) (hb : Below W.heap.size W W') : Se w W' p gv n s mv rv pv wv tv ov rs :=
  ⟨h.below.trans (hb.mono h.below.size), h.pb, (hb.block _ (Array.getElem?_eq_some_iff.1 h.box).1).trans h.box, h.fam.below hb, (Kp.below (t := 0) hb).own h.way (by decide), h.rsn, h.lf⟩
theorem Se.cell (h : Se w W p gv n s mv rv pv wv tv ov rs) (j : Nat) : W.cell? ⟨p, j, none⟩ = (#[gv, mv, rv, pv, wv, tv, ov] : Array Value)[j]? := cell_row h.box j
theorem Se.size (h : Se w W p gv n s mv rv pv wv tv ov rs) : p < W.heap.size := (Array.getElem?_eq_some_iff.1 h.box).1
/-- what waits has grown, and lies in the box. -/
theorem Se.waits (h : Se w W p gv n s mv rv pv wv tv ov rs) {tv' : Value} {wt : List Nat} (hF : Fam W' w.heap.size 3 1 ([(mv, n, rowF n s.met), (rv, n, rowF n s.reached), (pv, n, rowF n s.part), (tv', wt.length, placesV wt), (ov, s.out.length, placesV s.out)] ++ rs.map Prod.snd)) (hb : Below w.heap.size w W') (hk : Kp 3 W W') :
    Se w (W'.setCell ⟨p, 5, none⟩ tv') p gv n ⟨s.met, s.reached, s.part, s.way, wt, s.out⟩ mv rv pv wv tv' ov rs := by
  have hbox := hk p _ _ _ h.box (by decide)
  have k2 : Kp 78 W' (W'.setCell ⟨p, 5, none⟩ tv') := Kp.setCell hbox tv'
  exact ⟨hb.setCell h.pb _, h.pb, row_set hbox, k2.fam hF (by decide), k2.own (hk.own h.way (by decide)) (by decide), h.rsn, h.lf⟩
/-- what is out has grown. -/
theorem Se.outs (h : Se w W p gv n s mv rv pv wv tv ov rs) {ov' : Value} {ot : List Nat} (hF : Fam W' w.heap.size 3 1 ([(mv, n, rowF n s.met), (rv, n, rowF n s.reached), (pv, n, rowF n s.part), (tv, s.waiting.length, placesV s.waiting), (ov', ot.length, placesV ot)] ++ rs.map Prod.snd)) (hb : Below w.heap.size w W') (hk : Kp 3 W W') :
    Se w (W'.setCell ⟨p, 6, none⟩ ov') p gv n ⟨s.met, s.reached, s.part, s.way, s.waiting, ot⟩ mv rv pv wv tv ov' rs := by
  have hbox := hk p _ _ _ h.box (by decide)
  have k2 : Kp 78 W' (W'.setCell ⟨p, 6, none⟩ ov') := Kp.setCell hbox ov'
  exact ⟨hb.setCell h.pb _, h.pb, row_set hbox, k2.fam hF (by decide), k2.own (hk.own h.way (by decide)) (by decide), h.rsn, h.lf⟩
/-- a number is written into one of the rows. -/
theorem Se.row (h : Se w W p gv n s mv rv pv wv tv ov rs) {i : Nat} {v : Value} {f : Nat → Int} (hi : i < 3) (hx : ([(mv, n, rowF n s.met), (rv, n, rowF n s.reached), (pv, n, rowF n s.part)] : List Rw)[i]? = some (v, n, rowF n f)) {x : Nat} (hxn : x < n) :
    ∃ g c, v = .slice (some ⟨g, 0, none⟩) n c ∧ w.heap.size ≤ g ∧ g < W.heap.size ∧ W.cell? ⟨g, x, none⟩ = some (.int .i64 (f x)) ∧ W.frozen? ⟨g, x, none⟩ = false ∧ W.heap[g]? ≠ none ∧ (∃ cs, W.heap[g]? = some (.cells cs 3 (0, 0))) := by
  have hx2 : ([(mv, n, rowF n s.met), (rv, n, rowF n s.reached), (pv, n, rowF n s.part), (tv, s.waiting.length, placesV s.waiting), (ov, s.out.length, placesV s.out)] ++ rs.map Prod.snd)[i]? = some (v, n, rowF n f) := by
    match i, hi, hx with
    | 0, _, hx => exact hx
    | 1, _, hx => exact hx
    | 2, _, hx => exact hx
  have ho := h.fam.own i _ hx2
  obtain ⟨g, c, hv, hB, hg, hc, hf⟩ := own_cell ho (rowF_at n f x hxn)
  have hr : ∃ cs, W.heap[g]? = some (.cells cs 3 (0, 0)) := by
    rcases ho.2 with ⟨hv2, h0⟩ | ⟨g2, cap, cur, hv2, _, hr, _⟩
    · exact absurd h0 (by show n ≠ 0; omega)
    · rw [hv] at hv2
      cases hv2
      exact ⟨_, hr⟩
  refine ⟨g, c, hv, hB, hg, hc, hf, ?_, hr⟩
  obtain ⟨cs, e⟩ := hr
  rw [e]
  simp
theorem Se.setMet (h : Se w W p gv n s mv rv pv wv tv ov rs) {g c x : Nat} (hv : mv = .slice (some ⟨g, 0, none⟩) n c) (hB : w.heap.size ≤ g) (u : Int) (hr : ∃ cs, W.heap[g]? = some (.cells cs 3 (0, 0))) :
    Se w (W.setCell ⟨g, x, none⟩ (.int .i64 u)) p gv n ⟨upd s.met x u, s.reached, s.part, s.way, s.waiting, s.out⟩ mv rv pv wv tv ov rs := by
  obtain ⟨cs, hr⟩ := hr
  have k2 : Kp 3 W (W.setCell ⟨g, x, none⟩ (.int .i64 u)) := Kp.setCell hr _
  have h1 := h.fam.write (i := 0) rfl hv (j := x) (.int .i64 u)
  rw [show (mv, n, rowF n s.met).2.2.set x (.int .i64 u) = rowF n (upd s.met x u) from rowF_set _ _ _ _] at h1
  exact ⟨h.below.setCell hB _, h.pb, k2 p _ _ _ h.box (by decide), h1, k2.own h.way (by decide), h.rsn, h.lf⟩
theorem Se.setReached (h : Se w W p gv n s mv rv pv wv tv ov rs) {g c x : Nat} (hv : rv = .slice (some ⟨g, 0, none⟩) n c) (hB : w.heap.size ≤ g) (u : Int) (hr : ∃ cs, W.heap[g]? = some (.cells cs 3 (0, 0))) :
    Se w (W.setCell ⟨g, x, none⟩ (.int .i64 u)) p gv n ⟨s.met, upd s.reached x u, s.part, s.way, s.waiting, s.out⟩ mv rv pv wv tv ov rs := by
  obtain ⟨cs, hr⟩ := hr
  have k2 : Kp 3 W (W.setCell ⟨g, x, none⟩ (.int .i64 u)) := Kp.setCell hr _
  have h1 := h.fam.write (i := 1) rfl hv (j := x) (.int .i64 u)
  rw [show (rv, n, rowF n s.reached).2.2.set x (.int .i64 u) = rowF n (upd s.reached x u) from rowF_set _ _ _ _] at h1
  exact ⟨h.below.setCell hB _, h.pb, k2 p _ _ _ h.box (by decide), h1, k2.own h.way (by decide), h.rsn, h.lf⟩
theorem Se.setPart (h : Se w W p gv n s mv rv pv wv tv ov rs) {g c x : Nat} (hv : pv = .slice (some ⟨g, 0, none⟩) n c) (hB : w.heap.size ≤ g) (u : Int) (hr : ∃ cs, W.heap[g]? = some (.cells cs 3 (0, 0))) :
    Se w (W.setCell ⟨g, x, none⟩ (.int .i64 u)) p gv n ⟨s.met, s.reached, upd s.part x u, s.way, s.waiting, s.out⟩ mv rv pv wv tv ov rs := by
  obtain ⟨cs, hr⟩ := hr
  have k2 : Kp 3 W (W.setCell ⟨g, x, none⟩ (.int .i64 u)) := Kp.setCell hr _
  have h1 := h.fam.write (i := 2) rfl hv (j := x) (.int .i64 u)
  rw [show (pv, n, rowF n s.part).2.2.set x (.int .i64 u) = rowF n (upd s.part x u) from rowF_set _ _ _ _] at h1
  exact ⟨h.below.setCell hB _, h.pb, k2 p _ _ _ h.box (by decide), h1, k2.own h.way (by decide), h.rsn, h.lf⟩
/-- one more stop on the way. -/
theorem Se.stop (h : Se w W p gv n s mv rv pv wv tv ov rs) {W1 W2 : World} {lv : Value} {r : Rw} {x : Nat} {left : List Nat} {wv' : Value} (hb : Below W.heap.size W W1) (ho : W1.ownsRow W.heap.size 3 1 r.1 r.2.1 r.2.2) (hl : Lf lv r left)
    (hb2 : Below W1.heap.size W1 W2) (hg : W2.grownBy W' wv.ownBlock) (ho2 : W'.ownsRow w.heap.size 100 2 wv' (s.way.length + 1) (stopsV s.way rs ++ [.int .i64 (x : Int), lv])) :
    Se w (W'.setCell ⟨p, 4, none⟩ wv') p gv n ⟨s.met, s.reached, s.part, s.way ++ [(x, left)], s.waiting, s.out⟩ mv rv pv wv' tv ov (rs ++ [(lv, r)]) := by
  have hb3 := hb.trans (hb2.mono hb.size)
  have h2 := h.on hb3
  have k1 : Kp 100 W2 W' := Kp.grown h2.way hg
  have hbox := k1 p _ _ _ h2.box (by decide)
  have k2 : Kp 78 W' (W'.setCell ⟨p, 4, none⟩ wv') := Kp.setCell hbox wv'
  have hF1 := (h.fam.push (y := r) hb ho h.below.size).below hb2
  refine ⟨(h2.below.grown hg h2.below.size (fun j hj => (h2.way.lt j hj).1)).setCell h.pb _, h.pb, row_set hbox, ?_, ?_, by simp [h.rsn], fun k a q ha hq => ?_⟩
  · have := k2.fam (k1.fam hF1 (by decide)) (by decide)
    rw [List.map_append]
    rw [List.append_assoc] at this
    exact this
  · show (W'.setCell ⟨p, 4, none⟩ wv').ownsRow w.heap.size 100 2 wv' (s.way ++ [(x, left)]).length (stopsV (s.way ++ [(x, left)]) (rs ++ [(lv, r)]))
    rw [stopsV_snoc _ _ _ _ h.rsn, List.length_append, List.length_singleton]
    exact k2.own ho2 (by decide)
  · have ha : (s.way ++ [(x, left)])[k]? = some a := ha
    by_cases hk : k < s.way.length
    · rw [List.getElem?_append_left hk] at ha
      rw [List.getElem?_append_left (by rw [h.rsn]; exact hk)] at hq
      exact h.lf k a q ha hq
    · have hk2 := (List.getElem?_eq_some_iff.1 ha).1
      rw [List.length_append, List.length_singleton] at hk2
      obtain rfl : k = s.way.length := by omega
      rw [Sr.at_last] at ha
      obtain rfl := Option.some.inj ha
      rw [← h.rsn] at hq
      simp at hq
      subst hq
      exact hl
end
theorem info100 : (Tryd.prog.info? 100).map (fun i => (i.zero, i.size, i.bytes)) = some (some (.agg #[.int .i64 0, .slice none 0 0]), 2, 32) := by kernel_rfl
end Go.Proofs.YtfmmmhcpdinhgaaDoor
