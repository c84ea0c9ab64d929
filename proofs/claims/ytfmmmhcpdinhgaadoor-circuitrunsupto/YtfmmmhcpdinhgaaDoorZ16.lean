import Derived.Test.YtfmmmhcpdinhgaaDoorZ15
/-
  What a player does, by lists: in an order in which each line stands behind those on which it leans, the values come out.
-/
namespace PureNet
open Go.Proofs.YtfmmmhcpdinhgaaDoor (setAll setAll_len)

/-- the places of the lines of a kind, of the first i. -/
def kpTo (k : Int) (l : List Ga) : Nat → List Nat
  | 0 => []
  | i + 1 => kpTo k l i ++ (match l[i]? with | some g => if g.kind = k then [i] else [] | none => [])
def srcsTo (l : List Ga) : Nat → List Int
  | 0 => []
  | i + 1 => srcsTo l i ++ (match l[i]? with | some g => if g.kind = 3 then [g.a] else [] | none => [])
theorem kpTo_len (k : Int) (l : List Ga) : ∀ i, i ≤ l.length → (kpTo k l i).length = cnt k (l.take i)
  | 0, _ => by simp [kpTo, cnt]
  | i + 1, h => by
    have hg : l[i]? = some l[i] := List.getElem?_eq_getElem (by omega)
    have htk : l.take (i + 1) = l.take i ++ [l[i]] := by rw [List.take_add_one, hg]; rfl
    rw [kpTo, hg, List.length_append, kpTo_len k l i (by omega), htk]
    unfold cnt
    rw [List.filter_append, List.length_append]
    by_cases hk : l[i].kind = k
    · simp only [hk, if_true, List.filter_cons, List.filter_nil, decide_true, List.length_singleton]
    · simp only [hk, if_false, List.filter_cons, List.filter_nil, decide_false, List.length_nil, Bool.false_eq_true]
theorem kpTo_mem (k : Int) (l : List Ga) : ∀ i, i ≤ l.length → ∀ x, x ∈ kpTo k l i ↔ x < i ∧ ∃ g, l[x]? = some g ∧ g.kind = k
  | 0, _, x => by simp [kpTo]
  | i + 1, h, x => by
    have hg : l[i]? = some l[i] := List.getElem?_eq_getElem (by omega)
    rw [kpTo, hg, List.mem_append, kpTo_mem k l i (by omega)]
    constructor
    · rintro (⟨h1, h2⟩ | h1)
      · exact ⟨by omega, h2⟩
      · dsimp only at h1
        split at h1
        · obtain rfl := List.mem_singleton.1 h1
          exact ⟨by omega, _, hg, by assumption⟩
        · cases h1
    · rintro ⟨h1, g, h2, h3⟩
      by_cases e : x = i
      · right
        subst e
        rw [hg] at h2
        cases h2
        dsimp only
        rw [if_pos h3]
        simp
      · exact .inl ⟨by omega, g, h2, h3⟩
theorem kpTo_nodup (k : Int) (l : List Ga) : ∀ i, i ≤ l.length → (kpTo k l i).Nodup
  | 0, _ => by simp [kpTo]
  | i + 1, h => by
    have hg : l[i]? = some l[i] := List.getElem?_eq_getElem (by omega)
    rw [kpTo, hg, List.nodup_append]
    refine ⟨kpTo_nodup k l i (by omega), ?_, fun a ha b hb e => ?_⟩
    · dsimp only
      split <;> simp
    · have h1 := ((kpTo_mem k l i (by omega) a).1 ha).1
      dsimp only at hb
      split at hb
      · simp at hb; omega
      · cases hb
theorem kpTo_at (k : Int) (l : List Ga) (x : Nat) (g : Ga) (hx : l[x]? = some g) (hk : g.kind = k) : ∀ i, x < i → i ≤ l.length → (kpTo k l i)[cnt k (l.take x)]? = some x
  | i + 1, h, hl => by
    have hg : l[i]? = some l[i] := List.getElem?_eq_getElem (by omega)
    rw [kpTo, hg]
    by_cases e : x = i
    · subst e
      rw [List.getElem?_append_right (by rw [kpTo_len k l x (by omega)]; exact Nat.le_refl _), kpTo_len k l x (by omega), Nat.sub_self]
      rw [hg] at hx
      cases hx
      dsimp only
      rw [if_pos hk]
      rfl
    · have ih := kpTo_at k l x g hx hk i (by omega) (by omega)
      rw [List.getElem?_append_left (List.getElem?_eq_some_iff.1 ih).1]
      exact ih
theorem srcsTo_eq (l : List Ga) : ∀ i, i ≤ l.length → srcsTo l i = ((l.take i).filter fun g => decide (g.kind = 3)).map fun g => g.a
  | 0, _ => by simp [srcsTo]
  | i + 1, h => by
    have hg : l[i]? = some l[i] := List.getElem?_eq_getElem (by omega)
    have htk : l.take (i + 1) = l.take i ++ [l[i]] := by rw [List.take_add_one, hg]; rfl
    rw [srcsTo, hg, srcsTo_eq l i (by omega), htk, List.filter_append, List.map_append]
    by_cases hk : l[i].kind = 3
    · simp only [hk, if_true, List.filter_cons, List.filter_nil, decide_true, List.map_cons, List.map_nil]
    · simp only [hk, if_false, List.filter_cons, List.filter_nil, decide_false, List.map_nil, Bool.false_eq_true]

theorem setAll_off : ∀ (P : List Nat) (X v : List Bool) (x : Nat), x ∉ P → (setAll v P X)[x]? = v[x]?
  | [], _, _, _, _ => by simp [setAll]
  | p :: P, [], _, _, _ => by simp [setAll]
  | p :: P, y :: X, v, x, h => by
    rw [setAll, setAll_off P X _ x (fun e => h (List.mem_cons_of_mem _ e)), List.getElem?_set_ne (fun e => h (by rw [e]; simp))]
theorem setAll_at : ∀ (P : List Nat) (X v : List Bool) (j x : Nat) (y : Bool), P.Nodup → P[j]? = some x → X[j]? = some y → x < v.length → (setAll v P X)[x]? = some y
  | p :: P, z :: X, v, 0, x, y, hn, hp, hy, hx => by
    simp at hp hy
    subst hp hy
    rw [setAll, setAll_off P X _ p (List.nodup_cons.1 hn).1, List.getElem?_set_self hx]
  | p :: P, z :: X, v, j + 1, x, y, hn, hp, hy, hx => by
    rw [setAll]
    exact setAll_at P X _ j x y (List.nodup_cons.1 hn).2 (by simpa using hp) (by simpa using hy) (by rw [List.length_set]; exact hx)

theorem valAt_set {v : List Bool} {x y : Nat} {t : Bool} (hne : y ≠ x) : valAt (v.set x t) (y : Int) = valAt v (y : Int) := by
  simp [valAt, List.getD_eq_getElem?_getD, List.getElem?_set_ne (Ne.symm hne)]
theorem valAt_self {v : List Bool} {x : Nat} {t : Bool} (hx : x < v.length) : valAt (v.set x t) (x : Int) = t := by
  simp [valAt, List.getD_eq_getElem?_getD, hx]

/-- the values come out. -/
theorem play_vals {l : List Ga} {ord : List Nat} {I La v0 : List Bool} (hl : ∀ (i : Nat) (g : Ga), l[i]? = some g → lineB g l.length = true) (hall : ∀ x, x < l.length → x ∈ ord) (hnd : ord.Nodup)
    (hord : ∀ (i x y : Nat), ord[i]? = some x → Leans l x y → ∃ j, j < i ∧ ord[j]? = some y) (hI : I.length = cnt 1 l) (hLa : La.length = cnt 3 l) (hv : v0.length = l.length) :
    Vals l I La (playL l (setAll (setAll v0 (kpTo 1 l l.length) I) (kpTo 3 l l.length) La) ord) := by
  obtain ⟨v2, hv2⟩ : ∃ v2, v2 = setAll (setAll v0 (kpTo 1 l l.length) I) (kpTo 3 l l.length) La := ⟨_, rfl⟩
  rw [← hv2]
  have hv2l : v2.length = l.length := by rw [hv2, setAll_len, setAll_len, hv]
  have hlen1 := kpTo_len 1 l l.length (Nat.le_refl _)
  have hlen3 := kpTo_len 3 l l.length (Nat.le_refl _)
  rw [List.take_length] at hlen1 hlen3
  -- inputs and latches
  have base : ∀ (x : Nat) (g : Ga), l[x]? = some g → (g.kind = 1 ∨ g.kind = 3) → ∀ u, valAt v2 (x : Int) = worth l I La u x g := by
    intro x g hx hk u
    have hxl := (List.getElem?_eq_some_iff.1 hx).1
    rcases hk with hk | hk
    · have h3 : x ∉ kpTo 3 l l.length := fun e => by
        obtain ⟨_, g2, h2, h3⟩ := (kpTo_mem 3 l l.length (Nat.le_refl _) x).1 e
        rw [hx] at h2
        cases h2
        omega
      have hp := kpTo_at 1 l x g hx hk l.length hxl (Nat.le_refl _)
      have hlt : cnt 1 (l.take x) < I.length := by
        have := (List.getElem?_eq_some_iff.1 hp).1
        omega
      have := setAll_at (kpTo 1 l l.length) I v0 _ x _ (kpTo_nodup 1 l l.length (Nat.le_refl _)) hp (List.getElem?_eq_getElem hlt) (by omega)
      simp only [valAt, worth, hk, if_true, List.getD_eq_getElem?_getD, Int.toNat_natCast, hv2]
      rw [setAll_off _ _ _ x h3, this, List.getElem?_eq_getElem hlt]
    · have hp := kpTo_at 3 l x g hx hk l.length hxl (Nat.le_refl _)
      have hlt : cnt 3 (l.take x) < La.length := by
        have := (List.getElem?_eq_some_iff.1 hp).1
        omega
      have := setAll_at (kpTo 3 l l.length) La (setAll v0 (kpTo 1 l l.length) I) _ x _ (kpTo_nodup 3 l l.length (Nat.le_refl _)) hp (List.getElem?_eq_getElem hlt) (by rw [setAll_len]; omega)
      simp only [valAt, worth, hk, List.getD_eq_getElem?_getD, Int.toNat_natCast, hv2]
      rw [this, List.getElem?_eq_getElem hlt]
      rfl
  have key : ∀ k, k ≤ ord.length → (∀ (x : Nat) (g : Ga), l[x]? = some g → (g.kind = 1 ∨ g.kind = 3) → valAt (playL l v2 (ord.take k)) (x : Int) = valAt v2 (x : Int)) ∧
      ∀ (x : Nat), x ∈ ord.take k → ∀ g, l[x]? = some g → valAt (playL l v2 (ord.take k)) (x : Int) = worth l I La (playL l v2 (ord.take k)) x g := by
    intro k
    induction k with
    | zero => exact fun _ => ⟨fun x g _ _ => rfl, fun x hx => by simp at hx⟩
    | succ k ih =>
      intro hk
      obtain ⟨hb, hc⟩ := ih (by omega)
      obtain ⟨x, hx⟩ : ∃ x, ord[k]? = some x := ⟨_, List.getElem?_eq_getElem (by omega)⟩
      have htk : ord.take (k + 1) = ord.take k ++ [x] := by rw [List.take_add_one, hx]; rfl
      rw [htk, playL_snoc]
      obtain ⟨u, hu⟩ : ∃ u, u = playL l v2 (ord.take k) := ⟨_, rfl⟩
      rw [← hu] at hb hc ⊢
      have hul : u.length = l.length := by rw [hu, playL_len, hv2l]
      have hxk : x ∉ ord.take k := fun e => by
        obtain ⟨j, hj, e2⟩ := List.getElem_of_mem e
        have hjk : j < k := by simp at hj; omega
        have hje : ord[j]? = some x := by
          rw [List.getElem_take] at e2
          rw [← e2]
          exact List.getElem?_eq_getElem (by omega)
        have := (List.getElem?_inj (show j < ord.length by omega) hnd).1 (hje.trans hx.symm)
        omega
      have hbefore : ∀ (z y : Nat), z ∈ ord.take k → Leans l z y → y ∈ ord.take k := fun z y hz hzy => by
        obtain ⟨j, hj, e2⟩ := List.getElem_of_mem hz
        have hjk : j < k := by simp at hj; omega
        rw [List.getElem_take] at e2
        obtain ⟨m, hm, hmy⟩ := hord j z y (by rw [← e2]; exact List.getElem?_eq_getElem (by omega)) hzy
        refine List.mem_of_getElem? (i := m) ?_
        rw [List.getElem?_take_of_lt (by omega)]
        exact hmy
      have hbx : ∀ y, Leans l x y → y ∈ ord.take k := fun y hy => by
        obtain ⟨m, hm, hmy⟩ := hord k x y hx hy
        refine List.mem_of_getElem? (i := m) ?_
        rw [List.getElem?_take_of_lt hm]
        exact hmy
      cases hg : l[x]? with
      | none =>
        have e : playOne l u x = u := by unfold playOne; rw [hg]
        rw [e]
        refine ⟨hb, fun z hz g hzg => ?_⟩
        rcases List.mem_append.1 hz with hz | hz
        · exact hc z hz g hzg
        · obtain rfl := List.mem_singleton.1 hz
          rw [hg] at hzg
          cases hzg
      | some g =>
        have hxl := (List.getElem?_eq_some_iff.1 hg).1
        have hkd := lineB_kind (hl x g hg)
        by_cases hk13 : g.kind = 1 ∨ g.kind = 3
        · have e : playOne l u x = u := by
            unfold playOne
            rw [hg]
            dsimp only
            rw [if_neg (by omega), if_neg (by omega)]
          rw [e]
          refine ⟨hb, fun z hz g2 hzg => ?_⟩
          rcases List.mem_append.1 hz with hz | hz
          · exact hc z hz g2 hzg
          · obtain rfl := List.mem_singleton.1 hz
            rw [hg] at hzg
            cases hzg
            rw [hb z g hg hk13]
            exact base z g hg hk13 u
        · obtain ⟨t, ht, hte⟩ : ∃ t, playOne l u x = u.set x t ∧ t = worth l I La u x g := by
            by_cases h2 : g.kind = 2
            · refine ⟨tab g.op (valAt u g.a) (valAt u g.b), ?_, ?_⟩
              · unfold playOne; rw [hg]; simp only [h2, if_true]
              · simp [worth, h2]
            · have h4 : g.kind = 4 := by omega
              refine ⟨if valAt u g.a then valAt u g.b else valAt u g.c, ?_, ?_⟩
              · unfold playOne; rw [hg]; simp [h4]
              · simp [worth, h4]
          rw [ht]
          have same : ∀ (z : Nat) (g2 : Ga), l[z]? = some g2 → (∀ y, Leans l z y → y ≠ x) → worth l I La (u.set x t) z g2 = worth l I La u z g2 := fun z g2 hz hy => by
            refine worth_congr (lineB_kind (hl z g2 hz)) fun a ha => ?_
            obtain ⟨h0, _⟩ := lineB_leans (hl z g2 hz) ha
            obtain ⟨m, rfl⟩ : ∃ m : Nat, a = (m : Int) := ⟨a.toNat, by omega⟩
            exact valAt_set (hy m ⟨g2, hz, ha⟩)
          refine ⟨fun z g2 hz hk2 => ?_, fun z hz g2 hzg => ?_⟩
          · have hne : z ≠ x := fun e => by
              subst e
              rw [hg] at hz
              cases hz
              exact hk13 hk2
            rw [valAt_set hne]
            exact hb z g2 hz hk2
          · rcases List.mem_append.1 hz with hz | hz
            · have hne : z ≠ x := fun e => hxk (e ▸ hz)
              rw [valAt_set hne, same z g2 hzg (fun y hy e => hxk (by rw [← e]; exact hbefore z y hz hy))]
              exact hc z hz g2 hzg
            · obtain rfl := List.mem_singleton.1 hz
              rw [hg] at hzg
              cases hzg
              rw [valAt_self (by omega), same z g hg (fun y hy e => hxk (by rw [← e]; exact hbx y hy))]
              exact hte
  obtain ⟨_, hc⟩ := key ord.length (Nat.le_refl _)
  rw [List.take_length] at hc
  have hfl : (playL l v2 ord).length = l.length := by rw [playL_len, hv2l]
  refine ⟨hfl, fun i g hg => ?_⟩
  have hil := (List.getElem?_eq_some_iff.1 hg).1
  rw [← hc i (hall i hil) g hg]
  simp [valAt, List.getD_eq_getElem?_getD, List.getElem?_eq_getElem (show i < (playL l v2 ord).length by omega)]
end PureNet
