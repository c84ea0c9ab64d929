import Derived.Test.YtfmmmhcpdinhgabDoorZ21
/-
  The search of the program, with circles: what it keeps (Tarjan), by lists.
-/
namespace PureNet

def Ps.line (s : Ps) : List Nat := s.way.map Prod.fst
/-- a search. -/
structure Tj (l : List Ga) (S0 : List Nat) (E : Nat → Prop) (s : Ps) : Prop where
  nd : (s.out ++ s.waiting).Nodup
  lt : ∀ x ∈ s.out ++ s.waiting, x < l.length
  met : ∀ x, s.met x ≠ 0 ↔ x ∈ s.out ++ s.waiting
  top : ∀ x, s.met x ≤ ((s.out ++ s.waiting).length : Int)
  inj : ∀ x y, s.met x = s.met y → s.met x ≠ 0 → x = y
  rise : s.waiting.Pairwise fun a b => s.met a < s.met b
  ways : ∀ x ∈ s.line, x ∈ s.waiting
  riseW : s.line.Pairwise fun a b => s.met a < s.met b
  chain : ∀ (k a b : Nat), s.line[k]? = some a → s.line[k + 1]? = some b → Leans l a b
  leftL : ∀ a ∈ s.way, ∀ y ∈ a.2, Leans l a.1 y
  first : ∀ w ∈ s.waiting, ∃ a ∈ s.line, s.met a ≤ s.met w
  desc : ∀ a ∈ s.line, ∀ w ∈ s.waiting, s.met a < s.met w → Way l a w
  low : ∀ w ∈ s.waiting, s.reached w ≤ s.met w ∧ ∃ z ∈ s.waiting, s.met z = s.reached w ∧ (z = w ∨ Way l w z)
  fin : ∀ w ∈ s.waiting, w ∉ s.line → s.reached w < s.met w ∧ ∀ y, Leans l w y → y ∈ s.out ∨ (y ∈ s.waiting ∧ s.reached w ≤ s.met y)
  look : ∀ (k : Nat) (a : Nat × List Nat), s.way[k]? = some a → ∀ y, Leans l a.1 y → y ∈ a.2 ∨ y ∈ s.out ∨ (y ∈ s.waiting ∧ s.reached a.1 ≤ s.met y) ∨ s.line[k + 1]? = some y ∨ (k + 1 = s.way.length ∧ E y)
  seg : ∀ a ∈ s.line, ∀ w ∈ s.waiting, w ∉ s.line → s.met a < s.met w → (∀ b ∈ s.line, s.met a < s.met b → s.met w < s.met b) → s.reached a ≤ s.reached w
  par : ∀ y, s.part y ≠ 0 ↔ y ∈ s.out
  parM : ∀ y ∈ s.out, ∃ z ∈ s.out, s.part y = s.met z
  closed : ∀ x ∈ s.out, ∀ y, Leans l x y → y ∈ s.out
  same : ∀ x ∈ s.out, ∀ y ∈ s.out, s.part x = s.part y → x = y ∨ (Way l x y ∧ Way l y x)
  comp : ∀ x ∈ s.out, ∀ y ∈ s.out, Way l x y → Way l y x → s.part x = s.part y
  keep : ∀ x ∈ S0, s.met x ≠ 0

theorem upd_at (f : Nat → Int) (x : Nat) (v : Int) : upd f x v x = v := by simp [upd]
theorem upd_ne (f : Nat → Int) {x y : Nat} (v : Int) (h : y ≠ x) : upd f x v y = f y := by simp [upd, h]
theorem Way.trans {l : List Ga} {i j k : Nat} (h : Way l i j) : Way l j k → Way l i k := by
  induction h using PureNet.Way.ind with
  | one h1 => intro h2; exact .more h1 h2
  | more h1 _ ih => intro h2; exact .more h1 (ih h2)

section
variable {l : List Ga} {S0 : List Nat} {E : Nat → Prop} {s : Ps}
theorem Tj.line_nd (h : Tj l S0 E s) : s.line.Nodup := by
  have := h.riseW
  rw [List.nodup_iff_pairwise_ne]
  exact this.imp fun {a b} hab e => by subst e; omega
theorem Tj.ok (hl : ∀ (i : Nat) (g : Ga), l[i]? = some g → ∀ a ∈ leansOn g, 0 ≤ a ∧ a < (l.length : Int)) (h : Tj l S0 E s) : s.Ok l := by
  have hfew := few_of_nodup h.nd h.lt
  have hfew2 := few_of_nodup h.line_nd (fun x hx => h.lt x (List.mem_append_right _ (h.ways x hx)))
  rw [List.length_append] at hfew
  rw [Ps.line, List.length_map] at hfew2
  refine ⟨fun a ha => ⟨h.lt _ (List.mem_append_right _ (h.ways _ (List.mem_map_of_mem ha))), fun y hy => ?_⟩, fun x hx => h.lt x (List.mem_append_right _ hx), hfew2, hfew⟩
  obtain ⟨g, hg, hy2⟩ := h.leftL a ha y hy
  have := hl _ g hg _ hy2
  omega
theorem Tj.take (h : Tj l S0 (fun _ => False) s) {ws : List (Nat × List Nat)} {x y : Nat} {lf : List Nat} (hw : s.way = ws ++ [(x, y :: lf)]) : Tj l S0 (fun z => z = y) (s.goes (ws ++ [(x, lf)])) := by
  have hm : (s.goes (ws ++ [(x, lf)])).line = s.line := by simp [Ps.line, Ps.goes, hw]
  refine ⟨h.nd, h.lt, h.met, h.top, h.inj, h.rise, by rw [hm]; exact h.ways, by rw [hm]; exact h.riseW, by rw [hm]; exact h.chain, ?_, by rw [hm]; exact h.first, by rw [hm]; exact h.desc, h.low, by rw [hm]; exact h.fin, ?_, by rw [hm]; exact h.seg, h.par, h.parM, h.closed, h.same, h.comp, h.keep⟩
  · intro a ha z hz
    have ha : a ∈ ws ++ [(x, lf)] := ha
    rcases List.mem_append.1 ha with ha | ha
    · exact h.leftL a (by rw [hw]; exact List.mem_append_left _ ha) z hz
    · obtain rfl := List.mem_singleton.1 ha
      exact h.leftL (x, y :: lf) (by rw [hw]; simp) z (List.mem_cons_of_mem _ hz)
  · intro k a ha z hz
    rw [hm]
    have ha : (ws ++ [(x, lf)])[k]? = some a := ha
    by_cases hlt : k < ws.length
    · rw [List.getElem?_append_left hlt] at ha
      rcases h.look k a (by rw [hw, List.getElem?_append_left hlt]; exact ha) z hz with h1 | h1 | h1 | h1 | h1
      · exact .inl h1
      · exact .inr (.inl h1)
      · exact .inr (.inr (.inl h1))
      · exact .inr (.inr (.inr (.inl h1)))
      · exact h1.2.elim
    · have hk2 := (List.getElem?_eq_some_iff.1 ha).1
      rw [List.length_append, List.length_singleton] at hk2
      obtain rfl : k = ws.length := by omega
      rw [Sr.at_last] at ha
      obtain rfl := Option.some.inj ha
      rcases h.look ws.length (x, y :: lf) (by rw [hw]; exact Sr.at_last _ _) z hz with h1 | h1 | h1 | h1 | h1
      · rcases List.mem_cons.1 h1 with rfl | h1
        · exact .inr (.inr (.inr (.inr ⟨by simp [Ps.goes], rfl⟩)))
        · exact .inl h1
      · exact .inr (.inl h1)
      · exact .inr (.inr (.inl h1))
      · exact .inr (.inr (.inr (.inl h1)))
      · exact h1.2.elim
theorem Tj.settle (h : Tj l S0 E s) {ws : List (Nat × List Nat)} {a : Nat × List Nat} (hw : s.way = ws ++ [a]) (hE : ∀ z, E z → z ∈ s.out ∨ (z ∈ s.waiting ∧ s.reached a.1 ≤ s.met z)) : Tj l S0 (fun _ => False) s := by
  refine ⟨h.nd, h.lt, h.met, h.top, h.inj, h.rise, h.ways, h.riseW, h.chain, h.leftL, h.first, h.desc, h.low, h.fin, fun k b hb z hz => ?_, h.seg, h.par, h.parM, h.closed, h.same, h.comp, h.keep⟩
  rcases h.look k b hb z hz with h1 | h1 | h1 | h1 | ⟨h1, h2⟩
  · exact .inl h1
  · exact .inr (.inl h1)
  · exact .inr (.inr (.inl h1))
  · exact .inr (.inr (.inr (.inl h1)))
  · have hk : k = ws.length := by rw [hw] at h1; simp at h1; omega
    subst hk
    rw [hw, Sr.at_last] at hb
    obtain rfl := Option.some.inj hb
    rcases hE z h2 with h3 | h3
    · exact .inr (.inl h3)
    · exact .inr (.inr (.inl h3))
theorem Tj.reach (h : Tj l S0 E s) {x : Nat} (hx : x ∈ s.line) {m : Int} (hz : ∃ z ∈ s.waiting, s.met z = m ∧ (z = x ∨ Way l x z)) : Tj l S0 E (s.reach x m) := by
  have hle : ∀ w, upd s.reached x (min (s.reached x) m) w ≤ s.reached w := fun w => by
    by_cases e : w = x
    · subst e; rw [upd_at]; omega
    · rw [upd_ne _ _ e]; omega
  have hne : ∀ w, w ∉ s.line → upd s.reached x (min (s.reached x) m) w = s.reached w := fun w hw => upd_ne _ _ (by rintro rfl; exact hw hx)
  refine ⟨h.nd, h.lt, h.met, h.top, h.inj, h.rise, h.ways, h.riseW, h.chain, h.leftL, h.first, h.desc, fun w hw => ?_, fun w hw hwl => ?_, fun k a ha z hz => ?_, fun a ha w hw hwl hlt hb => ?_, h.par, h.parM, h.closed, h.same, h.comp, h.keep⟩
  · show upd s.reached x (min (s.reached x) m) w ≤ s.met w ∧ ∃ z ∈ s.waiting, s.met z = upd s.reached x (min (s.reached x) m) w ∧ (z = w ∨ Way l w z)
    have h1 := h.low w hw
    refine ⟨Int.le_trans (hle w) h1.1, ?_⟩
    by_cases e : w = x
    · subst e
      rw [upd_at]
      by_cases hc : s.reached w ≤ m
      · rw [Int.min_eq_left hc]; exact h1.2
      · rw [Int.min_eq_right (by omega)]; exact hz
    · rw [upd_ne _ _ e]; exact h1.2
  · show upd s.reached x (min (s.reached x) m) w < s.met w ∧ ∀ y, Leans l w y → y ∈ s.out ∨ (y ∈ s.waiting ∧ upd s.reached x (min (s.reached x) m) w ≤ s.met y)
    rw [hne w hwl]
    exact h.fin w hw hwl
  · show z ∈ a.2 ∨ z ∈ s.out ∨ (z ∈ s.waiting ∧ upd s.reached x (min (s.reached x) m) a.1 ≤ s.met z) ∨ s.line[k + 1]? = some z ∨ (k + 1 = s.way.length ∧ E z)
    rcases h.look k a ha z hz with h1 | h1 | h1 | h1 | h1
    · exact .inl h1
    · exact .inr (.inl h1)
    · exact .inr (.inr (.inl ⟨h1.1, Int.le_trans (hle _) h1.2⟩))
    · exact .inr (.inr (.inr (.inl h1)))
    · exact .inr (.inr (.inr (.inr h1)))
  · show upd s.reached x (min (s.reached x) m) a ≤ upd s.reached x (min (s.reached x) m) w
    rw [hne w hwl]
    exact Int.le_trans (hle a) (h.seg a ha w hw hwl hlt hb)
theorem Ps.number_eq (s : Ps) : s.number = ((s.out ++ s.waiting).length : Int) + 1 := by
  unfold Ps.number
  rw [List.length_append]
  omega
/-- a line is met. -/
theorem Tj.meet (hl : ∀ (i : Nat) (g : Ga), l[i]? = some g → ∀ a ∈ leansOn g, 0 ≤ a ∧ a < (l.length : Int)) (h : Tj l S0 E s) {y : Nat} (hE : ∀ z, E z → z = y) (hy : y < l.length) (hm : s.met y = 0)
    (hlast : ∀ x, s.line.getLast? = some x → Leans l x y) : Tj l S0 (fun _ => False) (s.meet l y) := by
  have hno : y ∉ s.out ++ s.waiting := fun hin => (h.met y).2 hin hm
  have hnw : ∀ w, w ∈ s.waiting → w ≠ y := fun w hw e => hno (List.mem_append_right _ (e ▸ hw))
  have hnl : ∀ w, w ∈ s.line → w ≠ y := fun w hw => hnw w (h.ways w hw)
  have hnum := s.number_eq
  have hline : (s.meet l y).line = s.line ++ [y] := by simp [Ps.line, Ps.meet]
  have happ : s.out ++ (s.waiting ++ [y]) = (s.out ++ s.waiting) ++ [y] := by rw [List.append_assoc]
  have hM : ∀ w, w ≠ y → upd s.met y s.number w = s.met w := fun w e => upd_ne _ _ e
  have hR : ∀ w, w ≠ y → upd s.reached y s.number w = s.reached w := fun w e => upd_ne _ _ e
  have hlow : ∀ w, s.met w < s.number := fun w => by have := h.top w; omega
  have hwy : ∀ a ∈ s.line, Way l a y := fun a ha => by
    obtain ⟨x, hx⟩ : ∃ x, s.line.getLast? = some x := by
      cases hg : s.line.getLast? with
      | some x => exact ⟨x, rfl⟩
      | none => rw [List.getLast?_eq_none_iff] at hg; rw [hg] at ha; cases ha
    have hl2 := hlast x hx
    have hxm : x ∈ s.line := List.mem_of_getLast? hx
    by_cases e : a = x
    · subst e; exact .one hl2
    · have hax : s.met a < s.met x := by
        obtain ⟨ys, hys⟩ := List.getLast?_eq_some_iff.1 hx
        have hr := h.riseW
        rw [hys, List.pairwise_append] at hr
        have : a ∈ ys := by
          rw [hys] at ha
          rcases List.mem_append.1 ha with ha | ha
          · exact ha
          · exact absurd (List.mem_singleton.1 ha) e
        exact hr.2.2 a this x (by simp)
      exact way_snoc (h.desc a ha x (h.ways x hxm) hax) hl2
  refine ⟨?_, ?_, fun z => ?_, fun z => ?_, fun a b hab ha => ?_, ?_, ?_, ?_, fun k a b ha hb => ?_, fun a ha z hz => ?_, fun w hw => ?_, fun a ha w hw hlt => ?_, fun w hw => ?_, fun w hw hwl => ?_, fun k a ha z hz => ?_, fun a ha w hw hwl hlt hb => ?_, h.par, fun z hz => ?_, h.closed, h.same, h.comp, fun z hz => ?_⟩
  · show (s.out ++ (s.waiting ++ [y])).Nodup
    rw [happ, List.nodup_append]
    exact ⟨h.nd, by simp, fun a ha b hb e => hno (by simp at hb; rw [← hb, ← e]; exact ha)⟩
  · show ∀ z ∈ s.out ++ (s.waiting ++ [y]), z < l.length
    rw [happ]
    intro z hz
    rcases List.mem_append.1 hz with hz | hz
    · exact h.lt z hz
    · simp at hz; omega
  · show upd s.met y s.number z ≠ 0 ↔ z ∈ s.out ++ (s.waiting ++ [y])
    rw [happ, List.mem_append]
    by_cases hz : z = y
    · subst hz
      rw [upd_at, hnum]
      simp
      omega
    · rw [hM z hz, h.met z]
      simp [hz]
  · show upd s.met y s.number z ≤ ((s.out ++ (s.waiting ++ [y])).length : Int)
    rw [happ, List.length_append, List.length_singleton]
    by_cases hz : z = y
    · subst hz; rw [upd_at, hnum]; omega
    · rw [hM z hz]
      have := h.top z
      omega
  · have hab2 : upd s.met y s.number a = upd s.met y s.number b := hab
    have ha2 : upd s.met y s.number a ≠ 0 := ha
    by_cases ea : a = y
    · by_cases eb : b = y
      · rw [ea, eb]
      · subst ea
        rw [upd_at, hM b eb] at hab2
        have := hlow b
        omega
    · by_cases eb : b = y
      · subst eb
        rw [upd_at, hM a ea] at hab2
        have := hlow a
        omega
      · rw [hM a ea, hM b eb] at hab2
        rw [hM a ea] at ha2
        exact h.inj a b hab2 ha2
  · show (s.waiting ++ [y]).Pairwise fun a b => upd s.met y s.number a < upd s.met y s.number b
    rw [List.pairwise_append]
    refine ⟨?_, by simp, fun a ha b hb => ?_⟩
    · exact (List.Pairwise.and_mem.1 h.rise).imp fun {a b} hab => by
        rw [hM a (hnw a hab.1), hM b (hnw b hab.2.1)]
        exact hab.2.2
    · obtain rfl := List.mem_singleton.1 hb
      rw [upd_at, hM a (hnw a ha)]
      exact hlow a
  · rw [hline]
    intro x hx
    rcases List.mem_append.1 hx with hx | hx
    · exact List.mem_append_left _ (h.ways x hx)
    · exact List.mem_append_right _ hx
  · rw [hline]
    show (s.line ++ [y]).Pairwise fun a b => upd s.met y s.number a < upd s.met y s.number b
    rw [List.pairwise_append]
    refine ⟨?_, by simp, fun a ha b hb => ?_⟩
    · exact (List.Pairwise.and_mem.1 h.riseW).imp fun {a b} hab => by
        rw [hM a (hnl a hab.1), hM b (hnl b hab.2.1)]
        exact hab.2.2
    · obtain rfl := List.mem_singleton.1 hb
      rw [upd_at, hM a (hnl a ha)]
      exact hlow a
  · rw [hline] at ha hb
    have hk := (List.getElem?_eq_some_iff.1 hb).1
    rw [List.length_append, List.length_singleton] at hk
    rw [List.getElem?_append_left (by omega)] at ha
    by_cases hlt : k + 1 < s.line.length
    · rw [List.getElem?_append_left hlt] at hb
      exact h.chain k a b ha hb
    · have e : k + 1 = s.line.length := by omega
      rw [List.getElem?_append_right (by omega), e, Nat.sub_self] at hb
      obtain rfl : y = b := by simpa using hb
      refine hlast a ?_
      rw [List.getLast?_eq_getElem?, show s.line.length - 1 = k by omega]
      exact ha
  · have ha : a ∈ s.way ++ [(y, leanN l y)] := ha
    rcases List.mem_append.1 ha with ha | ha
    · exact h.leftL a ha z hz
    · obtain rfl := List.mem_singleton.1 ha
      exact (leanN_mem hl y z).1 hz
  · rw [hline]
    show ∃ a ∈ s.line ++ [y], upd s.met y s.number a ≤ upd s.met y s.number w
    have hw : w ∈ s.waiting ++ [y] := hw
    rcases List.mem_append.1 hw with hw | hw
    · obtain ⟨a, ha, hle⟩ := h.first w hw
      exact ⟨a, List.mem_append_left _ ha, by rw [hM a (hnl a ha), hM w (hnw w hw)]; exact hle⟩
    · obtain rfl := List.mem_singleton.1 hw
      exact ⟨w, by simp, by omega⟩
  · rw [hline] at ha
    have hw : w ∈ s.waiting ++ [y] := hw
    have hlt : upd s.met y s.number a < upd s.met y s.number w := hlt
    rcases List.mem_append.1 ha with ha2 | ha2
    · rcases List.mem_append.1 hw with hw | hw
      · rw [hM a (hnl a ha2), hM w (hnw w hw)] at hlt
        exact h.desc a ha2 w hw hlt
      · obtain rfl := List.mem_singleton.1 hw
        exact hwy a ha2
    · obtain rfl := List.mem_singleton.1 ha2
      rw [upd_at] at hlt
      rcases List.mem_append.1 hw with hw | hw
      · rw [hM w (hnw w hw)] at hlt
        have := hlow w
        omega
      · obtain rfl := List.mem_singleton.1 hw
        rw [upd_at] at hlt
        omega
  · show upd s.reached y s.number w ≤ upd s.met y s.number w ∧ ∃ z ∈ s.waiting ++ [y], upd s.met y s.number z = upd s.reached y s.number w ∧ (z = w ∨ Way l w z)
    have hw : w ∈ s.waiting ++ [y] := hw
    rcases List.mem_append.1 hw with hw | hw
    · obtain ⟨h1, z, hz, h2, h3⟩ := h.low w hw
      rw [hM w (hnw w hw), hR w (hnw w hw)]
      exact ⟨h1, z, List.mem_append_left _ hz, by rw [hM z (hnw z hz)]; exact h2, h3⟩
    · obtain rfl := List.mem_singleton.1 hw
      rw [upd_at, upd_at]
      exact ⟨by omega, w, by simp, by rw [upd_at], .inl rfl⟩
  · rw [hline] at hwl
    have hw : w ∈ s.waiting ++ [y] := hw
    have hwy : w ≠ y := fun e => hwl (by rw [e]; simp)
    have hw2 : w ∈ s.waiting := by
      rcases List.mem_append.1 hw with hw | hw
      · exact hw
      · exact absurd (List.mem_singleton.1 hw) hwy
    obtain ⟨h1, h2⟩ := h.fin w hw2 (fun hin => hwl (List.mem_append_left _ hin))
    show upd s.reached y s.number w < upd s.met y s.number w ∧ ∀ v, Leans l w v → v ∈ s.out ∨ (v ∈ s.waiting ++ [y] ∧ upd s.reached y s.number w ≤ upd s.met y s.number v)
    rw [hM w hwy, hR w hwy]
    refine ⟨h1, fun v hv => ?_⟩
    rcases h2 v hv with h3 | h3
    · exact .inl h3
    · exact .inr ⟨List.mem_append_left _ h3.1, by rw [hM v (hnw v h3.1)]; exact h3.2⟩
  · rw [hline]
    have ha : (s.way ++ [(y, leanN l y)])[k]? = some a := ha
    show z ∈ a.2 ∨ z ∈ s.out ∨ (z ∈ s.waiting ++ [y] ∧ upd s.reached y s.number a.1 ≤ upd s.met y s.number z) ∨ (s.line ++ [y])[k + 1]? = some z ∨ (k + 1 = (s.way ++ [(y, leanN l y)]).length ∧ False)
    have hk := (List.getElem?_eq_some_iff.1 ha).1
    rw [List.length_append, List.length_singleton] at hk
    have hll : s.line.length = s.way.length := by simp [Ps.line]
    by_cases hlt : k < s.way.length
    · rw [List.getElem?_append_left hlt] at ha
      have hal : a.1 ∈ s.line := List.mem_map_of_mem (List.mem_of_getElem? ha)
      rcases h.look k a ha z hz with h1 | h1 | h1 | h1 | ⟨hk1, he⟩
      · exact .inl h1
      · exact .inr (.inl h1)
      · exact .inr (.inr (.inl ⟨List.mem_append_left _ h1.1, by rw [hR _ (hnl _ hal), hM z (hnw z h1.1)]; exact h1.2⟩))
      · exact .inr (.inr (.inr (.inl (by rw [List.getElem?_append_left (List.getElem?_eq_some_iff.1 h1).1]; exact h1))))
      · refine .inr (.inr (.inr (.inl ?_)))
        rw [List.getElem?_append_right (by omega), hll, hk1, Nat.sub_self, hE z he]
        simp
    · obtain rfl : k = s.way.length := by omega
      rw [Sr.at_last] at ha
      obtain rfl := Option.some.inj ha
      exact .inl ((leanN_mem hl y z).2 hz)
  · rw [hline] at ha hwl hb
    have hw : w ∈ s.waiting ++ [y] := hw
    have hlt : upd s.met y s.number a < upd s.met y s.number w := hlt
    have hwy2 : w ≠ y := fun e => hwl (by rw [e]; simp)
    have hw2 : w ∈ s.waiting := by
      rcases List.mem_append.1 hw with hw | hw
      · exact hw
      · exact absurd (List.mem_singleton.1 hw) hwy2
    rcases List.mem_append.1 ha with ha | ha
    · rw [hM a (hnl a ha), hM w hwy2] at hlt
      show upd s.reached y s.number a ≤ upd s.reached y s.number w
      rw [hR a (hnl a ha), hR w hwy2]
      refine h.seg a ha w hw2 (fun hin => hwl (List.mem_append_left _ hin)) hlt fun b hb2 hab => ?_
      have h5 : upd s.met y s.number a < upd s.met y s.number b → upd s.met y s.number w < upd s.met y s.number b := hb b (List.mem_append_left _ hb2)
      rw [hM a (hnl a ha), hM b (hnl b hb2), hM w hwy2] at h5
      exact h5 hab
    · obtain rfl := List.mem_singleton.1 ha
      rw [upd_at, hM w hwy2] at hlt
      have := hlow w
      omega
  · obtain ⟨u, hu, e⟩ := h.parM z hz
    refine ⟨u, hu, ?_⟩
    show s.part z = upd s.met y s.number u
    rw [hM u (by rintro rfl; exact hno (List.mem_append_left _ hu))]
    exact e
  · show upd s.met y s.number z ≠ 0
    have h1 := h.keep z hz
    rw [hM z (by rintro rfl; exact h1 hm)]
    exact h1
/-- a line goes back, with what it leads to. -/
theorem Tj.on (h : Tj l S0 (fun _ => False) s) {ws : List (Nat × List Nat)} {x : Nat} (hw : s.way = ws ++ [(x, [])]) (hr : s.reached x ≠ s.met x) : ∃ vs y lf, ws = vs ++ [(y, lf)] ∧ Tj l S0 (fun _ => False) ((s.goes ws).reach y (s.reached x)) := by
  have hline : s.line = ws.map Prod.fst ++ [x] := by rw [Ps.line, hw]; simp
  have hxl : x ∈ s.line := by rw [hline]; simp
  have hxw := h.ways x hxl
  obtain ⟨hle, z, hz, hzm, hzw⟩ := h.low x hxw
  have hrw := h.riseW
  rw [hline, List.pairwise_append] at hrw
  have hbx : ∀ a ∈ ws.map Prod.fst, s.met a < s.met x := fun a ha => hrw.2.2 a ha x (by simp)
  obtain ⟨a0, ha0, hle0⟩ := h.first z hz
  have hws : ws ≠ [] := by
    rintro rfl
    rw [hline] at ha0
    obtain rfl : a0 = x := by simpa using ha0
    omega
  obtain ⟨vs, b, rfl⟩ : ∃ vs b, ws = vs ++ [b] := ⟨ws.dropLast, ws.getLast hws, (List.dropLast_concat_getLast hws).symm⟩
  obtain ⟨y, lf⟩ := b
  refine ⟨vs, y, lf, rfl, ?_⟩
  have hlen : s.line.length = vs.length + 2 := by rw [hline]; simp
  have hwl : s.way.length = vs.length + 2 := by rw [hw]; simp
  have hy0 : s.line[vs.length]? = some y := by rw [hline]; simp
  have hx0 : s.line[vs.length + 1]? = some x := by rw [hline]; simp
  have hyx : Leans l y x := h.chain _ _ _ hy0 hx0
  have hyl : y ∈ s.line := List.mem_of_getElem? hy0
  have hyin : y ∈ (vs ++ [(y, lf)]).map Prod.fst := by simp
  have hmyx : s.met y < s.met x := hbx y hyin
  have hgl : (s.goes (vs ++ [(y, lf)])).line = (vs ++ [(y, lf)]).map Prod.fst := rfl
  have hsub : ∀ a, a ∈ (vs ++ [(y, lf)]).map Prod.fst → a ∈ s.line := fun a ha => by rw [hline]; exact List.mem_append_left _ ha
  have hyle : ∀ a ∈ (vs ++ [(y, lf)]).map Prod.fst, s.met a ≤ s.met y := fun a ha => by
    have h1 := hrw.1
    rw [List.map_append, List.pairwise_append] at h1
    rw [List.map_append] at ha
    rcases List.mem_append.1 ha with ha | ha
    · exact Int.le_of_lt (h1.2.2 a ha y (by simp))
    · simp at ha; rw [ha]; exact Int.le_refl _
  have hxlt : s.reached x < s.met x := by omega
  have hle2 : ∀ w, upd s.reached y (min (s.reached y) (s.reached x)) w ≤ s.reached w := fun w => by
    by_cases e : w = y
    · subst e; rw [upd_at]; omega
    · rw [upd_ne _ _ e]; omega
  have hyr : upd s.reached y (min (s.reached y) (s.reached x)) y ≤ s.reached x := by rw [upd_at]; omega
  have hne : ∀ w, w ≠ y → upd s.reached y (min (s.reached y) (s.reached x)) w = s.reached w := fun w e => upd_ne _ _ e
  have hxy : x ≠ y := fun e => by rw [e] at hmyx; omega
  refine ⟨h.nd, h.lt, h.met, h.top, h.inj, h.rise, fun a ha => h.ways a (hsub a ha), hrw.1, fun k a b ha hb => ?_, fun a ha v hv => h.leftL a (by rw [hw]; exact List.mem_append_left _ ha) v hv, fun w hw2 => ?_, fun a ha w hw2 hlt => h.desc a (hsub a ha) w hw2 hlt, fun w hw2 => ?_, fun w hw2 hwl2 => ?_, fun k a ha v hv => ?_, fun a ha w hw2 hwl2 hlt hb => ?_, h.par, h.parM, h.closed, h.same, h.comp, h.keep⟩
  · have ha : ((vs ++ [(y, lf)]).map Prod.fst)[k]? = some a := ha
    have hb : ((vs ++ [(y, lf)]).map Prod.fst)[k + 1]? = some b := hb
    refine h.chain k a b ?_ ?_
    · rw [hline, List.getElem?_append_left (List.getElem?_eq_some_iff.1 ha).1]; exact ha
    · rw [hline, List.getElem?_append_left (List.getElem?_eq_some_iff.1 hb).1]; exact hb
  · obtain ⟨a, ha, hle3⟩ := h.first w hw2
    rw [hline] at ha
    rcases List.mem_append.1 ha with ha | ha
    · exact ⟨a, ha, hle3⟩
    · obtain rfl := List.mem_singleton.1 ha
      exact ⟨y, hyin, Int.le_trans (Int.le_of_lt hmyx) hle3⟩
  · show upd s.reached y (min (s.reached y) (s.reached x)) w ≤ s.met w ∧ ∃ z ∈ s.waiting, s.met z = upd s.reached y (min (s.reached y) (s.reached x)) w ∧ (z = w ∨ Way l w z)
    have h1 := h.low w hw2
    refine ⟨Int.le_trans (hle2 w) h1.1, ?_⟩
    by_cases e : w = y
    · subst e
      rw [upd_at]
      by_cases hc : s.reached w ≤ s.reached x
      · rw [Int.min_eq_left hc]; exact h1.2
      · rw [Int.min_eq_right (by omega)]
        refine ⟨z, hz, hzm, .inr ?_⟩
        rcases hzw with rfl | hzw
        · exact .one hyx
        · exact .more hyx hzw
    · rw [hne w e]; exact h1.2
  · show upd s.reached y (min (s.reached y) (s.reached x)) w < s.met w ∧ ∀ v, Leans l w v → v ∈ s.out ∨ (v ∈ s.waiting ∧ upd s.reached y (min (s.reached y) (s.reached x)) w ≤ s.met v)
    have hwy : w ≠ y := fun e => hwl2 (e ▸ hyin)
    rw [hne w hwy]
    by_cases e : w = x
    · subst e
      refine ⟨hxlt, fun v hv => ?_⟩
      rcases h.look (vs.length + 1) (w, []) (by rw [hw]; simp) v hv with h1 | h1 | h1 | h1 | h1
      · simp at h1
      · exact .inl h1
      · exact .inr h1
      · have := (List.getElem?_eq_some_iff.1 h1).1
        omega
      · exact h1.2.elim
    · exact h.fin w hw2 (fun hin => by
        rw [hline] at hin
        rcases List.mem_append.1 hin with hin | hin
        · exact hwl2 hin
        · exact e (List.mem_singleton.1 hin))
  · have ha : (vs ++ [(y, lf)])[k]? = some a := ha
    have hk := (List.getElem?_eq_some_iff.1 ha).1
    rw [List.length_append, List.length_singleton] at hk
    show v ∈ a.2 ∨ v ∈ s.out ∨ (v ∈ s.waiting ∧ upd s.reached y (min (s.reached y) (s.reached x)) a.1 ≤ s.met v) ∨ ((vs ++ [(y, lf)]).map Prod.fst)[k + 1]? = some v ∨ (k + 1 = (vs ++ [(y, lf)]).length ∧ False)
    rcases h.look k a (by rw [hw, List.getElem?_append_left (by simp; omega)]; exact ha) v hv with h1 | h1 | h1 | h1 | h1
    · exact .inl h1
    · exact .inr (.inl h1)
    · exact .inr (.inr (.inl ⟨h1.1, Int.le_trans (hle2 _) h1.2⟩))
    · by_cases hk2 : k = vs.length
      · subst hk2
        rw [hx0] at h1
        obtain rfl := Option.some.inj h1
        have : a.1 = y := by
          rw [Sr.at_last] at ha
          rw [← Option.some.inj ha]
        rw [this]
        exact .inr (.inr (.inl ⟨hxw, Int.le_trans hyr hle⟩))
      · refine .inr (.inr (.inr (.inl ?_)))
        rw [hline, List.getElem?_append_left (by simp; omega)] at h1
        exact h1
    · exact h1.2.elim
  · have hwl3 : w ∉ (vs ++ [(y, lf)]).map Prod.fst := hwl2
    have ha : a ∈ (vs ++ [(y, lf)]).map Prod.fst := ha
    have hlt : s.met a < s.met w := hlt
    have hb : ∀ b ∈ (vs ++ [(y, lf)]).map Prod.fst, s.met a < s.met b → s.met w < s.met b := hb
    show upd s.reached y (min (s.reached y) (s.reached x)) a ≤ upd s.reached y (min (s.reached y) (s.reached x)) w
    have hwy : w ≠ y := fun e => hwl3 (e ▸ hyin)
    rw [hne w hwy]
    by_cases ea : a = y
    · subst ea
      by_cases ew : w = x
      · subst ew; exact hyr
      · have hwl4 : w ∉ s.line := fun hin => by
          rw [hline] at hin
          rcases List.mem_append.1 hin with hin | hin
          · exact hwl3 hin
          · exact ew (List.mem_singleton.1 hin)
        by_cases hc : s.met w < s.met x
        · refine Int.le_trans (hle2 a) (h.seg a hyl w hw2 hwl4 hlt fun b hb2 hab => ?_)
          rw [hline] at hb2
          rcases List.mem_append.1 hb2 with hb2 | hb2
          · have := hyle b hb2
            omega
          · obtain rfl := List.mem_singleton.1 hb2
            exact hc
        · have hxw2 : s.met x < s.met w := by
            have : s.met w ≠ s.met x := fun e => ew (h.inj w x e ((h.met w).2 (List.mem_append_right _ hw2)))
            omega
          refine Int.le_trans hyr (h.seg x hxl w hw2 hwl4 hxw2 fun b hb2 hab => ?_)
          rw [hline] at hb2
          rcases List.mem_append.1 hb2 with hb2 | hb2
          · have := hbx b hb2
            omega
          · obtain rfl := List.mem_singleton.1 hb2
            omega
    · have hay : s.met a < s.met y := by
        have h1 := hyle a ha
        have h2 : s.met a ≠ s.met y := fun e => ea (h.inj a y e ((h.met a).2 (List.mem_append_right _ (h.ways a (hsub a ha)))))
        omega
      have hwy2 := hb y hyin hay
      have ew : w ≠ x := fun e => by rw [e] at hwy2; omega
      refine Int.le_trans (hle2 a) (h.seg a (hsub a ha) w hw2 (fun hin => by
        rw [hline] at hin
        rcases List.mem_append.1 hin with hin | hin
        · exact hwl3 hin
        · exact ew (List.mem_singleton.1 hin)) hlt fun b hb2 hab => ?_)
      rw [hline] at hb2
      rcases List.mem_append.1 hb2 with hb2 | hb2
      · exact hb b hb2 hab
      · obtain rfl := List.mem_singleton.1 hb2
        omega
/-- a part comes out. -/
theorem Tj.back (h : Tj l S0 (fun _ => False) s) {ws : List (Nat × List Nat)} {x : Nat} (hw : s.way = ws ++ [(x, [])]) (hr : s.reached x = s.met x) : ∃ pre post, s.waiting = pre ++ x :: post ∧ x ∉ post ∧ s.part x = 0 ∧ s.met x ≠ 0 ∧ Tj l S0 (fun _ => False) ((s.goes ws).comeOut pre post x) := by
  have hline : s.line = ws.map Prod.fst ++ [x] := by rw [Ps.line, hw]; simp
  have hxl : x ∈ s.line := by rw [hline]; simp
  have hxw := h.ways x hxl
  obtain ⟨pre, post, hsp⟩ := List.append_of_mem hxw
  have hri := h.rise
  rw [hsp, List.pairwise_append, List.pairwise_cons] at hri
  have hpre : ∀ a ∈ pre, s.met a < s.met x := fun a ha => hri.2.2 a ha x (by simp)
  have hpost : ∀ b ∈ post, s.met x < s.met b := fun b hb => hri.2.1.1 b hb
  have hrw := h.riseW
  rw [hline, List.pairwise_append] at hrw
  have hbx : ∀ a ∈ ws.map Prod.fst, s.met a < s.met x := fun a ha => hrw.2.2 a ha x (by simp)
  have hmx : s.met x ≠ 0 := (h.met x).2 (List.mem_append_right _ hxw)
  have hnd := List.nodup_append.1 h.nd
  have hxo : x ∉ s.out := fun ho => hnd.2.2 x ho x hxw rfl
  have hpx : s.part x = 0 := Classical.byContradiction fun e => hxo ((h.par x).1 e)
  have hxp : x ∉ post := fun hin => by have := hpost x hin; omega
  have inPre : ∀ w ∈ s.waiting, s.met w < s.met x → w ∈ pre := fun w hw2 hlt => by
    rw [hsp] at hw2
    rcases List.mem_append.1 hw2 with h1 | h1
    · exact h1
    · rcases List.mem_cons.1 h1 with rfl | h1
      · omega
      · have := hpost w h1; omega
  have inSeg : ∀ w ∈ s.waiting, s.met x ≤ s.met w → w ∈ x :: post := fun w hw2 hle => by
    rw [hsp] at hw2
    rcases List.mem_append.1 hw2 with h1 | h1
    · have := hpre w h1; omega
    · exact h1
  have segW : ∀ w ∈ x :: post, w ∈ s.waiting := fun w hw2 => by rw [hsp]; exact List.mem_append_right _ hw2
  have preW : ∀ w ∈ pre, w ∈ s.waiting := fun w hw2 => by rw [hsp]; exact List.mem_append_left _ hw2
  have postL : ∀ w ∈ post, w ∉ s.line := fun w hw2 hin => by
    have h1 := hpost w hw2
    rw [hline] at hin
    rcases List.mem_append.1 hin with hin | hin
    · have := hbx w hin; omega
    · rw [List.mem_singleton.1 hin] at h1; omega
  have segR : ∀ w ∈ post, s.reached x ≤ s.reached w := fun w hw2 => by
    refine h.seg x hxl w (segW w (List.mem_cons_of_mem _ hw2)) (postL w hw2) (hpost w hw2) fun b hb hlt => ?_
    rw [hline] at hb
    rcases List.mem_append.1 hb with hb | hb
    · have := hbx b hb; omega
    · rw [List.mem_singleton.1 hb] at hlt; omega
  have hclosed : ∀ w ∈ x :: post, ∀ v, Leans l w v → v ∈ s.out ∨ v ∈ x :: post := fun w hw2 v hv => by
    rcases List.mem_cons.1 hw2 with rfl | hw2
    · rcases h.look ws.length (w, []) (by rw [hw]; exact Sr.at_last _ _) v hv with h1 | h1 | h1 | h1 | h1
      · simp at h1
      · exact .inl h1
      · exact .inr (inSeg v h1.1 (by have := h1.2; dsimp only at this; omega))
      · have := (List.getElem?_eq_some_iff.1 h1).1
        rw [hline] at this
        simp at this
      · exact h1.2.elim
    · rcases (h.fin w (segW w (List.mem_cons_of_mem _ hw2)) (postL w hw2)).2 v hv with h1 | h1
      · exact .inl h1
      · exact .inr (inSeg v h1.1 (by have := segR w hw2; omega))
  have hfwd : ∀ w ∈ post, Way l x w := fun w hw2 => h.desc x hxl w (segW w (List.mem_cons_of_mem _ hw2)) (hpost w hw2)
  have hbwd : ∀ (n : Nat) (w : Nat), w ∈ post → (s.met w - s.met x).toNat < n → Way l w x := by
    intro n
    induction n with
    | zero => intro w _ hn; omega
    | succ n ih =>
      intro w hw2 hn
      have hf := (h.fin w (segW w (List.mem_cons_of_mem _ hw2)) (postL w hw2)).1
      obtain ⟨_, z, hz, hzm, hzw⟩ := h.low w (segW w (List.mem_cons_of_mem _ hw2))
      have hs := segR w hw2
      have hwz : Way l w z := by
        rcases hzw with rfl | hzw
        · omega
        · exact hzw
      have hp := hpost w hw2
      rcases List.mem_cons.1 (inSeg z hz (by omega)) with rfl | hz2
      · exact hwz
      · exact hwz.trans (ih z hz2 (by omega))
  have hbk : ∀ w ∈ post, Way l w x := fun w hw2 => hbwd _ w hw2 (Nat.lt_succ_self _)
  have hmem : ∀ v, v ∈ s.out ++ (x :: post).reverse ↔ v ∈ s.out ∨ v ∈ x :: post := fun v => by rw [List.mem_append, List.mem_reverse]
  have hperm : ((s.out ++ (x :: post).reverse) ++ pre).Perm (s.out ++ s.waiting) := by
    rw [hsp, List.append_assoc]
    exact List.Perm.append_left _ ((List.Perm.append_right _ (List.reverse_perm _)).trans List.perm_append_comm)
  have segO : ∀ w ∈ x :: post, w ∉ s.out := fun w hw2 ho => hnd.2.2 w ho w (segW w hw2) rfl
  have hsubl : ∀ a, a ∈ ws.map Prod.fst → a ∈ s.line := fun a ha => by rw [hline]; exact List.mem_append_left _ ha
  have preL : ∀ w ∈ pre, w ∉ ws.map Prod.fst → w ∉ s.line := fun w hw2 hn hin => by
    rw [hline] at hin
    rcases List.mem_append.1 hin with hin | hin
    · exact hn hin
    · have := hpre w hw2
      rw [List.mem_singleton.1 hin] at this; omega
  have toOut : ∀ v, v ∈ s.waiting → v ∈ pre ∨ v ∈ s.out ++ (x :: post).reverse := fun v hv => by
    rw [hsp] at hv
    rcases List.mem_append.1 hv with h1 | h1
    · exact .inl h1
    · exact .inr ((hmem v).2 (.inr h1))
  have pO : ∀ v ∈ s.out, (if v ∈ x :: post then s.met x else s.part v) = s.part v := fun v hv => if_neg fun hin => segO v hin hv
  have pS : ∀ v ∈ x :: post, (if v ∈ x :: post then s.met x else s.part v) = s.met x := fun v hv => if_pos hv
  have cross : ∀ u ∈ s.out, s.part u ≠ s.met x := fun u hu e => by
    obtain ⟨z, hz, e2⟩ := h.parM u hu
    have := h.inj z x (by rw [← e2]; exact e) (by rw [← e2, e]; exact hmx)
    exact hxo (this ▸ hz)
  have far : ∀ {a b : Nat}, Way l a b → a ∈ s.out → b ∈ s.out := fun {a b} hab => by
    induction hab using PureNet.Way.ind with
    | one h1 => intro ha; exact h.closed _ ha _ h1
    | more h1 _ ih => intro ha; exact ih (h.closed _ ha _ h1)
  refine ⟨pre, post, hsp, hxp, hpx, hmx, ?_⟩
  refine ⟨?_, ?_, fun z => ?_, fun z => ?_, h.inj, hri.1, fun a ha => inPre a (h.ways a (hsubl a ha)) (hbx a ha), hrw.1, fun k a b ha hb => ?_, fun a ha v hv => h.leftL a (by rw [hw]; exact List.mem_append_left _ ha) v hv, fun w hw2 => ?_, fun a ha w hw2 hlt => h.desc a (hsubl a ha) w (preW w hw2) hlt, fun w hw2 => ?_, fun w hw2 hwl => ?_, fun k a ha v hv => ?_, fun a ha w hw2 hwl hlt hb => ?_, fun v => ?_, fun v hv => ?_, fun u hu v hv => ?_, fun u hu v hv e => ?_, fun u hu v hv h1 h2 => ?_, h.keep⟩
  · exact hperm.nodup_iff.2 h.nd
  · exact fun z hz => h.lt z (hperm.mem_iff.1 hz)
  · show s.met z ≠ 0 ↔ z ∈ (s.out ++ (x :: post).reverse) ++ pre
    rw [h.met z]
    exact hperm.mem_iff.symm
  · show s.met z ≤ (((s.out ++ (x :: post).reverse) ++ pre).length : Int)
    rw [hperm.length_eq]
    exact h.top z
  · have ha : (ws.map Prod.fst)[k]? = some a := ha
    have hb : (ws.map Prod.fst)[k + 1]? = some b := hb
    refine h.chain k a b ?_ ?_
    · rw [hline, List.getElem?_append_left (List.getElem?_eq_some_iff.1 ha).1]; exact ha
    · rw [hline, List.getElem?_append_left (List.getElem?_eq_some_iff.1 hb).1]; exact hb
  · have hw2 : w ∈ pre := hw2
    obtain ⟨a, ha, hle⟩ := h.first w (preW w hw2)
    have h1 := hpre w hw2
    rw [hline] at ha
    rcases List.mem_append.1 ha with ha | ha
    · exact ⟨a, ha, hle⟩
    · rw [List.mem_singleton.1 ha] at hle; omega
  · have hw2 : w ∈ pre := hw2
    obtain ⟨h1, z, hz, h2, h3⟩ := h.low w (preW w hw2)
    have h4 := hpre w hw2
    exact ⟨h1, z, inPre z hz (by omega), h2, h3⟩
  · have hw2 : w ∈ pre := hw2
    obtain ⟨h1, h2⟩ := h.fin w (preW w hw2) (preL w hw2 hwl)
    refine ⟨h1, fun v hv => ?_⟩
    show v ∈ s.out ++ (x :: post).reverse ∨ (v ∈ pre ∧ s.reached w ≤ s.met v)
    rcases h2 v hv with h3 | h3
    · exact .inl (List.mem_append_left _ h3)
    · rcases toOut v h3.1 with h4 | h4
      · exact .inr ⟨h4, h3.2⟩
      · exact .inl h4
  · have ha : ws[k]? = some a := ha
    have hk := (List.getElem?_eq_some_iff.1 ha).1
    show v ∈ a.2 ∨ v ∈ s.out ++ (x :: post).reverse ∨ (v ∈ pre ∧ s.reached a.1 ≤ s.met v) ∨ (ws.map Prod.fst)[k + 1]? = some v ∨ (k + 1 = ws.length ∧ False)
    rcases h.look k a (by rw [hw, List.getElem?_append_left hk]; exact ha) v hv with h1 | h1 | h1 | h1 | h1
    · exact .inl h1
    · exact .inr (.inl (List.mem_append_left _ h1))
    · rcases toOut v h1.1 with h4 | h4
      · exact .inr (.inr (.inl ⟨h4, h1.2⟩))
      · exact .inr (.inl h4)
    · rw [hline] at h1
      by_cases hk2 : k + 1 < ws.length
      · rw [List.getElem?_append_left (by simpa using hk2)] at h1
        exact .inr (.inr (.inr (.inl h1)))
      · rw [List.getElem?_append_right (by simp; omega)] at h1
        have : v = x := by
          rw [List.length_map, show k + 1 - ws.length = 0 by omega] at h1
          simpa using h1.symm
        exact .inr (.inl ((hmem v).2 (.inr (by rw [this]; simp))))
    · exact h1.2.elim
  · have hw2 : w ∈ pre := hw2
    have ha : a ∈ ws.map Prod.fst := ha
    refine h.seg a (hsubl a ha) w (preW w hw2) (preL w hw2 hwl) hlt fun b hb2 hab => ?_
    rw [hline] at hb2
    rcases List.mem_append.1 hb2 with hb2 | hb2
    · exact hb b hb2 hab
    · rw [List.mem_singleton.1 hb2]; exact hpre w hw2
  · show (if v ∈ x :: post then s.met x else s.part v) ≠ 0 ↔ v ∈ s.out ++ (x :: post).reverse
    rw [hmem]
    by_cases hv : v ∈ x :: post
    · rw [if_pos hv]; exact ⟨fun _ => .inr hv, fun _ => hmx⟩
    · rw [if_neg hv, h.par v]
      exact ⟨.inl, fun h1 => h1.resolve_right hv⟩
  · show ∃ z ∈ s.out ++ (x :: post).reverse, (if v ∈ x :: post then s.met x else s.part v) = s.met z
    rcases (hmem v).1 hv with h1 | h1
    · obtain ⟨z, hz, e⟩ := h.parM v h1
      exact ⟨z, List.mem_append_left _ hz, by rw [pO v h1]; exact e⟩
    · exact ⟨x, (hmem x).2 (.inr (by simp)), pS v h1⟩
  · show v ∈ s.out ++ (x :: post).reverse
    rcases (hmem u).1 hu with h1 | h1
    · exact List.mem_append_left _ (h.closed u h1 v hv)
    · exact (hmem v).2 (hclosed u h1 v hv)
  · have e : (if u ∈ x :: post then s.met x else s.part u) = (if v ∈ x :: post then s.met x else s.part v) := e
    rcases (hmem u).1 hu with h1 | h1
    · rcases (hmem v).1 hv with h2 | h2
      · rw [pO u h1, pO v h2] at e
        exact h.same u h1 v h2 e
      · rw [pO u h1, pS v h2] at e
        exact absurd e (cross u h1)
    · rcases (hmem v).1 hv with h2 | h2
      · rw [pS u h1, pO v h2] at e
        exact absurd e.symm (cross v h2)
      · rcases List.mem_cons.1 h1 with rfl | _
        · rcases List.mem_cons.1 h2 with rfl | h2
          · exact .inl rfl
          · exact .inr ⟨hfwd v h2, hbk v h2⟩
        · rename_i h9
          rcases List.mem_cons.1 h2 with rfl | h2
          · exact .inr ⟨hbk u h9, hfwd u h9⟩
          · exact .inr ⟨(hbk u h9).trans (hfwd v h2), (hbk v h2).trans (hfwd u h9)⟩
  · show (if u ∈ x :: post then s.met x else s.part u) = (if v ∈ x :: post then s.met x else s.part v)
    rcases (hmem u).1 hu with h3 | h3
    · rcases (hmem v).1 hv with h4 | h4
      · rw [pO u h3, pO v h4]
        exact h.comp u h3 v h4 h1 h2
      · exact absurd (far h1 h3) (segO v h4)
    · rcases (hmem v).1 hv with h4 | h4
      · exact absurd (far h2 h4) (segO u h3)
      · rw [pS u h3, pS v h4]
end
def Ps.toDo (n : Nat) (s : Ps) : Nat := 5 * (n - (s.out ++ s.waiting).length) + (s.way.map fun a => a.2.length + 1).sum
theorem Tj.keeps {l : List Ga} (hl : ∀ (i : Nat) (g : Ga), l[i]? = some g → ∀ a ∈ leansOn g, 0 ≤ a ∧ a < (l.length : Int)) (S0 : List Nat) : Keeps l (Tj l S0 fun _ => False) (Ps.toDo l.length) := by
  refine ⟨fun s h => h.ok hl, fun s ws x h hw hr => ?_, fun s ws x h hw hr => ?_, fun s ws x y lf h hw hm => ?_, fun s ws x y lf h hw hm hp => ?_, fun s ws x y lf h hw hm hp => ?_⟩
  · obtain ⟨pre, post, h1, h2, h3, h4, h5⟩ := h.back hw hr
    refine ⟨pre, post, h1, h2, h3, h4, h5, ?_⟩
    show 5 * (l.length - ((s.out ++ (x :: post).reverse) ++ pre).length) + (ws.map fun a => a.2.length + 1).sum < 5 * (l.length - (s.out ++ s.waiting).length) + (s.way.map fun a => a.2.length + 1).sum
    rw [hw, h1]
    simp
    omega
  · obtain ⟨vs, y, lf, h1, h2⟩ := h.on hw hr
    refine ⟨vs, y, lf, h1, h2, ?_⟩
    show 5 * (l.length - (s.out ++ s.waiting).length) + (ws.map fun a => a.2.length + 1).sum < 5 * (l.length - (s.out ++ s.waiting).length) + (s.way.map fun a => a.2.length + 1).sum
    rw [hw]
    simp
  · have hlean : Leans l x y := h.leftL (x, y :: lf) (by rw [hw]; simp) y (by simp)
    obtain ⟨g, hg, hy2⟩ := hlean
    have hb := hl x g hg _ hy2
    have hno : y ∉ s.out ++ s.waiting := fun hin => (h.met y).2 hin hm
    have hfull : (s.out ++ s.waiting).length < l.length := by
      have := few_of_nodup (n := l.length) (L := (s.out ++ s.waiting) ++ [y]) (List.nodup_append.2 ⟨h.nd, by simp, fun a ha b hb e => hno (by simp at hb; rw [← hb, ← e]; exact ha)⟩) (fun z hz => by
        rcases List.mem_append.1 hz with hz | hz
        · exact h.lt z hz
        · simp at hz; omega)
      rw [List.length_append, List.length_singleton] at this
      omega
    refine ⟨?_, ?_⟩
    · refine Tj.meet hl (h.take hw) (fun z hz => hz) (by omega) hm fun u hu => ?_
      have : u = x := by
        have hu2 : ((ws ++ [(x, lf)]).map Prod.fst).getLast? = some u := hu
        rw [List.map_append] at hu2
        simpa using hu2.symm
      rw [this]
      exact ⟨g, hg, hy2⟩
    · show 5 * (l.length - (s.out ++ (s.waiting ++ [y])).length) + (((ws ++ [(x, lf)]) ++ [(y, leanN l y)]).map fun a => a.2.length + 1).sum < 5 * (l.length - (s.out ++ s.waiting).length) + (s.way.map fun a => a.2.length + 1).sum
      have hq := leanN_len l y
      rw [hw]
      simp at hfull ⊢
      omega
  · have hyw : y ∈ s.waiting := by
      rcases List.mem_append.1 ((h.met y).1 hm) with h1 | h1
      · exact absurd hp ((h.par y).2 h1)
      · exact h1
    have hlean : Leans l x y := h.leftL (x, y :: lf) (by rw [hw]; simp) y (by simp)
    refine ⟨?_, ?_⟩
    · have h1 := (h.take hw).reach (x := x) (m := s.met y) (by simp [Ps.line, Ps.goes]) ⟨y, hyw, rfl, .inr (.one hlean)⟩
      refine h1.settle (ws := ws) (a := (x, lf)) rfl fun z hz => .inr ?_
      subst hz
      refine ⟨hyw, ?_⟩
      show upd s.reached x (min (s.reached x) (s.met z)) x ≤ s.met z
      rw [upd_at]
      omega
    · show 5 * (l.length - (s.out ++ s.waiting).length) + ((ws ++ [(x, lf)]).map fun a => a.2.length + 1).sum < 5 * (l.length - (s.out ++ s.waiting).length) + (s.way.map fun a => a.2.length + 1).sum
      rw [hw]
      simp
  · have hyo := (h.par y).1 hp
    refine ⟨(h.take hw).settle (ws := ws) (a := (x, lf)) rfl (fun z hz => .inl (by rw [hz]; exact hyo)), ?_⟩
    show 5 * (l.length - (s.out ++ s.waiting).length) + ((ws ++ [(x, lf)]).map fun a => a.2.length + 1).sum < 5 * (l.length - (s.out ++ s.waiting).length) + (s.way.map fun a => a.2.length + 1).sum
    rw [hw]
    simp
theorem Tj.rekeep {l : List Ga} {S0 S1 : List Nat} {s : Ps} (h : Tj l S0 (fun _ => False) s) (hk : ∀ x ∈ S1, s.met x ≠ 0) : Tj l S1 (fun _ => False) s :=
  ⟨h.nd, h.lt, h.met, h.top, h.inj, h.rise, h.ways, h.riseW, h.chain, h.leftL, h.first, h.desc, h.low, h.fin, h.look, h.seg, h.par, h.parM, h.closed, h.same, h.comp, hk⟩
theorem Tj.end_ {l : List Ga} {S0 : List Nat} {s : Ps} (h : Tj l S0 (fun _ => False) s) (hw : s.way = []) : s.waiting = [] := by
  cases hs : s.waiting with
  | nil => rfl
  | cons x r =>
    obtain ⟨a, ha, _⟩ := h.first x (by rw [hs]; simp)
    rw [Ps.line, hw] at ha
    cases ha
/-- a line that has not been met is met first. -/
theorem Tj.begin {l : List Ga} {S0 : List Nat} {s : Ps} (hl : ∀ (i : Nat) (g : Ga), l[i]? = some g → ∀ a ∈ leansOn g, 0 ≤ a ∧ a < (l.length : Int)) (h : Tj l S0 (fun _ => False) s) (hw : s.way = []) {x : Nat} (hx : x < l.length) (hm : s.met x = 0) : Tj l (x :: s.out) (fun _ => False) (s.meet l x) := by
  have h1 := Tj.meet hl h (y := x) (fun z hz => hz.elim) hx hm (fun u e => by rw [Ps.line, hw] at e; simp at e)
  refine h1.rekeep fun z hz => ?_
  refine (h1.met z).2 ?_
  show z ∈ s.out ++ (s.waiting ++ [x])
  rcases List.mem_cons.1 hz with rfl | hz
  · simp
  · exact List.mem_append_left _ hz
/-- where all have come out, a line is in a circle just if it leans on one of its own part. -/
theorem Tj.circle {l : List Ga} {S0 : List Nat} {s : Ps} (h : Tj l S0 (fun _ => False) s) (hall : ∀ x, x < l.length → x ∈ s.out) (hl : ∀ (i : Nat) (g : Ga), l[i]? = some g → ∀ a ∈ leansOn g, 0 ≤ a ∧ a < (l.length : Int)) {x y : Nat} (hxy : Leans l x y) : s.part y = s.part x ↔ (y = x ∨ Way l y x) := by
  have hx : x < l.length := leans_lt hxy
  have hy : y < l.length := by
    obtain ⟨g, hg, hm⟩ := hxy
    have := (hl x g hg _ hm).2
    omega
  constructor
  · intro e
    rcases h.same y (hall y hy) x (hall x hx) e with h1 | h1
    · exact .inl h1
    · exact .inr h1.1
  · rintro (rfl | h1)
    · rfl
    · exact h.comp y (hall y hy) x (hall x hx) h1 (.one hxy)
theorem way_first {l : List Ga} {i k : Nat} (h : Way l i k) : ∃ j, Leans l i j ∧ (j = k ∨ Way l j k) := by
  cases h using PureNet.Way.cas with
  | one h1 => exact ⟨_, h1, .inl rfl⟩
  | more h1 h2 => exact ⟨_, h1, .inr h2⟩
end PureNet
/-
  The search of the program over all lines, with circles too.
-/
namespace Go.Proofs.YtfmmmhcpdinhgabDoor
open Go.RowKit Go.Deep PureNet ShfKit
set_option maxRecDepth 100000

end Go.Proofs.YtfmmmhcpdinhgabDoor
namespace PureNet
open Go.Proofs.YtfmmmhcpdinhgabDoor
set_option maxRecDepth 100000
theorem Tj.start (l : List Ga) : Tj l [] (fun _ => False) s0 := by
  refine ⟨by simp [s0], fun x hx => by simp [s0] at hx, fun x => by simp [s0], fun x => by simp [s0], fun x y _ h => by simp [s0] at h, by simp [s0], fun x hx => by simp [s0, Ps.line] at hx, by simp [s0, Ps.line], fun k a b h => by simp [s0, Ps.line] at h, fun a h => by simp [s0] at h, fun x hx => by simp [s0] at hx, fun a h => by simp [s0, Ps.line] at h, fun x hx => by simp [s0] at hx, fun x hx => by simp [s0] at hx, fun k a h => by simp [s0] at h, fun a h => by simp [s0, Ps.line] at h, fun y => by simp [s0], fun y h => by simp [s0] at h, fun y h => by simp [s0] at h, fun y h => by simp [s0] at h, fun y h => by simp [s0] at h, fun y h => by simp at h⟩

end PureNet
namespace Go.Proofs.YtfmmmhcpdinhgabDoor
open Go.RowKit Go.Deep PureNet ShfKit
set_option maxRecDepth 100000
set_option maxHeartbeats 4000000 in
theorem searched_gen (l : List Ga) (sg : Option Addr) (cg n : Nat) (w : World) (hc : CellsAt w sg (gas l)) (hkd : KindsAt w) (hn : n = l.length) (hfew : n ≤ 65536)
    (hlines : ∀ (i : Nat) (g : Ga), l[i]? = some g → (1 ≤ g.kind ∧ g.kind ≤ 4) ∧ ∀ a ∈ leansOn g, 0 ≤ a ∧ a < (l.length : Int)) :
    Calls Tryd.prog 56 #[.slice sg n cg] w fun e W' => ∃ p s mv rv pv wv tv ov rs, e = .returned (.pointer (some ⟨p, 0, none⟩)) ∧ Se w W' p (.slice sg n cg) n s mv rv pv wv tv ov rs ∧ Tj l [] (fun _ => False) s ∧ s.way = [] ∧ ∀ x, x < n → x ∈ s.out := by
  have hll : ∀ (i : Nat) (g : Ga), l[i]? = some g → ∀ a ∈ leansOn g, 0 ≤ a ∧ a < (l.length : Int) := fun i g hg => (hlines i g hg).2
  have HLL := hid hll
  have FR : Hid (∀ p W s mv rv pv wv tv ov rs x, x < n → Se w W p (.slice sg n cg) n s mv rv pv wv tv ov rs → s.Ok l → Tj l (x :: s.out) (fun _ => False) (s.meet l x) → _) := fun p W s mv rv pv wv tv ov rs x hx hs hok hI => from_gen l sg cg n p x w W s mv rv pv wv tv ov rs hc hkd hn hfew hlines (Tj l (x :: s.out) fun _ => False) (Ps.toDo l.length) (Tj.keeps hll (x :: s.out)) hx hs hok hI
  have NS := hid (newSearch_any sg cg n w hfew)
  have HN := hid hn
  clear hc hkd hn hlines hll
  go_enter Tryd.func56, Tryd.ntmps56
  go_wp2_with (first | (go_at_call 70; refine Calls.mono NS.out ?_; rintro e w1 ⟨p, mv, rv, pv, rfl, hs1⟩; have SE1 := hid hs1; clear hs1))
  go_loopw [9] (fun iv W => ∃ i : Nat, i ≤ n ∧ iv = .int .i64 (i : Int) ∧ Hid (∃ s wv tv ov rs, Tj l [] (fun _ => False) s ∧ s.way = [] ∧ (∀ x, x < i → x ∈ s.out) ∧ Se w W p (.slice sg n cg) n s mv rv pv wv tv ov rs)) (fun iv _ => n - (intOf iv).toNat)
  case atStart => exact ⟨0, Nat.zero_le _, rfl, s0, _, _, _, _, Tj.start l, rfl, fun x hx => by omega, SE1.out⟩
  case round =>
    clear SE1 NS
    obtain ⟨i, hi, rfl, HR⟩ := hrel
    obtain ⟨s, wv, tv, ov, rs, hsr, hway, hall, hs⟩ := HR.out
    clear HR
    by_cases hlt : i < n
    · have c0 := hs.cell
      have hp0 := hs.size
      obtain ⟨gm, cm, hmv, _, hgms, hcm, _⟩ := hs.row (i := 0) (by omega) rfl hlt
      have SE := hid hs
      have SR := hid hsr
      have HW := hid hway
      have HA := hid hall
      have FI := hid (fun hm => FR.out p wr s mv rv pv wv tv ov rs i hlt hs (hsr.ok HLL.out) (hsr.begin HLL.out hway (by rw [← HN.out]; exact hlt) hm))
      have MI := hid (hsr.met i)
      subst hmv
      clear hs hsr hway hall FR
      by_cases hmz : s.met i = 0
      · have hmb : (s.met i == 0) = true := by rw [hmz]; rfl
        have FF := hid (FI.out hmz)
        clear hmz FI
        go_wp2_with (first | (go_at_call 71; refine Calls.mono FF.out ?_; rintro e w2 ⟨⟨v, rfl⟩, s2, wv2, tv2, ov2, rs2, hsr2, hway2, hs2⟩; have SE2 := hid hs2; have SR2 := hid hsr2; have HW2 := hid hway2; clear hs2 hsr2 hway2))
        refine ⟨⟨i + 1, hlt, by go_num, s2, _, _, _, _, SR2.out.rekeep (fun x hx => by simp at hx), HW2.out, fun x hx => ?_, SE2.out⟩, by simp [intOf]; omega⟩
        have hk : x ∈ i :: s.out := by
          by_cases e : x = i
          · rw [e]; simp
          · exact List.mem_cons_of_mem _ (HA.out x (by omega))
        have := (SR2.out.met x).1 (SR2.out.keep x hk)
        rw [SR2.out.end_ HW2.out] at this
        simpa using this
      · have hmb : (s.met i == 0) = false := beq_eq_false_iff_ne.2 hmz
        have HI : Hid (i ∈ s.out) := by
          have := MI.out.1 hmz
          rw [SR.out.end_ HW.out] at this
          show i ∈ s.out
          simpa using this
        clear hmz FI
        go_wp2
        refine ⟨⟨i + 1, hlt, by go_num, s, _, _, _, _, SR.out, HW.out, fun x hx => ?_, SE.out⟩, by simp [intOf]; omega⟩
        by_cases e : x = i
        · rw [e]; exact HI.out
        · exact HA.out x (by omega)
    · have SE := hid hs
      have SR := hid hsr
      have HW := hid hway
      have HA : Hid (∀ x, x < n → x ∈ s.out) := fun x hx => hall x (by omega)
      clear hs hsr hway hall
      go_wp2
      exact bodyPost_ret (v := .pointer (some ⟨p, 0, none⟩)) (by simp [results, Tryd.results56, go_sem]) rfl ⟨p, s, _, _, _, _, _, _, _, rfl, SE.out, SR.out, HW.out, HA.out⟩
end Go.Proofs.YtfmmmhcpdinhgabDoor
