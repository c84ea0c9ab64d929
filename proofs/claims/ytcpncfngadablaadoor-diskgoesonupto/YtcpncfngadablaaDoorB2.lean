import Derived.Test.YtcpncfngadablaaDoorB1
namespace Go.Proofs.YtcpncfngadablaaDoor
open Go.RowKit Go.Deep

/-- a file's content and place set anew. -/
def setE (k : List UInt8) (f : FileA) (L : Lay) (l : List Ent) : List Ent := l.map fun e => if e.name = k then ⟨e.name, f, L⟩ else e

theorem set_pub (k : List UInt8) (f : FileA) (L : Lay) (l : List Ent) : (setE k f L l).map Ent.pub = setA k f (l.map Ent.pub) := by
  unfold setE setA
  rw [List.map_map, List.map_map]
  apply List.map_congr_left
  intro e _
  simp only [Function.comp]
  by_cases h : e.name = k
  · simp [h, Ent.pub]
  · simp [h, Ent.pub]

theorem findE_mem {l : List Ent} {k : List UInt8} {e : Ent} (h : findE l k = some e) : e ∈ l ∧ e.name = k :=
  ⟨List.mem_of_find?_eq_some h, by simpa using List.find?_some h⟩

section
variable {w w' : World} {E : Nat → Addr} {lo p mf mt : Nat} {D : DiskC}

theorem Rep.uniq (R : Rep w lo p mf mt D) : D.ents.Pairwise fun a b => a.name ≠ b.name := by
  obtain ⟨es, h, hp⟩ := R.files.tidy (Maps.string_keyed Tryd.underlying9)
  simp only [mapOf, DataW.map.injEq] at h
  subst h
  rw [List.pairwise_map] at hp
  exact hp.imp fun h e => h (by simp [Ent.key, e])

theorem pairwise_eq {α : Type} {r : α → α → Prop} {l : List α} (h : l.Pairwise r) {a b : α} (ha : a ∈ l) (hb : b ∈ l) (h1 : ¬ r a b) (h2 : ¬ r b a) : a = b := by
  induction h with
  | nil => cases ha
  | cons hd _ ih =>
    rcases List.mem_cons.1 ha with e1 | ha'
    · rcases List.mem_cons.1 hb with e2 | hb'
      · rw [e1, e2]
      · rw [e1] at h1
        exact absurd (hd _ hb') h1
    · rcases List.mem_cons.1 hb with e2 | hb'
      · rw [e2] at h2
        exact absurd (hd _ ha') h2
      · exact ih ha' hb'

theorem Rep.one (R : Rep w lo p mf mt D) {k : List UInt8} {e0 : Ent} (hf : findE D.ents k = some e0) : ∀ a ∈ D.ents, a.name = k → a = e0 := by
  intro a ha hn
  obtain ⟨he, hk⟩ := findE_mem hf
  exact pairwise_eq R.uniq ha he (fun h => h (hn.trans hk.symm)) (fun h => h (hk.trans hn.symm))

theorem Rep.parts (R : Rep w lo p mf mt D) : (∀ e ∈ D.ents, e.lay.foot.Nodup) ∧ D.ents.Pairwise (fun a b => ∀ x ∈ a.lay.foot, ∀ y ∈ b.lay.foot, x ≠ y) := by
  have ha := R.apart
  simp only [DiskC.foot, List.nodup_cons] at ha
  have h := ha.2.2.2
  unfold List.Nodup at h
  rw [List.pairwise_flatMap] at h
  exact h

/-- One file has been changed, in its own memory. -/
theorem Rep.setFile (R : Rep w lo p mf mt D) {k : List UInt8} {e0 : Ent} (hf : findE D.ents k = some e0) {L : Lay} {f : FileA} (hfb : L.fb = e0.lay.fb) (hat : FileAt w' D.B L f) (hfoot : ∀ b ∈ L.foot, b ∈ e0.lay.foot ∨ w.heap.size ≤ b) (hnd : L.foot.Nodup)
    (ht : Touch e0.lay.foot w w') (hlo : lo ≤ w.heap.size) : Rep w' lo p mf mt { D with ents := setE k f L D.ents } := by
  obtain ⟨he0, hk0⟩ := findE_mem hf
  have h1 := R.one hf
  obtain ⟨n, hT⟩ := R.troubles
  have hin : ∀ b ∈ e0.lay.foot, b ≠ p ∧ b ≠ mf ∧ b ≠ mt := fun b hb => ⟨(R.ent_ne he0 hb).1, (R.ent_ne he0 hb).2.1, (R.ent_ne he0 hb).2.2.1⟩
  have hm : mapOf (setE k f L D.ents) = mapOf D.ents := by
    unfold mapOf setE
    rw [List.map_map]
    congr 1
    apply List.map_congr_left
    intro e he
    simp only [Function.comp]
    by_cases hn : e.name = k
    · rw [if_pos hn]
      have := h1 e he hn
      subst this
      simp [Ent.key, hfb]
    · rw [if_neg hn]
  have hold : ∀ b, b < w.heap.size → (b = p ∨ b = mf ∨ b = mt) → w'.heap[b]? = w.heap[b]? := fun b hb h => ht.block b hb fun hm => by
    have := hin b hm
    rcases h with h | h | h <;> simp [h] at this
  have hlt : ∀ b ∈ [p, mf, mt], b < w.heap.size := fun b hb => R.lt b (by simp at hb; rcases hb with rfl | rfl | rfl <;> simp [DiskC.foot])
  have hLne : ∀ x ∈ L.foot, x ≠ p ∧ x ≠ mf ∧ x ≠ mt := by
    intro x hx
    rcases hfoot x hx with h | h
    · exact hin x h
    · have a := hlt p (by simp); have b := hlt mf (by simp); have c := hlt mt (by simp)
      refine ⟨?_, ?_, ?_⟩ <;> omega
  have hmem : ∀ x ∈ setE k f L D.ents, (∃ e ∈ D.ents, e.name ≠ k ∧ x = e) ∨ (x.name = k ∧ x.file = f ∧ x.lay = L) := by
    intro x hx
    obtain ⟨e, he, rfl⟩ := List.mem_map.1 hx
    by_cases hn : e.name = k
    · right; simp [hn]
    · left; exact ⟨e, he, hn, by simp [hn]⟩
  have hother : ∀ e ∈ D.ents, e.name ≠ k → ∀ x ∈ e.lay.foot, x ∉ e0.lay.foot := by
    intro e he hn x hx hx0
    have hne : e ≠ e0 := fun h => hn (h ▸ hk0)
    exact hne (pairwise_eq R.parts.2 he he0 (fun h => h x hx x hx0 rfl) (fun h => h x hx0 x hx rfl))
  refine ⟨(hold p (hlt p (by simp)) (by simp)).trans R.row, ?_, ⟨n, ownsMap_kept hT (hold mt (hlt mt (by simp)) (by simp))⟩, ?_, ?_, ?_, ?_⟩
  · show w'.ownsMap Tryd.prog 9 ptrElem mf (setE k f L D.ents).length (mapOf (setE k f L D.ents))
    rw [hm]
    have : (setE k f L D.ents).length = D.ents.length := by simp [setE]
    rw [this]
    exact ownsMap_kept R.files (hold mf (hlt mf (by simp)) (by simp))
  · intro x hx
    rcases hmem x hx with ⟨e, he, hn, rfl⟩ | ⟨_, h2, h3⟩
    · exact (R.each _ he).kept fun b hb => ht.block b (R.ent_ne he hb).2.2.2.1 (hother _ he hn b hb)
    · rw [h2, h3]; exact hat
  · simp only [DiskC.foot, List.nodup_cons, List.mem_cons, not_or, List.mem_flatMap, not_exists, not_and]
    have hne := R.p_ne
    have hx : ∀ x ∈ setE k f L D.ents, ∀ b ∈ x.lay.foot, b ≠ p ∧ b ≠ mf ∧ b ≠ mt := by
      intro x hx b hb
      rcases hmem x hx with ⟨e, he, hn, rfl⟩ | ⟨_, h2, h3⟩
      · exact ⟨(R.ent_ne he hb).1, (R.ent_ne he hb).2.1, (R.ent_ne he hb).2.2.1⟩
      · rw [h3] at hb; exact hLne b hb
    refine ⟨⟨hne.2.1, hne.1, fun x hm hb => (hx x hm p hb).1 rfl⟩, ⟨hne.2.2, fun x hm hb => (hx x hm mf hb).2.1 rfl⟩, fun x hm hb => (hx x hm mt hb).2.2 rfl, ?_⟩
    unfold List.Nodup
    rw [List.pairwise_flatMap]
    refine ⟨fun x hx => ?_, ?_⟩
    · rcases hmem x hx with ⟨e, he, hn, rfl⟩ | ⟨_, h2, h3⟩
      · exact R.parts.1 _ he
      · rw [h3]; exact hnd
    · unfold setE
      rw [List.pairwise_map]
      refine (R.parts.2.and R.uniq).imp_of_mem fun {a b} ha hb ⟨hd, hu⟩ => ?_
      intro x hx y hy
      by_cases hna : a.name = k
      · have hnb : b.name ≠ k := fun h => hu (hna.trans h.symm)
        rw [if_pos hna] at hx
        rw [if_neg hnb] at hy
        rcases hfoot x hx with h | h
        · have := h1 a ha hna
          subst this
          exact hd x h y hy
        · have := (R.ent_ne hb hy).2.2.2.1
          omega
      · rw [if_neg hna] at hx
        by_cases hnb : b.name = k
        · rw [if_pos hnb] at hy
          rcases hfoot y hy with h | h
          · have := h1 b hb hnb
            subst this
            exact hd x hx y h
          · have := (R.ent_ne ha hx).2.2.2.1
            omega
        · rw [if_neg hnb] at hy
          exact hd x hx y hy
  · intro b hb
    simp only [DiskC.foot, List.mem_cons, List.mem_flatMap] at hb
    rcases hb with rfl | rfl | rfl | ⟨x, hx, hb⟩
    · exact R.base _ (by simp [DiskC.foot])
    · exact R.base _ (by simp [DiskC.foot])
    · exact R.base _ (by simp [DiskC.foot])
    · rcases hmem x hx with ⟨e, he, hn, rfl⟩ | ⟨_, h2, h3⟩
      · exact (R.ent_ne he hb).2.2.2.2
      · rw [h3] at hb
        rcases hfoot b hb with h | h
        · exact (R.ent_ne he0 h).2.2.2.2
        · omega
  · intro x hx
    rcases hmem x hx with ⟨e, he, hn, rfl⟩ | ⟨h1, _, _⟩
    · exact R.names _ he
    · rw [h1, ← hk0]; exact R.names _ he0

theorem foot_set {k : List UInt8} {e0 : Ent} (hf : findE D.ents k = some e0) {L : Lay} {f : FileA} {D' : DiskC} (he : D'.ents = setE k f L D.ents) (hfoot : ∀ b ∈ L.foot, b ∈ e0.lay.foot ∨ w.heap.size ≤ b) : ∀ b ∈ D'.foot p mf mt, b ∈ D.foot p mf mt ∨ w.heap.size ≤ b := by
  intro b hb
  simp only [DiskC.foot, List.mem_cons, List.mem_flatMap, he] at hb ⊢
  rcases hb with h | h | h | ⟨x, hx, h⟩
  · exact .inl (.inl h)
  · exact .inl (.inr (.inl h))
  · exact .inl (.inr (.inr (.inl h)))
  · obtain ⟨e, hm, rfl⟩ := List.mem_map.1 hx
    by_cases hn : e.name = k
    · rw [if_pos hn] at h
      rcases hfoot b h with h | h
      · exact .inl (.inr (.inr (.inr ⟨e0, (findE_mem hf).1, h⟩)))
      · exact .inr h
    · rw [if_neg hn] at h
      exact .inl (.inr (.inr (.inr ⟨e, hm, h⟩)))
theorem foot_ent {k : List UInt8} {e0 : Ent} (hf : findE D.ents k = some e0) : ∀ b ∈ e0.lay.foot, b ∈ D.foot p mf mt := by
  intro b hb
  simp only [DiskC.foot, List.mem_cons, List.mem_flatMap]
  exact .inr (.inr (.inr ⟨e0, (findE_mem hf).1, hb⟩))
end
end Go.Proofs.YtcpncfngadablaaDoor
