import Derived.Test.YtbanhpohnhjciaaE3
import Derived.Deep.OwnRows
namespace Go.Proofs.Ytbanhpohnhjciaa
open Go.RowKit Go.MuLone

theorem shut_map_b (l : List Pt) (k : Nat) : (shutAt l k).map Pt.b = l.map Pt.b := by
  induction l generalizing k with
  | nil => simp [shutAt]
  | cons x l ih =>
    cases k with
    | zero => simp [shutAt]
    | succ k =>
      have := ih k
      simp only [shutAt] at this
      simp [shutAt, this]
theorem shut_map_p (l : List Pt) (k : Nat) : ((shutAt l k).map fun x => ptr x.b) = l.map fun x => ptr x.b := by
  induction l generalizing k with
  | nil => simp [shutAt]
  | cons x l ih =>
    cases k with
    | zero => simp [shutAt]
    | succ k =>
      have := ih k
      simp only [shutAt] at this
      simp [shutAt, this]
theorem shut_map_n (l : List Pt) (k : Nat) : ((shutAt l k).map fun x => Value.int .i64 x.n) = l.map fun x => Value.int .i64 x.n := by
  induction l generalizing k with
  | nil => simp [shutAt]
  | cons x l ih =>
    cases k with
    | zero => simp [shutAt]
    | succ k =>
      have := ih k
      simp only [shutAt] at this
      simp [shutAt, this]
theorem shut_map_g (l : List Pt) (k : Nat) : ((shutAt l k).map fun x => Value.bool x.gone) = (l.map fun x => Value.bool x.gone).set k (.bool true) := by
  induction l generalizing k with
  | nil => simp [shutAt]
  | cons x l ih =>
    cases k with
    | zero => simp [shutAt]
    | succ k =>
      have := ih k
      simp only [shutAt] at this
      simp [shutAt, this]
theorem shut_foot (b lb : Nat) (l : List Pt) (k : Nat) : foot b lb (shutAt l k) = foot b lb l := by simp [foot, shut_map_b]

section
variable {w w' w0 : World} {lo b lb j : Nat} {L : Int} {s : St} {l : List Pt}

theorem Tree.out_le (T : Tree w lo b lb L s l) : 0 ≤ out l ∧ out l ≤ L := by
  have h1 := T.at_.good.out
  have h2 := T.hand
  have h3 := T.lent
  have h4 := T.limit
  exact ⟨out_nonneg (fun x hx => (T.each x hx).2.2), by omega⟩


theorem part_ne (T : Tree w lo b lb L s l) (hj : j < l.length) : l[j].b ≠ b ∧ l[j].b ≠ lb := by
  have hm : l[j].b ∈ l.map Pt.b := List.mem_map.2 ⟨_, List.getElem_mem hj, rfl⟩
  have ha := T.apart
  simp only [List.nodup_cons, List.mem_cons, not_or] at ha
  exact ⟨fun e => ha.1.2 (e ▸ hm), fun e => ha.2.1 (e ▸ hm)⟩

/-- the state of a part that is open. -/
theorem st_open {x : Pt} (h : x.gone = false) (lb b : Nat) : x.st lb b = ⟨x.n, lb, ptr b, x.n, 0, 0, false, x.n⟩ := by simp [Pt.st, h]
theorem st_gone {x : Pt} (h : x.gone = true) (lb b : Nat) : x.st lb b = ⟨x.n, lb, .pointer none, 0, 0, 0, true, x.n⟩ := by simp [Pt.st, h]

/-- part j, open. -/
theorem Tree.at_part (T : Tree w lo b lb L s l) (hj : j < l.length) (hg : l[j].gone = false) : At w lo l[j].b ⟨l[j].n, lb, ptr b, l[j].n, 0, 0, false, l[j].n⟩ := by
  have hx := T.each l[j] (List.getElem_mem hj)
  have hlim := T.at_.good.limit
  have hL := T.limit
  have hn := out_ge (fun x hx => (T.each x hx).2.2) hj hg
  have ho := T.out_le
  have hr := hx.1
  rw [st_open hg] at hr
  refine ⟨hr, by have := T.at_.lock; rwa [T.elb] at this, (part_ne T hj).2, ?_, hx.2.1, by show lo ≤ lb; rw [← T.elb]; exact T.at_.lol⟩
  exact ⟨hx.2.2, Int.le_refl _, by show l[j].n + 0 ≤ l[j].n; omega, by show l[j].n ≤ 9223372036854775807; omega, Int.le_refl _, by show (0 : Int) ≤ 4611686018427387904; omega, by show l[j].n + 0 ≤ l[j].n; omega, Int.le_refl _⟩

/-- a part was asked and is as it was. -/
theorem Tree.askedPart (T : Tree w lo b lb L s l) (hj : j < l.length) (hp : PurseAt w' l[j].b (l[j].st lb b)) (hl : LockAt w' lb 0) (t : Touch [l[j].b, lb] w w') : Tree w' lo b lb L s l := by
  obtain ⟨n1, n2⟩ := part_ne T hj
  have ha := T.apart
  have hne := T.at_.ne
  rw [T.elb] at hne
  refine ⟨⟨T.at_.row.touch t ?_, by rw [T.elb]; exact hl, T.at_.ne, T.at_.good, T.at_.lob, T.at_.lol⟩, T.elb, T.limit, T.hand, T.lent, T.parts, T.closed, T.whole, fun x hx => ⟨?_, (T.each x hx).2⟩, T.apart⟩
  · simp only [List.mem_cons, List.not_mem_nil, or_false, not_or]
    exact ⟨n1.symm, hne⟩
  · by_cases e : x.b = l[j].b
    · obtain ⟨i, hi, rfl⟩ := List.getElem_of_mem hx
      have hnd : (l.map Pt.b).Nodup := by
        simp only [List.nodup_cons] at ha
        exact ha.2.2
      have hij : i = j := by
        have hp := List.pairwise_iff_getElem.1 hnd
        rcases Nat.lt_trichotomy i j with h | h | h
        · have h3 := hp i j (by simpa using hi) (by simpa using hj) h
          simp only [List.getElem_map] at h3
          exact absurd e h3
        · exact h
        · have h3 := hp j i (by simpa using hj) (by simpa using hi) h
          simp only [List.getElem_map] at h3
          exact absurd e.symm h3
      subst hij
      exact hp
    · refine (T.each x hx).1.touch t ?_
      have hm : x.b ∈ l.map Pt.b := List.mem_map.2 ⟨x, hx, rfl⟩
      simp only [List.nodup_cons, List.mem_cons, not_or] at ha
      simp only [List.mem_cons, List.not_mem_nil, or_false, not_or]
      exact ⟨e, fun e2 => ha.2.1 (e2 ▸ hm)⟩

theorem Tree.lock (T : Tree w lo b lb L s l) : LockAt w lb 0 := by have := T.at_.lock; rwa [T.elb] at this

theorem below_two {F : List Nat} (h : Below lo w0 w) (t : Touch F w w') (hlo : lo ≤ w.heap.size) (hF : ∀ k ∈ F, lo ≤ k) : Below lo w0 w' := h.trans (t.below hlo hF)

theorem Tree.foot_lo (T : Tree w lo b lb L s l) (hj : j < l.length) : ∀ k ∈ [l[j].b, lb], lo ≤ k := by
  intro k hk
  simp at hk
  rcases hk with rfl | rfl
  · exact (T.each _ (List.getElem_mem hj)).2.1
  · rw [← T.elb]; exact T.at_.lol

/-- a part that is closed already. -/
theorem Tree.closeGone (T : Tree w lo b lb L s l) (h : Below lo w0 w) (hlo : lo ≤ w.heap.size) (hj : j < l.length) (hg : l[j].gone = true) :
    Calls Try.prog 17 #[ptr l[j].b] w fun e w' => e = .returned (.int .i64 6) ∧ Tree w' lo b lb L s l ∧ Below lo w0 w' ∧ Touch [l[j].b, lb] w w' := by
  have hr := (T.each l[j] (List.getElem_mem hj)).1
  rw [st_gone hg] at hr
  have hc : closeE ⟨l[j].n, lb, .pointer none, 0, 0, 0, true, l[j].n⟩ = 6 := by simp [closeE]
  have := close_refused hr T.lock (part_ne T hj).2 (.inl rfl) (by rw [hc]; decide)
  rw [hc] at this
  exact this.mono fun _ w' x => ⟨x.1, T.askedPart hj (by rw [st_gone hg]; exact x.2.1) x.2.2.1 x.2.2.2, below_two h x.2.2.2 hlo (T.foot_lo hj), x.2.2.2⟩

/-- a part that holds something. -/
theorem Tree.closeHeld (T : Tree w lo b lb L s l) (h : Below lo w0 w) (hlo : lo ≤ w.heap.size) (hj : j < l.length) (hg : l[j].gone = false) (hn : l[j].n > 0) :
    Calls Try.prog 17 #[ptr l[j].b] w fun e w' => e = .returned (.int .i64 20) ∧ Tree w' lo b lb L s l ∧ Below lo w0 w' ∧ Touch [l[j].b, lb] w w' := by
  have hr := (T.each l[j] (List.getElem_mem hj)).1
  rw [st_open hg] at hr
  have hc : closeE ⟨l[j].n, lb, ptr b, l[j].n, 0, 0, false, l[j].n⟩ = 20 := by simp [closeE, isNil, hn]
  have := close_refused hr T.lock (part_ne T hj).2 (.inr ⟨b, rfl⟩) (by rw [hc]; decide)
  rw [hc] at this
  exact this.mono fun _ w' x => ⟨x.1, T.askedPart hj (by rw [st_open hg]; exact x.2.1) x.2.2.1 x.2.2.2, below_two h x.2.2.2 hlo (T.foot_lo hj), x.2.2.2⟩

/-- as the tree, part j being empty. -/
structure Idle (w : World) (lo b lb : Nat) (L : Int) (s : St) (l : List Pt) (j : Nat) (n : Int) (q : Nat) : Prop where
  at_ : At w lo b s
  part : PurseAt w q ⟨n, lb, ptr b, 0, 0, 0, false, n⟩
  each : ∀ i (hi : i < l.length), i ≠ j → PurseAt w l[i].b (l[i].st lb b)

theorem Tree.giveAll (T : Tree w lo b lb L s l) (h : Below lo w0 w) (hlo : lo ≤ w.heap.size) (hj : j < l.length) (hg : l[j].gone = false) :
    Calls Try.prog 9 #[ptr l[j].b, .int .i64 l[j].n] w fun e w' => e = .returned (.int .i64 0) ∧ Idle w' lo b lb L s l j l[j].n l[j].b ∧ Below lo w0 w' ∧ Touch [l[j].b, lb] w w' := by
  have A := T.at_part hj hg
  have hx := T.each l[j] (List.getElem_mem hj)
  have he : giveE ⟨l[j].n, lb, ptr b, l[j].n, 0, 0, false, l[j].n⟩ l[j].n = 0 := by
    have := hx.2.2
    simp [giveE]
    omega
  have := A.give l[j].n
  rw [he] at this
  refine this.mono fun _ w' x => ⟨x.1, ?_, below_two h x.2.2 hlo (T.foot_lo hj), x.2.2⟩
  have hst : (St.mk l[j].n lb (ptr b) l[j].n 0 0 false l[j].n).give l[j].n = ⟨l[j].n, lb, ptr b, 0, 0, 0, false, l[j].n⟩ := by simp [St.give, he]
  have hrow := x.2.1
  rw [hst] at hrow
  obtain ⟨n1, n2⟩ := part_ne T hj
  have hne := T.at_.ne
  rw [T.elb] at hne
  have ha := T.apart
  refine ⟨⟨T.at_.row.touch x.2.2 ?_, by rw [T.elb]; exact hrow.lock, T.at_.ne, T.at_.good, T.at_.lob, T.at_.lol⟩, hrow.row, fun i hi hij => (T.each _ (List.getElem_mem hi)).1.touch x.2.2 ?_⟩
  · simp only [List.mem_cons, List.not_mem_nil, or_false, not_or]
    exact ⟨n1.symm, hne⟩
  · have hnd : (l.map Pt.b).Nodup := by
      simp only [List.nodup_cons] at ha
      exact ha.2.2
    simp only [List.mem_cons, List.not_mem_nil, or_false, not_or]
    refine ⟨fun e => hij ?_, (part_ne T hi).2⟩
    have hp := List.pairwise_iff_getElem.1 hnd
    rcases Nat.lt_trichotomy i j with h | h | h
    · have h3 := hp i j (by simpa using hi) (by simpa using hj) h
      simp only [List.getElem_map] at h3
      exact absurd e h3
    · exact h
    · have h3 := hp j i (by simpa using hj) (by simpa using hi) h
      simp only [List.getElem_map] at h3
      exact absurd e.symm h3

theorem Tree.idle (T : Tree w lo b lb L s l) (hj : j < l.length) (hg : l[j].gone = false) (hn : l[j].n = 0) : Idle w lo b lb L s l j l[j].n l[j].b := by
  have hr := (T.each l[j] (List.getElem_mem hj)).1
  rw [st_open hg] at hr
  exact ⟨T.at_, by rw [hn] at hr ⊢; exact hr, fun i hi _ => (T.each _ (List.getElem_mem hi)).1⟩

end
end Go.Proofs.Ytbanhpohnhjciaa
