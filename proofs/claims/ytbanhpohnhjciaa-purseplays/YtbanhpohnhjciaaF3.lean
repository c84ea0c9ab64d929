import Derived.Test.YtbanhpohnhjciaaF2
namespace Go.Proofs.Ytbanhpohnhjciaa
open Go.RowKit Go.MuLone

theorem info4 : (Try.prog.info? 4).map (fun i => (i.zero, i.size, i.bytes)) = some (some (.bool false), 1, 1) := by kernel_rfl

theorem owns_form {w : World} {base e n : Nat} {v : Value} {xs : List Value} (h : w.ownsRow base e 1 v n xs) : ∃ sd cd, v = .slice sd n cd ∧ n ≤ cd ∧ (0 < n → ∃ g, sd = some ⟨g, 0, none⟩) := by
  rcases h.2 with ⟨e, e2⟩ | ⟨g, cap, _, e, _, _, hc, _⟩
  · exact ⟨none, 0, by rw [e, e2], by omega, by omega⟩
  · exact ⟨_, _, e, hc, fun _ => ⟨g, rfl⟩⟩

/-- the loop of the closing. -/
structure Round2 (w : World) (lo b lb : Nat) (L : Int) (s : St) (l : List Pt) (pv hv : Value) (gb n : Nat) : Prop where
  tree : Tree w lo b lb L s l
  lists : Lists w lo b lb l pv hv
  flags : w.heap[gb]? = some (.cells (l.map fun x => Value.bool x.gone).toArray 4 (0, 0))
  gf : gb ∉ foot b lb l
  gp : pv.ownBlock ≠ some gb
  gh : hv.ownBlock ≠ some gb
  len : l.length = n
  glo : lo ≤ gb

abbrev madeW (w : World) (n : Nat) : World := w.alloc (.cells (madeCells #[.bool false] n) 4)

section
variable {w w' w0 : World} {lo b lb gb n : Nat} {L : Int} {s : St} {l : List Pt} {pv hv : Value} {k : Nat}

theorem made_flags {l : List Pt} (h : ∀ x ∈ l, x.gone = false) : madeCells #[.bool false] l.length = (l.map fun x => Value.bool x.gone).toArray := by
  have e : (l.map fun x => Value.bool x.gone) = List.replicate l.length (.bool false) := by
    apply List.ext_getElem
    · simp
    · intro i h1 h2
      have := h (l[i]'(by simpa using h1)) (List.getElem_mem _)
      simp [this]
  rw [e]
  apply Array.ext
  · simp [madeCells]
  · intro i h1 h2
    simp [madeCells, Nat.mod_one]

theorem Round1.start (R : Round1 w lo b lb L k s l pv hv) (h : Below lo w0 w) (hlo : lo ≤ w.heap.size) : Round2 (madeW w l.length) lo b lb L s l pv hv w.heap.size l.length ∧ Below lo w0 (madeW w l.length) := by
  have t : Touch [] w (madeW w l.length) := (Touch.refl [] w).alloc _
  refine ⟨⟨R.tree.touch t (by simp), R.lists.touch t (by simp), ?_, fun hm => ?_, fun e => ?_, fun e => ?_, rfl, hlo⟩, h.trans (t.below hlo (by simp))⟩
  · rw [← made_flags R.fresh]
    exact heap_new w _
  · have := (R.tree.lt _ hm).1
    omega
  · have := (R.lists.p.lt _ e).2
    omega
  · have := (R.lists.h.lt _ e).2
    omega

theorem Round2.asked (R : Round2 w lo b lb L s l pv hv gb n) (T : Tree w' lo b lb L s l) {F : List Nat} (t : Touch F w w') (hF : ∀ x ∈ F, x ∈ foot b lb l) : Round2 w' lo b lb L s l pv hv gb n :=
  ⟨T, R.lists.touch t (fun x hx => .inl (hF x hx)), (t.block gb (lt_of_block R.flags) (fun hm => R.gf (hF _ hm))).trans R.flags, R.gf, R.gp, R.gh, R.len, R.glo⟩

/-- part j has been closed, and is marked. -/
theorem Round2.marked (R : Round2 w lo b lb L s l pv hv gb n) {j : Nat} {s' : St} (T : Tree w' lo b lb L s' (shutAt l j)) {F : List Nat} (t : Touch F w w') (hF : ∀ x ∈ F, x ∈ foot b lb l) :
    Round2 (w'.setCell ⟨gb, j, none⟩ (.bool true)) lo b lb L s' (shutAt l j) pv hv gb n := by
  have hfl : w'.heap[gb]? = some (.cells (l.map fun x => Value.bool x.gone).toArray 4 (0, 0)) := (t.block gb (lt_of_block R.flags) (fun hm => R.gf (hF _ hm))).trans R.flags
  have tg : Touch [gb] w' (w'.setCell ⟨gb, j, none⟩ (.bool true)) := (Touch.refl [gb] w').setCell (by simp) _
  have Ls := R.lists.touch t (fun x hx => .inl (hF x hx))
  refine ⟨T.touch tg (fun x hx => ?_), ⟨?_, ?_, ?_, ?_⟩, ?_, by rw [shut_foot]; exact R.gf, R.gp, R.gh, by rw [shut_length]; exact R.len, R.glo⟩
  · simp at hx
    subst hx
    rw [shut_foot]
    exact R.gf
  · rw [shut_length, shut_map_p]
    exact owns_touch Ls.p tg (fun x hx hm => by simp at hm; subst hm; exact R.gp hx)
  · rw [shut_length, shut_map_n]
    exact owns_touch Ls.h tg (fun x hx hm => by simp at hm; subst hm; exact R.gh hx)
  · rw [shut_foot]; exact Ls.pa
  · rw [shut_foot]; exact Ls.ha
  · rw [heap_setCell_row hfl j _, shut_map_g]
    simp

/-- the three rows at place j. -/
theorem Round2.cells {pg hg j cd ce : Nat} {m : Nat} (R : Round2 w lo b lb L s l (.slice (some ⟨pg, 0, none⟩) m cd) (.slice (some ⟨hg, 0, none⟩) m ce) gb n) (hj : j < l.length) {F : List Nat} (t : Touch F w w') (hF : ∀ x ∈ F, x ∈ foot b lb l) :
    w'.cell? ⟨pg, j, none⟩ = some (ptr l[j].b) ∧ w'.cell? ⟨hg, j, none⟩ = some (.int .i64 l[j].n) ∧ w'.cell? ⟨gb, j, none⟩ = some (.bool l[j].gone) ∧ w'.frozen? ⟨gb, j, none⟩ = false := by
  have Ls := R.lists.touch t (fun x hx => .inl (hF x hx))
  have hfl : w'.heap[gb]? = some (.cells (l.map fun x => Value.bool x.gone).toArray 4 (0, 0)) := (t.block gb (lt_of_block R.flags) (fun hm => R.gf (hF _ hm))).trans R.flags
  have e : ∀ g : Nat, (⟨g, 0, none⟩ : Addr).add j = ⟨g, j, none⟩ := fun g => by unfold Addr.add; split <;> simp_all
  refine ⟨?_, ?_, ?_, unfrozen_row hfl j⟩
  · have := Ls.p.cells (g := pg) rfl j (ptr l[j].b) (by simp [hj])
    rwa [e] at this
  · have := Ls.h.cells (g := hg) rfl j (.int .i64 l[j].n) (by simp [hj])
    rwa [e] at this
  · rw [cell_row hfl j]
    simp [hj]

theorem foot_part {l : List Pt} {j : Nat} (hj : j < l.length) (b lb : Nat) : ∀ x ∈ [l[j].b, b, lb], x ∈ foot b lb l := by
  intro x hx
  simp only [List.mem_cons, List.not_mem_nil, or_false] at hx
  simp only [foot, List.mem_cons, List.mem_map]
  rcases hx with rfl | rfl | rfl
  · exact .inr (.inr ⟨_, List.getElem_mem hj, rfl⟩)
  · exact .inl rfl
  · exact .inr (.inl rfl)

theorem Tree.drew (T : Tree w lo b lb L s l) : Tree w.drew lo b lb L s l := T.touch (Touch.refl [] w).drew (by simp)
theorem Round2.num (R : Round2 w lo b lb L s l pv hv gb n) : 0 ≤ out l ∧ out l ≤ L := R.tree.out_le
end
end Go.Proofs.Ytbanhpohnhjciaa
