import Derived.Test.YtbanhpohnhjciaaF3
namespace Go.Proofs.Ytbanhpohnhjciaa
open Go.RowKit Go.MuLone

section
variable {w w0 : World} {lo b lb gb m : Nat} {L : Int} {s : St} {l : List Pt}

/-- what a round needs of a part that is open. -/
structure Kit (w0 w : World) (lo b lb : Nat) (L : Int) (s : St) (l : List Pt) (pv hv : Value) (pg hg gb m j q : Nat) (n : Int) : Prop where
  cells : ∀ W, Touch [q, b, lb] w W → W.cell? ⟨pg, j, none⟩ = some (ptr q) ∧ W.cell? ⟨hg, j, none⟩ = some (.int .i64 n) ∧ W.cell? ⟨gb, j, none⟩ = some (.bool false) ∧ W.frozen? ⟨gb, j, none⟩ = false
  held : n > 0 → Calls Try.prog 17 #[ptr q] w fun e w' => e = .returned (.int .i64 20) ∧ Tree w' lo b lb L s l ∧ Below lo w0 w' ∧ Touch [q, b, lb] w w'
  gives : ∀ W, Tree W lo b lb L s l → Below lo w0 W → lo ≤ W.heap.size → Calls Try.prog 9 #[ptr q, .int .i64 n] W fun e w' => e = .returned (.int .i64 0) ∧ Idle w' lo b lb L s l j n q ∧ Below lo w0 w' ∧ Touch [q, b, lb] W w'
  idle : n = 0 → Idle w lo b lb L s l j n q
  close : ∀ W, Idle W lo b lb L s l j n q → Below lo w0 W → lo ≤ W.heap.size → Calls Try.prog 17 #[ptr q] W fun e w' => e = .returned (.int .i64 0) ∧ Tree w' lo b lb L (s.back n) (shutAt l j) ∧ Below lo w0 w' ∧ Touch [q, b, lb] W w'
  marked : ∀ W, Tree W lo b lb L (s.back n) (shutAt l j) → Below lo w0 W → Touch [q, b, lb] w W → Round2 (W.setCell ⟨gb, j, none⟩ (.bool true)) lo b lb L (s.back n) (shutAt l j) pv hv gb m ∧ Below lo w0 (W.setCell ⟨gb, j, none⟩ (.bool true))
  num : 0 ≤ n ∧ n ≤ out l ∧ out (shutAt l j) = out l - n
  foot : ∀ x ∈ [b, lb], x ∈ foot b lb (shutAt l j)

theorem Round2.kit {pg hg j cd ce m' : Nat} (R : Round2 w lo b lb L s l (.slice (some ⟨pg, 0, none⟩) m' cd) (.slice (some ⟨hg, 0, none⟩) m' ce) gb m) (h : Below lo w0 w) (hlo : lo ≤ w.heap.size) (hj : j < l.length) (hgo : l[j].gone = false) :
    ∃ q n, Kit w0 w lo b lb L s l (.slice (some ⟨pg, 0, none⟩) m' cd) (.slice (some ⟨hg, 0, none⟩) m' ce) pg hg gb m j q n := by
  have hf := foot_part hj b lb
  refine ⟨l[j].b, l[j].n, ⟨fun W t => ?_, fun hn => ?_, fun W T hB hs => ?_, fun hn => R.tree.idle hj hgo hn, fun W I hB hs => Idle.close R.tree hj hgo I hB hs, fun W T hB t => ⟨R.marked T t hf, hB.setCell (p := ⟨gb, j, none⟩) R.glo _⟩, ⟨(R.tree.each _ (List.getElem_mem hj)).2.2, out_ge (fun x hx => (R.tree.each x hx).2.2) hj hgo, shut_out hj hgo⟩, fun x hx => ?_⟩⟩
  · have := R.cells hj t hf
    rwa [hgo] at this
  · exact (R.tree.closeHeld h hlo hj hgo hn).mono fun _ _ x => ⟨x.1, x.2.1, x.2.2.1, x.2.2.2.mono (by simp only [List.mem_cons, List.not_mem_nil, or_false]; intro y hy; rcases hy with e | e; exact .inl e; exact .inr (.inr e))⟩
  · exact (T.giveAll hB hs hj hgo).mono fun _ _ x => ⟨x.1, x.2.1, x.2.2.1, x.2.2.2.mono (by simp only [List.mem_cons, List.not_mem_nil, or_false]; intro y hy; rcases hy with e | e; exact .inl e; exact .inr (.inr e))⟩
  · rw [shut_foot]
    refine hf x ?_
    simp only [List.mem_cons, List.not_mem_nil, or_false] at hx ⊢
    exact .inr hx

/-- what a round needs of a part that is closed. -/
theorem Round2.past {pg hg j cd ce m' : Nat} (R : Round2 w lo b lb L s l (.slice (some ⟨pg, 0, none⟩) m' cd) (.slice (some ⟨hg, 0, none⟩) m' ce) gb m) (h : Below lo w0 w) (hlo : lo ≤ w.heap.size) (hj : j < l.length) (hgo : l[j].gone = true) :
    ∃ q, (w.cell? ⟨pg, j, none⟩ = some (ptr q) ∧ w.cell? ⟨gb, j, none⟩ = some (.bool true)) ∧ Calls Try.prog 17 #[ptr q] w fun e w' => e = .returned (.int .i64 6) ∧ Round2 w' lo b lb L s l (.slice (some ⟨pg, 0, none⟩) m' cd) (.slice (some ⟨hg, 0, none⟩) m' ce) gb m ∧ Below lo w0 w' := by
  have hf := foot_part hj b lb
  obtain ⟨c1, _, c3, _⟩ := R.cells hj (Touch.refl [l[j].b, b, lb] w) hf
  rw [hgo] at c3
  refine ⟨l[j].b, ⟨c1, c3⟩, (R.tree.closeGone h hlo hj hgo).mono fun _ _ x => ⟨x.1, R.asked x.2.1 x.2.2.2 (fun y hy => hf y ?_), x.2.2.1⟩⟩
  simp only [List.mem_cons, List.not_mem_nil, or_false] at hy ⊢
  rcases hy with e | e
  · exact .inl e
  · exact .inr (.inr e)
end
end Go.Proofs.Ytbanhpohnhjciaa
