import Derived.Test.YtbanhpohnhjciaaH5
namespace Go.Proofs.Ytbanhpohnhjciaa
open Go.RowKit Go.MuLone

section
variable {w : World} {base b : Nat} {r : Rf} {ks : List Kid}

/-- what Part makes. -/
abbrev Rf.kid (n : Int) : Rf := ⟨n, 0, 0, true, true, .slice none 0 0⟩
abbrev partO (n : Int) : Obj := .cells (Rf.kid n).row 69 (0, 0)

/-- behind the append and its store. -/
theorem part_mid (R : RefAt w base b r ks) (ne : ∀ k ∈ ks, k.b ≠ b) (pne : r.pv.ownBlock ≠ some b) (kne : ∀ k ∈ ks, r.pv.ownBlock ≠ some k.b) {n : Int} (n0 : 0 ≤ n) (htop : r.hand + (kidsOut ks + n) ≤ 9223372036854775807) (hfew : ks.length < 17592186044416) {w3 : World} {g cap : Nat} {B : Obj}
    (r1 : w3.ownsRow base 44 1 (.slice (some ⟨g, 0, none⟩) (ks.length + 1) cap) (ks.length + 1) ((ks.map fun k => ptr k.b) ++ [ptr w.heap.size])) (r2 : ((w.alloc (partO n)).alloc B).grownBy w3 r.pv.ownBlock) (r3 : r.pv.ownBlock = some g ∨ g = ((w.alloc (partO n)).alloc B).heap.size) :
    RefAt (w3.setCell ⟨b, 5, none⟩ (.slice (some ⟨g, 0, none⟩) (ks.length + 1) cap)) base b { r with pv := .slice (some ⟨g, 0, none⟩) (ks.length + 1) cap } (ks ++ [⟨w.heap.size, true, n⟩]) ∧ (∀ k ∈ ks ++ [⟨w.heap.size, true, n⟩], k.b ≠ b) ∧ g ≠ b ∧
      (w3.setCell ⟨b, 5, none⟩ (.slice (some ⟨g, 0, none⟩) (ks.length + 1) cap)).heap[w.heap.size]? = some (partO n) ∧ Touch (b :: r.pv.ownBlock.toList) w (w3.setCell ⟨b, 5, none⟩ (.slice (some ⟨g, 0, none⟩) (ks.length + 1) cap)) ∧ w3.heap[b]? = some (.cells r.row 69 (0, 0)) := by
  have hbw := lt_of_block R.row
  have hsz : ((w.alloc (partO n)).alloc B).heap.size = w.heap.size + 2 := by simp
  have t3 : Touch r.pv.ownBlock.toList w w3 := (((Touch.refl r.pv.ownBlock.toList w).alloc _).alloc _).trans (touch_grown r2) (fun k hk => .inl hk)
  have hgb : g ≠ b := fun e => by
    rcases r3 with h | h
    · exact pne (e ▸ h)
    · omega
  have hrow3 : w3.heap[b]? = some (.cells r.row 69 (0, 0)) := (t3.block b hbw (by simpa using pne)).trans R.row
  have hq3 : w3.heap[w.heap.size]? = some (partO n) := by
    refine (r2.block w.heap.size (by omega) (fun e => ?_)).trans (heap_two w _ _).1
    have := (R.own.lt _ e.symm).2
    omega
  have hX : Touch [b] w3 (w3.setCell ⟨b, 5, none⟩ (.slice (some ⟨g, 0, none⟩) (ks.length + 1) cap)) := (Touch.refl [b] w3).setCell (by simp) _
  have hqX : (w3.setCell ⟨b, 5, none⟩ (.slice (some ⟨g, 0, none⟩) (ks.length + 1) cap)).heap[w.heap.size]? = some (partO n) := (hX.block _ (lt_of_block hq3) (by simp; omega)).trans hq3
  have tX : Touch (b :: r.pv.ownBlock.toList) w (w3.setCell ⟨b, 5, none⟩ (.slice (some ⟨g, 0, none⟩) (ks.length + 1) cap)) := (t3.mono (by intro x hx; exact List.mem_cons_of_mem _ hx)).trans hX (by simp)
  have hc : ∀ k ∈ ks, ∀ i v, w.cell? ⟨k.b, i, none⟩ = some v → (w3.setCell ⟨b, 5, none⟩ (.slice (some ⟨g, 0, none⟩) (ks.length + 1) cap)).cell? ⟨k.b, i, none⟩ = some v := fun k hk i v hv =>
    (World.cell?_of_block (tX.block k.b (World.block_lt_of_cell? w _ hv) (by
      intro hm
      rcases List.mem_cons.1 hm with h | h
      · exact ne k hk h
      · exact kne k hk (by simpa using h)))).trans hv
  have hmem : ∀ {p : Kid → Prop}, (∀ k ∈ ks, p k) → p ⟨w.heap.size, true, n⟩ → ∀ k ∈ ks ++ [⟨w.heap.size, true, n⟩], p k := fun h1 h2 k hk => by
    rcases List.mem_append.1 hk with h | h
    · exact h1 k h
    · obtain rfl : k = ⟨w.heap.size, true, n⟩ := by simpa using h
      exact h2
  refine ⟨⟨heap_setCell_row hrow3 5 _, ?_, hmem (fun k hk => hc k hk 3 _ (R.open_ k hk)) (cell_row hqX 3), hmem (fun k hk => hc k hk 0 _ (R.limit k hk)) (cell_row hqX 0), hmem R.pos n0, R.hand, ?_, ?_⟩, hmem ne (by show w.heap.size ≠ b; omega), hgb, hqX, tX, hrow3⟩
  · have := owns_touch r1 hX (fun x hx hm => by simp [Value.ownBlock] at hx; simp at hm; exact hgb (hx.trans hm))
    simpa using this
  · show r.hand + kidsOut (ks ++ [⟨w.heap.size, true, n⟩]) ≤ _
    rw [kids_append]
    simpa [kidsOut] using htop
  · simp
    omega
end
end Go.Proofs.Ytbanhpohnhjciaa
