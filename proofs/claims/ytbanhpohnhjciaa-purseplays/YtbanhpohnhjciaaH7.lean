import Derived.Test.YtbanhpohnhjciaaH6
namespace Go.Proofs.Ytbanhpohnhjciaa
open Go.RowKit Go.MuLone

section
variable {w : World} {base b : Nat} {r : Rf} {ks : List Kid}

set_option maxRecDepth 100000 in
set_option maxHeartbeats 400000 in
theorem partR_any (R : RefAt w base b r ks) (ne : ∀ k ∈ ks, k.b ≠ b) (pne : r.pv.ownBlock ≠ some b) (kne : ∀ k ∈ ks, r.pv.ownBlock ≠ some k.b) (hbase : base ≤ w.heap.size) (hl : r.limit ≤ 9223372036854775807) (ho : r.hand + kidsOut ks ≤ r.limit) {n : Int} (he : leaveR r ks n = 0) (hfew : ks.length < 17592186044416) :
    Calls Try.prog 30 #[ptr b, .int .i64 n] w fun e w' => ∃ (g cap : Nat), e = .returned (.tuple #[ptr w.heap.size, .int .i64 0]) ∧
      RefAt w' base b { r with pv := .slice (some ⟨g, 0, none⟩) (ks.length + 1) cap, peak := max r.peak (r.hand + (kidsOut ks + n)) } (ks ++ [⟨w.heap.size, true, n⟩]) ∧ w'.heap[w.heap.size]? = some (partO n) ∧ (r.pv.ownBlock = some g ∨ w.heap.size < g) ∧ g ≠ b ∧ Touch (b :: r.pv.ownBlock.toList) w w' := by
  have hop : r.opn = true := by
    cases h : r.opn with
    | true => rfl
    | false => simp [leaveR, h] at he
  have hn : 0 ≤ n ∧ n ≤ r.limit - (r.hand + kidsOut ks) := by
    unfold leaveR at he
    rw [hop] at he
    simp only [Bool.true_eq_false, if_false] at he
    split at he
    · simp at he
    split at he
    · simp at he
    omega
  have c := fun i => cell_row R.row i
  have hbw := lt_of_block R.row
  have cA := fun (o : Obj) (i : Nat) => cell_row ((Below.heap_alloc w o b hbw).trans R.row) i
  have h0 := R.hand
  have h1 := kids_nonneg R.pos
  have HO : Hid (Calls Try.prog 42 #[ptr b] w fun e w' => e = .returned (.int .i64 (r.hand + kidsOut ks)) ∧ w = w') := hid ((outR_any R).mono fun _ _ x => ⟨x.1, x.2.symm⟩)
  have hw : wrap64 (r.limit - (r.hand + kidsOut ks)) = r.limit - (r.hand + kidsOut ks) := IntWalk.wrap64_in _ ⟨by omega, by omega⟩
  have hnf : ¬ n > r.limit - (r.hand + kidsOut ks) := by omega
  have hnn : ¬ n < 0 := by omega
  have HM := hid (fun (w3 : World) (g cap : Nat) (B : Obj) => part_mid (w3 := w3) (g := g) (cap := cap) (B := B) R ne pne kne hn.1 (by omega) hfew)
  have HOWN := hid (fun B : Obj => owns_touch R.own (((Touch.refl [] w).alloc (partO n)).alloc B) (by simp))
  have HS := hid (show kidsOut (ks ++ [⟨w.heap.size, true, n⟩]) = kidsOut ks + n by rw [kids_append]; simp [kidsOut])
  clear R ne pne kne h0 h1 hl ho he hn
  go_enter Try.func30, Try.ntmps30
  go_wp2_with (first
    | (go_at_call 43; refine (noted_any HM4.out.1 HM4.out.2.1 (by simpa [Value.ownBlock] using HM4.out.2.2.1)).mono ?_; rintro e w5 ⟨rfl, hR5, ht5⟩; have HR5 := hid hR5; have HT5 := hid ht5; clear hR5 ht5)
    | (at_builtin; refine wpList_append_one _ Try.underlying40 info44 rfl rfl _ _ rfl base r.pv ks.length _ ⟨w.heap.size + 1, 0, none⟩ (ptr w.heap.size) rfl rfl (HOWN.out _) (cell_row (heap_two w _ _).2 0) rfl hfew (by simp; omega) ?_; intro g cap w3 r1 r2 r3; have m4 := HM.out _ _ _ _ r1 r2 r3; have c3 := (fun i => cell_row m4.2.2.2.2.2 i); have f3 := (fun i => unfrozen_row m4.2.2.2.2.2 i); have HM4 := hid m4; have HG := hid r3; clear r1 r2 r3 m4)
    | (go_at_call 42; refine HO.out.mono ?_; rintro e w' ⟨rfl, rfl⟩))
  go_ret2
  have hq := HM4.out.2.2.2.1
  refine ⟨g, cap, rfl, ?_, (HT5.out.block _ (lt_of_block hq) (by have := HM4.out.2.1 ⟨w.heap.size, true, n⟩ (by simp); simpa using this)).trans hq, ?_, HM4.out.2.2.1, HM4.out.2.2.2.2.1.trans HT5.out (by simp)⟩
  · have := HR5.out
    rw [HS.out] at this
    exact this
  · rcases HG.out with h | h
    · exact .inl h
    · refine .inr ?_
      have h2 : g = w.heap.size + 1 + 1 := by rw [h]; simp
      omega
end
end Go.Proofs.Ytbanhpohnhjciaa
