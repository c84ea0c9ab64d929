import Derived.Test.YtbanhpohnhjciaaH1
namespace Go.Proofs.Ytbanhpohnhjciaa
open Go.RowKit Go.MuLone

section
variable {w : World} {base b : Nat} {r : Rf} {ks : List Kid}

/-- its own row has turned. -/
theorem RefAt.turn {w' : World} (R : RefAt w base b r ks) (ne : ∀ k ∈ ks, k.b ≠ b) (pne : r.pv.ownBlock ≠ some b) (t : Touch [b] w w') {r' : Rf} (hrow : w'.heap[b]? = some (.cells r'.row 69 (0, 0))) (hpv : r'.pv = r.pv) (h0 : 0 ≤ r'.hand) (h1 : r'.hand + kidsOut ks ≤ 9223372036854775807) : RefAt w' base b r' ks := by
  have hc : ∀ k ∈ ks, ∀ i v, w.cell? ⟨k.b, i, none⟩ = some v → w'.cell? ⟨k.b, i, none⟩ = some v := fun k hk i v hv => (World.cell?_of_block (t.block k.b (World.block_lt_of_cell? w _ hv) (by simpa using ne k hk))).trans hv
  exact ⟨hrow, by rw [hpv]; exact owns_touch R.own t (fun x hx hm => pne (by simp at hm; subst hm; exact hx)), fun k hk => hc k hk 3 _ (R.open_ k hk), fun k hk => hc k hk 0 _ (R.limit k hk), R.pos, h0, h1, R.few⟩

set_option maxRecDepth 100000 in
set_option maxHeartbeats 400000 in
theorem freeR_any (R : RefAt w base b r ks) (hl : r.limit ≤ 9223372036854775807) (ho : r.hand + kidsOut ks ≤ r.limit) :
    Calls Try.prog 36 #[ptr b] w fun e w' => e = .returned (.int .i64 (if r.opn then r.limit - (r.hand + kidsOut ks) else 0)) ∧ ∃ n, w' = w.drewN n := by
  have c := fun i => cell_row R.row i
  have h0 := R.hand
  have h1 := kids_nonneg R.pos
  have hw : IntKind.i64.wrap (r.limit - (r.hand + kidsOut ks)) = r.limit - (r.hand + kidsOut ks) := (IntWalk.i64_left _).trans <| IntWalk.wrap64_in _ ⟨by omega, by omega⟩
  have HO := hid (fun n => outR_any (w := w.drewN n) (base := base) (b := b) (r := r) (ks := ks) ⟨R.row, R.own, R.open_, R.limit, R.pos, R.hand, R.top, R.few⟩)
  clear R h0 h1 hl ho
  cases hop : r.opn with
  | false =>
    go_enter Try.func36, Try.ntmps36
    go_wp2
    go_ret
    exact ⟨by simp, 0, rfl⟩
  | true =>
    go_enter Try.func36, Try.ntmps36
    go_wp2
    go_quiet (first | (go_at_call 42; exact Calls.quiet_of_same (HO.out _)))
    all_goals go_wp2
    go_ret
    exact ⟨by simp, _, rfl⟩

set_option maxRecDepth 100000 in
set_option maxHeartbeats 400000 in
theorem noted_any (R : RefAt w base b r ks) (ne : ∀ k ∈ ks, k.b ≠ b) (pne : r.pv.ownBlock ≠ some b) :
    Calls Try.prog 43 #[ptr b] w fun e w' => e = .returned (.tuple #[]) ∧ RefAt w' base b { r with peak := max r.peak (r.hand + kidsOut ks) } ks ∧ Touch [b] w w' := by
  have c := fun i => cell_row R.row i
  have f := fun i => unfrozen_row R.row i
  have HO := hid (outR_any R)
  have HR := hid R
  have HN := hid (And.intro ne pne)
  clear R ne pne
  by_cases hp : r.hand + kidsOut ks > r.peak
  · have HB := hid (show max r.peak (r.hand + kidsOut ks) = r.hand + kidsOut ks by omega)
    go_enter Try.func43, Try.ntmps43
    go_wp2_with (go_at_call 42; refine HO.out.mono ?_; rintro e w' ⟨rfl, rfl⟩)
    go_end0
    rw [HB.out]
    have t := (Touch.refl [b] w').setCell (p := ⟨b, 2, none⟩) (by simp) (.int .i64 (r.hand + kidsOut ks))
    exact ⟨rfl, HR.out.turn HN.out.1 HN.out.2 t (heap_setCell_row HR.out.row 2 _) rfl HR.out.hand HR.out.top, t⟩
  · have HB := hid (show max r.peak (r.hand + kidsOut ks) = r.peak by omega)
    go_enter Try.func43, Try.ntmps43
    go_wp2_with (go_at_call 42; refine HO.out.mono ?_; rintro e w' ⟨rfl, rfl⟩)
    go_end0
    rw [HB.out]
    exact ⟨rfl, HR.out, Touch.refl _ _⟩
end
end Go.Proofs.Ytbanhpohnhjciaa
