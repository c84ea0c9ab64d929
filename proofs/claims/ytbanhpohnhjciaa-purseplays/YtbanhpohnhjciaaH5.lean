import Derived.Test.YtbanhpohnhjciaaH4
namespace Go.Proofs.Ytbanhpohnhjciaa
open Go.RowKit Go.MuLone

theorem info44 : (Try.prog.info? 44).map (fun i => (i.zero, i.size, i.bytes)) = some (some (.pointer none), 1, 8) := by kernel_rfl

theorem kids_append (l m : List Kid) : kidsOut (l ++ m) = kidsOut l + kidsOut m := by
  induction l with
  | nil => simp [kidsOut]
  | cons k l ih => simp [kidsOut, ih]; omega

section
variable {w : World} {base b : Nat} {r : Rf} {ks : List Kid}

set_option maxRecDepth 100000 in
set_option maxHeartbeats 400000 in
theorem partR_refused (R : RefAt w base b r ks) (hl : r.limit ≤ 9223372036854775807) (ho : r.hand + kidsOut ks ≤ r.limit) (n : Int) (hne : leaveR r ks n ≠ 0) :
    Calls Try.prog 30 #[ptr b, .int .i64 n] w fun e w' => e = .returned (.tuple #[.pointer none, .int .i64 (leaveR r ks n)]) ∧ w' = w := by
  have c := fun i => cell_row R.row i
  have h0 := R.hand
  have h1 := kids_nonneg R.pos
  have HO := hid (outR_any R)
  have hw : wrap64 (r.limit - (r.hand + kidsOut ks)) = r.limit - (r.hand + kidsOut ks) := IntWalk.wrap64_in _ ⟨by omega, by omega⟩
  by_cases hop : r.opn = false
  · have HE := hid (show leaveR r ks n = 6 by simp [leaveR, hop])
    clear R h0 h1 hl ho hne
    go_enter Try.func30, Try.ntmps30
    go_wp2
    go_ret2
    rw [HE.out]
    exact ⟨rfl, rfl⟩
  · have hop' : r.opn = true := by simpa using hop
    by_cases hn : n < 0
    · have HE := hid (show leaveR r ks n = 1 by simp [leaveR, hop', hn])
      clear R h0 h1 hl ho hop hne
      go_enter Try.func30, Try.ntmps30
      go_wp2
      go_ret2
      rw [HE.out]
      exact ⟨rfl, rfl⟩
    · have hf : n > r.limit - (r.hand + kidsOut ks) := by
        apply Classical.byContradiction
        intro hf
        exact hne (by simp only [leaveR, hop', hn, hf]; simp)
      have HE := hid (show leaveR r ks n = 2 by simp only [leaveR, hop', hn, hf]; simp)
      clear R h0 h1 hl ho hop hne
      go_enter Try.func30, Try.ntmps30
      go_wp2_with (go_at_call 42; refine HO.out.mono ?_; rintro e w' ⟨rfl, rfl⟩)
      go_ret2
      rw [HE.out]
      exact ⟨rfl, rfl⟩
end
end Go.Proofs.Ytbanhpohnhjciaa
