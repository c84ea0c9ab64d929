import Derived.Test.YtbanhpohnhjciaaH2
namespace Go.Proofs.Ytbanhpohnhjciaa
open Go.RowKit Go.MuLone

section
variable {w : World} {base b : Nat} {r : Rf} {ks : List Kid}

def leaveR (r : Rf) (ks : List Kid) (n : Int) : Int := if r.opn = false then 6 else if n < 0 then 1 else if n > r.limit - (r.hand + kidsOut ks) then 2 else 0
def giveR (r : Rf) (n : Int) : Int := if r.opn = false then 6 else if n < 0 then 1 else if n > r.hand then 20 else 0
def Rf.take (r : Rf) (ks : List Kid) (n : Int) : Rf := if leaveR r ks n = 0 then { r with hand := r.hand + n, peak := max r.peak (r.hand + n + kidsOut ks) } else r
def Rf.give (r : Rf) (n : Int) : Rf := if giveR r n = 0 then { r with hand := r.hand - n } else r

set_option maxRecDepth 100000 in
set_option maxHeartbeats 400000 in
theorem takeR_any (R : RefAt w base b r ks) (ne : ∀ k ∈ ks, k.b ≠ b) (pne : r.pv.ownBlock ≠ some b) (hl : r.limit ≤ 9223372036854775807) (ho : r.hand + kidsOut ks ≤ r.limit) (n : Int) :
    Calls Try.prog 31 #[ptr b, .int .i64 n] w fun e w' => e = .returned (.int .i64 (leaveR r ks n)) ∧ RefAt w' base b (r.take ks n) ks ∧ Touch [b] w w' := by
  have c := fun i => cell_row R.row i
  have f := fun i => unfrozen_row R.row i
  have h0 := R.hand
  have h1 := kids_nonneg R.pos
  have HO := hid (outR_any R)
  have HR := hid R
  have HN := hid (And.intro ne pne)
  have hw : wrap64 (r.limit - (r.hand + kidsOut ks)) = r.limit - (r.hand + kidsOut ks) := IntWalk.wrap64_in _ ⟨by omega, by omega⟩
  by_cases hop : r.opn = false
  · have HE := hid (show leaveR r ks n = 6 by simp [leaveR, hop])
    have HT := hid (show r.take ks n = r by simp [Rf.take, HE.out])
    clear R ne pne h0 h1 hl ho
    go_enter Try.func31, Try.ntmps31
    go_wp2
    go_ret
    rw [HE.out, HT.out]
    exact ⟨rfl, HR.out, Touch.refl _ _⟩
  · have hop' : r.opn = true := by simpa using hop
    by_cases hn : n < 0
    · have HE := hid (show leaveR r ks n = 1 by simp [leaveR, hop', hn])
      have HT := hid (show r.take ks n = r by simp [Rf.take, HE.out])
      clear R ne pne h0 h1 hl ho hop
      go_enter Try.func31, Try.ntmps31
      go_wp2
      go_ret
      rw [HE.out, HT.out]
      exact ⟨rfl, HR.out, Touch.refl _ _⟩
    · by_cases hf : n > r.limit - (r.hand + kidsOut ks)
      · have HE := hid (show leaveR r ks n = 2 by simp only [leaveR, hop', hn, hf]; simp)
        have HT := hid (show r.take ks n = r by simp [Rf.take, HE.out])
        clear R ne pne h0 h1 hl ho hop
        go_enter Try.func31, Try.ntmps31
        go_wp2_with (go_at_call 42; refine HO.out.mono ?_; rintro e w' ⟨rfl, rfl⟩)
        go_ret
        rw [HE.out, HT.out]
        exact ⟨rfl, HR.out, Touch.refl _ _⟩
      · have HE := hid (show leaveR r ks n = 0 by simp only [leaveR, hop', hn, hf]; simp)
        have HT := hid (show r.take ks n = { r with hand := r.hand + n, peak := max r.peak (r.hand + n + kidsOut ks) } by simp [Rf.take, HE.out])
        have hw2 : wrap64 (r.hand + n) = r.hand + n := IntWalk.wrap64_in _ ⟨by omega, by omega⟩
        have HX := hid (fun (W : World) (hW : RefAt W base b { r with hand := r.hand + n } ks) => noted_any hW ne pne)
        have HY : Hid (∀ W, W = w → RefAt (W.setCell ⟨b, 1, none⟩ (.int .i64 (r.hand + n))) base b { r with hand := r.hand + n } ks) := hid (fun W e => by
          subst e
          exact R.turn ne pne ((Touch.refl [b] W).setCell (p := ⟨b, 1, none⟩) (by simp) _) (heap_setCell_row R.row 1 _) rfl (by show 0 ≤ r.hand + n; omega) (by show r.hand + n + kidsOut ks ≤ 9223372036854775807; omega))
        clear R ne pne h0 h1 hl ho hop
        go_enter Try.func31, Try.ntmps31
        go_wp2_with (first
          | (go_at_call 43; refine (HX.out _ (HY.out _ rfl)).mono ?_; rintro e w3 ⟨rfl, hR3, ht3⟩; have HR3 := hid hR3; have HT3 := hid ht3; clear hR3 ht3)
          | (go_at_call 42; refine HO.out.mono ?_; rintro e w' ⟨rfl, rfl⟩))
        go_ret
        rw [HE.out, HT.out]
        exact ⟨rfl, HR3.out, ((Touch.refl [b] _).setCell (by simp) _).trans HT3.out (by simp)⟩

set_option maxRecDepth 100000 in
set_option maxHeartbeats 400000 in
theorem giveR_any (R : RefAt w base b r ks) (ne : ∀ k ∈ ks, k.b ≠ b) (pne : r.pv.ownBlock ≠ some b) (n : Int) :
    Calls Try.prog 32 #[ptr b, .int .i64 n] w fun e w' => e = .returned (.int .i64 (giveR r n)) ∧ RefAt w' base b (r.give n) ks ∧ Touch [b] w w' := by
  have c := fun i => cell_row R.row i
  have f := fun i => unfrozen_row R.row i
  have h0 := R.hand
  have h1 := kids_nonneg R.pos
  have h2 := R.top
  have HR := hid R
  have HN := hid (And.intro ne pne)
  by_cases hop : r.opn = false
  · have HE := hid (show giveR r n = 6 by simp [giveR, hop])
    have HT := hid (show r.give n = r by simp [Rf.give, HE.out])
    clear R ne pne h0 h1 h2
    go_enter Try.func32, Try.ntmps32
    go_wp2
    go_ret
    rw [HE.out, HT.out]
    exact ⟨rfl, HR.out, Touch.refl _ _⟩
  · have hop' : r.opn = true := by simpa using hop
    by_cases hn : n < 0
    · have HE := hid (show giveR r n = 1 by simp [giveR, hop', hn])
      have HT := hid (show r.give n = r by simp [Rf.give, HE.out])
      clear R ne pne h0 h1 h2 hop
      go_enter Try.func32, Try.ntmps32
      go_wp2
      go_ret
      rw [HE.out, HT.out]
      exact ⟨rfl, HR.out, Touch.refl _ _⟩
    · by_cases hf : n > r.hand
      · have HE := hid (show giveR r n = 20 by simp only [giveR, hop', hn, hf]; simp)
        have HT := hid (show r.give n = r by simp [Rf.give, HE.out])
        clear R ne pne h0 h1 h2 hop
        go_enter Try.func32, Try.ntmps32
        go_wp2
        go_ret
        rw [HE.out, HT.out]
        exact ⟨rfl, HR.out, Touch.refl _ _⟩
      · have HE := hid (show giveR r n = 0 by simp only [giveR, hop', hn, hf]; simp)
        have HT := hid (show r.give n = { r with hand := r.hand - n } by simp [Rf.give, HE.out])
        have hw2 : wrap64 (r.hand - n) = r.hand - n := IntWalk.wrap64_in _ ⟨by omega, by omega⟩
        have HB := hid (show 0 ≤ r.hand - n ∧ r.hand - n + kidsOut ks ≤ 9223372036854775807 by omega)
        clear R ne pne h0 h1 h2 hop
        go_enter Try.func32, Try.ntmps32
        go_wp2
        go_ret
        rw [HE.out, HT.out]
        have t := (Touch.refl [b] w).setCell (p := ⟨b, 1, none⟩) (by simp) (.int .i64 (r.hand - n))
        exact ⟨rfl, HR.out.turn HN.out.1 HN.out.2 t (heap_setCell_row HR.out.row 1 _) rfl HB.out.1 HB.out.2, t⟩
end
end Go.Proofs.Ytbanhpohnhjciaa
