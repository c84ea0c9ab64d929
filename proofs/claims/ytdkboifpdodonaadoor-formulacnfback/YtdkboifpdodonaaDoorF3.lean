/-
  strconv.Itoa; FormedCnf of the landed program.
-/
import Derived.Test.YtdkboifpdodonaaDoorF2
import Derived.Test.YtdkboifpdodonaaDoorShelf
import Derived.Test.YtdkboifpdodonaaDoorA6
import Derived.Lib.AppendIntMem
namespace Go.Proofs.YtdkboifpdodonaaDoor
open Go.RowKit Go.Deep PureCnf
set_option maxRecDepth 100000

theorem itoa_any (n : Int) (h0 : -9223372036854775808 ≤ n) (h1 : n ≤ 9223372036854775807) (w : World) (hT : Tab w) :
    Calls Tryd.prog 48 #[.int .i64 n] w fun e w' => e = .returned (str (Lib.itoa n)) ∧ Below w.heap.size w w' := by
  refine (Tryd.strconv_Itoa n h0 h1 w hT).mono ?_
  rintro e w' ⟨rfl, k, os, rfl⟩
  exact ⟨rfl, Lib.below_grow _ _ (Nat.le_refl _) k os⟩
theorem IsWr.on {B b : Nat} {T : List UInt8} {w w' : World} (h : IsWr B b T w) (hb : Below w.heap.size w w') : IsWr B b T w' := by
  have one : ∀ p, Wr B b p T w → Wr B b p T w' := by
    rintro p ⟨hB, v, hk, ho, hne⟩
    refine ⟨hB, v, (hb.block b (Array.getElem?_eq_some_iff.1 hk).1).trans hk, ⟨ho.1, ?_⟩, hne⟩
    rcases ho.2 with hn | ⟨g, cap, cur, fz, hv, hB', hg, r⟩
    · exact .inl hn
    · exact .inr ⟨g, cap, cur, fz, hv, hB', (hb.block g (Array.getElem?_eq_some_iff.1 hg).1).trans hg, r⟩
  rcases h with h | h
  · exact .inl (one _ h)
  · exact .inr (one _ h)

/-! ### FormedCnf -/
set_option maxHeartbeats 1000000 in
theorem bad_any (x V : Int) (b : Nat) (w : World) (hV : 0 ≤ V ∧ V ≤ 65536) (hc : w.cell? ⟨b, 0, none⟩ = some (.int .i64 V)) :
    Calls Tryd.prog 27 #[.int .i64 x, .pointer (some ⟨b, 0, none⟩)] w fun e w' => e = .returned (.bool (!litB V x)) ∧ w' = w := by
  obtain ⟨v1, v2⟩ := hV
  by_cases h0 : x = 0
  · have HR : Hid ((!litB V x) = true) := by show _ = _; unfold litB; simp [h0]
    subst h0
    go_enter Tryd.func27, Tryd.ntmps27
    go_wp2
    go_ret
    rw [HR.out]
    exact ⟨rfl, rfl⟩
  · have g0 : (x == 0) = false := by simpa using h0
    by_cases h1 : x < -V
    · have HR : Hid ((!litB V x) = true) := by show _ = _; unfold litB; simp; omega
      clear h0
      go_enter Tryd.func27, Tryd.ntmps27
      go_wp2
      go_ret
      rw [HR.out]
      exact ⟨rfl, rfl⟩
    · by_cases h2 : V < x
      · have HR : Hid ((!litB V x) = true) := by show _ = _; unfold litB; simp; omega
        clear h0
        go_enter Tryd.func27, Tryd.ntmps27
        go_wp2
        go_ret
        rw [HR.out]
        exact ⟨rfl, rfl⟩
      · have HR : Hid ((!litB V x) = false) := by show _ = _; unfold litB; simp; omega
        clear h0
        go_enter Tryd.func27, Tryd.ntmps27
        go_wp2
        go_ret
        rw [HR.out]
        exact ⟨rfl, rfl⟩

set_option maxHeartbeats 1000000 in
theorem index_any (V : Int) (L : List Int) (sl : Option Addr) (cl b : Nat) (w : World) (hV : 0 ≤ V ∧ V ≤ 65536) (hc : w.cell? ⟨b, 0, none⟩ = some (.int .i64 V)) (hL : IntsAt w sl L) (hn : L.length ≤ 1048576) :
    Calls Tryd.prog 50 #[.slice sl L.length cl, .func (.func 27) #[] #[.pointer (some ⟨b, 0, none⟩)]] w fun e w' => (∃ r : Int, e = .returned (.int .i64 r) ∧ -1 ≤ r ∧ r ≤ 1048576 ∧ (decide (0 ≤ r) = !L.all (litB V))) ∧ w' = w := by
  have HC := fun x => hid (bad_any x V b w hV hc)
  have HL := hid hL
  clear hL hV hc
  go_enter Tryd.func50, Tryd.ntmps50
  go_wp2_with fail
  go_loop [8] (fun iv => ∃ j : Nat, iv = .int .i64 j ∧ j ≤ L.length ∧ Hid ((L.take j).all (litB V) = true)) (fun iv => L.length - (intOf iv).toNat)
  case atStart => exact ⟨0, rfl, Nat.zero_le _, rfl⟩
  case round =>
    obtain ⟨j, rfl, hj, HA⟩ := hrel
    by_cases hlt : j < L.length
    · obtain ⟨a, rfl, ha, hr⟩ := HL.out.read hlt
      have c0 := hr w (Below.refl _ _)
      have hB := HC L[j]
      obtain ⟨x, hx⟩ : ∃ x, x = L[j] := ⟨_, rfl⟩
      rw [← hx] at c0 hB
      cases hl : litB V x with
      | true =>
        rw [hl] at hB
        have HA1 : Hid ((L.take (j + 1)).all (litB V) = true) := all_on hlt HA.out (by rw [← hx]; exact hl)
        clear hl hx hr HA
        go_wp2_with (go_at_call 27; refine hB.out.mono ?_; rintro e w' ⟨rfl, rfl⟩)
        exact ⟨⟨j + 1, by go_num, hlt, HA1.out⟩, by simp [intOf]; omega⟩
      | false =>
        rw [hl] at hB
        have HA1 : Hid (L.all (litB V) = false) := all_off hlt (by rw [← hx]; exact hl)
        clear hl hx hr HA
        go_wp2_with (go_at_call 27; refine hB.out.mono ?_; rintro e w' ⟨rfl, rfl⟩)
        go_ret
        refine ⟨⟨j, rfl, by omega, by omega, ?_⟩, rfl⟩
        rw [HA1.out]; simp
    · have HA1 : Hid (L.all (litB V) = true) := by
        have := HA.out
        rw [List.take_of_length_le (by omega)] at this
        exact this
      go_wp2_with fail
      go_ret
      refine ⟨⟨-1, rfl, by omega, by omega, ?_⟩, rfl⟩
      rw [HA1.out]; rfl

set_option maxHeartbeats 1000000 in
theorem contains_any (V : Int) (L : List Int) (sl : Option Addr) (cl b : Nat) (w : World) (hV : 0 ≤ V ∧ V ≤ 65536) (hc : w.cell? ⟨b, 0, none⟩ = some (.int .i64 V)) (hL : IntsAt w sl L) (hn : L.length ≤ 1048576) :
    Calls Tryd.prog 26 #[.slice sl L.length cl, .func (.func 27) #[] #[.pointer (some ⟨b, 0, none⟩)]] w fun e w' => e = .returned (.bool (!L.all (litB V))) ∧ w' = w := by
  have HI := hid (index_any V L sl cl b w hV hc hL hn)
  clear hV hc hL
  go_enter Tryd.func26, Tryd.ntmps26
  go_wp2_with (go_at_call 50; refine HI.out.mono ?_; rintro e w' ⟨⟨r, rfl, r1, r2, r3⟩, rfl⟩; have R3 := hid r3; clear r3)
  go_ret
  refine ⟨?_, rfl⟩
  rw [← R3.out]
  rfl
end Go.Proofs.YtdkboifpdodonaaDoor
