/-
  Encode of both packages, of any numbers.
-/
import Derived.Test.YtfodpeiecmbojaaG2
import Derived.Test.YtfodpeiecmbojaaE2
namespace Go.Proofs.Ytfodpeiecmbojaa
open Go.RowKit Go.Deep PureCrc

set_option maxRecDepth 100000 in
set_option maxHeartbeats 1000000 in
theorem rencode_arg (kind place N : Int) (n rc : Nat) (sa : Option Addr) (w : World) (h : ¬ (mayN kind place N ∧ n ≠ 0)) :
    Calls Try.prog 16 #[.int .i64 kind, .int .i64 place, .slice sa n rc, .int .i64 N] w fun e w' => e = .returned (.tuple #[.slice none 0 0, .int .i64 1]) ∧ w' = w := by
  have HF := hid (fun W => rfit_any N W)
  have hfn : 0 ≤ fitN N := by unfold fitN; split <;> omega
  by_cases h1 : kind < 1
  · clear h
    go_enter Try.func16, Try.ntmps16
    go_wp2_with fail
    go_ret2
    exact ⟨rfl, rfl⟩
  · by_cases h2 : kind > 255
    · clear h
      go_enter Try.func16, Try.ntmps16
      go_wp2_with fail
      go_ret2
      exact ⟨rfl, rfl⟩
    · by_cases h3 : place < 0
      · clear h
        go_enter Try.func16, Try.ntmps16
        go_wp2_with fail
        go_ret2
        exact ⟨rfl, rfl⟩
      · by_cases h4 : fitN N = 0
        · rw [h4] at HF
          clear h h4 hfn
          go_enter Try.func16, Try.ntmps16
          go_wp2_with (first | (go_at_call 17; refine (HF.out _).mono ?_; rintro e w3 ⟨rfl, rfl⟩))
          go_ret2
          exact ⟨rfl, rfl⟩
        · have hn : n = 0 := by
            apply Classical.byContradiction
            intro e
            exact h ⟨⟨by omega, by omega, by omega, by omega⟩, e⟩
          subst hn
          obtain ⟨f, hf⟩ : ∃ f, f = fitN N := ⟨_, rfl⟩
          rw [← hf] at HF h4
          have h5 : (f == 0) = false := by simpa using h4
          clear h hf hfn
          go_enter Try.func16, Try.ntmps16
          go_wp2_with (first | (go_at_call 17; refine (HF.out _).mono ?_; rintro e w3 ⟨rfl, rfl⟩))
          go_ret2
          exact ⟨rfl, rfl⟩

set_option maxRecDepth 100000 in
set_option maxHeartbeats 1000000 in
theorem rencode_many (kind place N : Int) (n rc : Nat) (sa : Option Addr) (w : World) (h : mayN kind place N) (hf : fitN N < (n : Int)) :
    Calls Try.prog 16 #[.int .i64 kind, .int .i64 place, .slice sa n rc, .int .i64 N] w fun e w' => e = .returned (.tuple #[.slice none 0 0, .int .i64 8]) ∧ w' = w := by
  have HF := hid (fun W => rfit_any N W)
  obtain ⟨h1, h2, h3, h4⟩ := h
  have hn0' : ¬ (n : Int) = 0 := by omega
  have hn0 : ((n : Int) == 0) = false := by simpa using hn0'
  obtain ⟨f, hfd⟩ : ∃ f, f = fitN N := ⟨_, rfl⟩
  rw [← hfd] at hf HF h4
  have h5' : ¬ f = 0 := by omega
  have h5 : (f == 0) = false := by simpa using h5'
  have g1 : ¬ kind < 1 := by omega
  have g2 : ¬ kind > 255 := by omega
  have g3 : ¬ place < 0 := by omega
  clear hfd
  go_enter Try.func16, Try.ntmps16
  go_wp2_with (first | (go_at_call 17; refine (HF.out _).mono ?_; rintro e w3 ⟨rfl, hh⟩; have hh := hh.symm; subst hh))
  go_ret2
  exact ⟨rfl, rfl⟩

/-- what Encode answers. -/
def encE (kind place N : Int) (n : Nat) : Int := if mayN kind place N ∧ n ≠ 0 then (if fitN N < (n : Int) then 8 else 0) else 1

theorem own_row {w : World} {g N base : Nat} {l : List Nat} (h : Row w g l) (hl : l.length = N) (hb : base ≤ g) (hN : N ≤ 65536) : OwnB w base (.slice (some ⟨g, 0, none⟩) N N) l := by
  subst hl
  refine ⟨by simp [bcl], .inr ⟨g, l.length, bc l, rfl, hb, h, Nat.le_refl _, by unfold maxLen; omega, by simp [bc_size], ?_⟩⟩
  unfold bc bcl
  rw [List.toList_toArray, List.take_of_length_le (by simp)]

/-- both packages write the same. -/
theorem enc_pair (kind place N : Int) (hk : I64 kind) (hp : I64 place) (n : Nat) (ws : List Nat) (hl : ws.length = 4 * n) (hlt : ∀ x ∈ ws, x < 18446744073709551616) :
    ∃ bs : List Nat, (∀ x ∈ bs, x < 256) ∧ bs.length ≤ 65536 ∧
      (∀ W sa c, Rs W sa n ws → Calls Try.prog 8 #[.int .i64 kind, .int .i64 place, .slice sa n c, .int .i64 N] W fun e w' => ∃ sv, e = .returned (.tuple #[sv, .int .i64 (encE kind place N n)]) ∧ OwnB w' W.heap.size sv bs ∧ Touch [] W w') ∧
      (∀ W sa c, Rs W sa n ws → Calls Try.prog 16 #[.int .i64 kind, .int .i64 place, .slice sa n c, .int .i64 N] W fun e w' => ∃ sv, e = .returned (.tuple #[sv, .int .i64 (encE kind place N n)]) ∧ OwnB w' W.heap.size sv bs ∧ Touch [] W w') := by
  by_cases hm : mayN kind place N ∧ n ≠ 0
  · by_cases hf : fitN N < (n : Int)
    · have he : encE kind place N n = 8 := by unfold encE; rw [if_pos hm, if_pos hf]
      rw [he]
      exact ⟨[], by simp, by simp,
        fun W sa c _ => (encode_many kind place N n c sa W hm.1 hf).mono fun e w' h => ⟨_, h.1, by rw [h.2]; exact World.ownsRow_nil _ _ _ _, by rw [h.2]; exact Touch.refl _ _⟩,
        fun W sa c _ => (rencode_many kind place N n c sa W hm.1 hf).mono fun e w' h => ⟨_, h.1, by rw [h.2]; exact World.ownsRow_nil _ _ _ _, by rw [h.2]; exact Touch.refl _ _⟩⟩
    · have he : encE kind place N n = 0 := by unfold encE; rw [if_pos hm, if_neg hf]
      rw [he]
      obtain ⟨⟨h1, h2, h3, h4⟩, h5⟩ := hm
      have hfit : 64 ≤ N ∧ N ≤ 65536 ∧ N % 32 = 0 ∧ fitN N = N / 32 - 1 := by
        unfold fitN at h4 ⊢
        split at h4
        · rename_i hh
          rw [if_pos hh]
          omega
        · omega
      obtain ⟨f1, f2, f3, f4⟩ := hfit
      obtain ⟨kn, rfl⟩ : ∃ kn : Nat, kind = (kn : Int) := ⟨kind.toNat, by omega⟩
      obtain ⟨pn, rfl⟩ : ∃ pn : Nat, place = (pn : Int) := ⟨place.toNat, by omega⟩
      obtain ⟨Nn, rfl⟩ : ∃ Nn : Nat, N = (Nn : Int) := ⟨N.toNat, by omega⟩
      have hp2 := hp.2
      have h32 : 32 + 8 * ws.length ≤ Nn := by omega
      have hel := enc_length (kind := kn) (place := pn) (n := n) h32
      refine ⟨enc kn pn n ws Nn, enc_lt (by omega), by omega, fun W sa c hr => ?_, fun W sa c hr => ?_⟩
      · obtain ⟨b, o, rfl, hb, hw⟩ := hr.at_ (by omega)
        exact (encode_ok kn pn n Nn ws b o c W hw hl hb hlt (by omega) (by omega) (by omega) (by omega) (by omega) (by omega) (by omega) (by omega)).mono fun e w' ⟨g, h1, h2, h3, h4⟩ => ⟨_, h1, own_row h2 hel h4 (by omega), h3⟩
      · obtain ⟨b, o, rfl, hb, hw⟩ := hr.at_ (by omega)
        exact rencode_ok kn pn n Nn ws b o c W hw hl hb hlt (by omega) (by omega) (by omega) (by omega) (by omega) (by omega) (by omega) (by omega)
  · have he : encE kind place N n = 1 := by unfold encE; rw [if_neg hm]
    rw [he]
    exact ⟨[], by simp, by simp,
      fun W sa c _ => (encode_arg kind place N n c sa W hm).mono fun e w' h => ⟨_, h.1, by rw [h.2]; exact World.ownsRow_nil _ _ _ _, by rw [h.2]; exact Touch.refl _ _⟩,
      fun W sa c _ => (rencode_arg kind place N n c sa W hm).mono fun e w' h => ⟨_, h.1, by rw [h.2]; exact World.ownsRow_nil _ _ _ _, by rw [h.2]; exact Touch.refl _ _⟩⟩
end Go.Proofs.Ytfodpeiecmbojaa
