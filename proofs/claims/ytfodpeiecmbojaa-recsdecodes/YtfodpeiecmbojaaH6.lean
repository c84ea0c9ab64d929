/-
  RecsDecodes: what its walk needs.
-/
import Derived.Test.YtfodpeiecmbojaaH4
import Derived.Test.YtfodpeiecmbojaaH5
import Derived.Deep.RegionHeld3
namespace Go.Proofs.Ytfodpeiecmbojaa
open Go.RowKit Go.Deep PureCrc

abbrev two : List Nat := [1, 2, 3, 4, 5, 6, 7, 8]
abbrev encF : List Nat := enc 3 4 2 two 96

theorem dec_fixed (W : World) (g c : Nat) (hr : Rd W g 0 encF) (hg : g < W.heap.size) (hc : 96 ≤ c) :
    Calls Try.prog 9 #[.int .i64 3, .int .i64 4, .slice (some ⟨g, 0, none⟩) 96 c] W fun e w' => ∃ sv, e = .returned (.tuple #[sv, .int .i64 0]) ∧ OwnR w' W.heap.size sv 2 two ∧ Touch [] W w' := by
  have h32 : 32 + 8 * two.length ≤ 96 := by decide
  have hlen := enc_length (kind := 3) (place := 4) (n := 2) h32
  have hcn : count encF = 2 := enc_count (by omega)
  have hpl : num (PureCrc.cut encF 8 8) = 4 := enc_place (by decide)
  have hwd : words (4 * 2) (encF.drop 28) = two := enc_words (ws := two) (by decide)
  have h := decode_ok encF g 0 c W hr hg (enc_lt (by omega)) (by rw [hlen]; exact hc) (by rw [hlen]; omega) (by rw [hlen]; omega) (by rw [hlen]) (by rw [hpl]; omega) (enc_fits (by omega) h32) (enc_formed (by omega) rfl (by omega) (by omega) (by omega) h32)
  rw [hlen, hcn, hpl, enc_kind, hwd] at h
  exact h.mono fun e w' ⟨g, h1, h2, h3, h4⟩ => ⟨_, h1, own_wrow h2 rfl h4 (by omega), h3⟩

set_option maxHeartbeats 400000 in
theorem rsum_zero (sa : Option Addr) (c : Nat) (w : World) : Calls Try.prog 22 #[.slice sa 0 c] w fun e w' => e = .returned (.int .u32 0) ∧ w' = w := by
  go_enter Try.func22, Try.ntmps22
  go_wp2
  go_loopw [3, 4] (fun s i W => i = .int .i64 0 ∧ s = .int .u32 4294967295 ∧ W = w) (fun _ _ _ => 0)
  case atStart => exact ⟨rfl, rfl, rfl⟩
  case round =>
    obtain ⟨rfl, rfl, rfl⟩ := hrel
    go_wp2
    go_ret
    exact ⟨rfl, rfl⟩
theorem rsum_came {w : World} {sa : Option Addr} {n c : Nat} {l : List Nat} (h : Came w sa n c l) (hn : n ≤ 1099511627776) : Calls Try.prog 22 #[.slice sa n c] w fun e w' => e = .returned (.int .u32 (crc l : Int)) ∧ w' = w := by
  have hl := h.len
  subst hl
  by_cases h0 : l.length = 0
  · have hd : l = [] := List.eq_nil_of_length_eq_zero h0
    subst hd
    exact rsum_zero sa c w
  · obtain ⟨b, o, rfl, _, hr⟩ := h.at_ (by omega)
    exact rsum_any l b o c w hr h.lt hn

theorem Came.touch {w w' : World} {sa : Option Addr} {n c : Nat} {l F : List Nat} (h : Came w sa n c l) (ht : Touch F w w') (hF : ∀ a, sa = some a → a.block ∉ F) : Came w' sa n c l :=
  ⟨h.len, h.cap, h.lt, fun h0 => by
    obtain ⟨b, o, e, hb, hr⟩ := h.at_ h0
    exact ⟨b, o, e, Nat.lt_of_lt_of_le hb ht.size, hr.touch ht hb (hF _ e)⟩⟩

/-- the front of bytes of one's own came in. -/
theorem front_came {w : World} {g n c : Nat} {l m : List Nat} (h : Rd w g 0 (l ++ m)) (hg : g < w.heap.size) (hl : l.length = n) (hc : n ≤ c) (hlt : ∀ x ∈ l, x < 256) : Came w (some ⟨g, 0, none⟩) n c l :=
  ⟨hl, hc, hlt, fun _ => ⟨g, 0, rfl, hg, fun i hi => by
    have := h i (by rw [List.length_append]; omega)
    rw [List.getElem_append_left hi] at this
    exact this⟩⟩
end Go.Proofs.Ytfodpeiecmbojaa
