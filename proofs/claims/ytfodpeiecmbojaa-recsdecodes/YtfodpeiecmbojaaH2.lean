/-
  The document's own Decode.
-/
import Derived.Test.YtfodpeiecmbojaaH1
import Derived.Test.YtfodpeiecmbojaaG6
namespace Go.Proofs.Ytfodpeiecmbojaa
open Go.RowKit Go.Deep PureCrc

set_option maxRecDepth 100000 in
set_option maxHeartbeats 1000000 in
theorem rdecode_arg (kind place : Int) (n c : Nat) (sa : Option Addr) (w : World) (h : ¬ mayN kind place (n : Int)) :
    Calls Try.prog 20 #[.int .i64 kind, .int .i64 place, .slice sa n c] w fun e w' => e = .returned (.tuple #[.slice none 0 0, .int .i64 1]) ∧ w' = w := by
  have HF := hid (fun W => rfit_any (n : Int) W)
  have hfn : 0 ≤ fitN (n : Int) := by unfold fitN; split <;> omega
  by_cases h1 : kind < 1
  · clear h
    go_enter Try.func20, Try.ntmps20
    go_wp2_with fail
    go_ret2
    exact ⟨rfl, rfl⟩
  · by_cases h2 : kind > 255
    · clear h
      go_enter Try.func20, Try.ntmps20
      go_wp2_with fail
      go_ret2
      exact ⟨rfl, rfl⟩
    · by_cases h3 : place < 0
      · clear h
        go_enter Try.func20, Try.ntmps20
        go_wp2_with fail
        go_ret2
        exact ⟨rfl, rfl⟩
      · have h4 : fitN (n : Int) = 0 := by
          apply Classical.byContradiction
          intro e
          exact h ⟨by omega, by omega, by omega, by omega⟩
        rw [h4] at HF
        clear h h4 hfn
        go_enter Try.func20, Try.ntmps20
        go_wp2_with (first | (go_at_call 17; refine (HF.out _).mono ?_; rintro e w3 ⟨rfl, rfl⟩))
        go_ret2
        exact ⟨rfl, rfl⟩

/-- what the document's Decode asks of bytes whose length may be. -/
structure Asks (w : World) (l : List Nat) (b o c kind place : Nat) : Prop where
  fit : ∀ W, Calls Try.prog 17 #[.int .i64 (l.length : Int)] W fun e w' => e = .returned (.int .i64 (fitN (l.length : Int))) ∧ w' = W
  sum : Calls Try.prog 22 #[.slice (some ⟨b, o, none⟩) (l.length - 4) c] w fun e w' => e = .returned (.int .u32 (crc (l.take (l.length - 4)) : Int)) ∧ w' = w
  read4 : Calls Try.prog 39 #[.slice (some ⟨b, o + (l.length - 4), none⟩) 4 (c - (l.length - 4))] w fun e w' => e = .returned (.int .u64 (num (PureCrc.cut l (l.length - 4) 4) : Int)) ∧ w' = w
  head : Calls Try.prog 40 #[.slice (some ⟨b, o, none⟩) l.length c] w fun e w' => (∃ t, e = .returned (.bool t) ∧ (t = true ↔ Formed l)) ∧ w' = w
  read8 : Calls Try.prog 39 #[.slice (some ⟨b, o + 8, none⟩) 8 (c - 8)] w fun e w' => e = .returned (.int .u64 (num (PureCrc.cut l 8 8) : Int)) ∧ w' = w
  read2 : Calls Try.prog 39 #[.slice (some ⟨b, o + 6, none⟩) 2 (c - 6)] w fun e w' => e = .returned (.int .u64 (count l : Int)) ∧ w' = w
  cell5 : w.cell? ⟨b, o + 5, none⟩ = some (.int .u8 (l.getD 5 0 : Int))
  lt5 : l.getD 5 0 < 256
  s1 : num (PureCrc.cut l (l.length - 4) 4) < 4294967296
  s2 : crc (l.take (l.length - 4)) < 4294967296
  c2 : count l < 65536

theorem asks (l : List Nat) (b o c kind place : Nat) (w : World) (hr : Rd w b o l) (hb : ∀ x ∈ l, x < 256) (hc : l.length ≤ c) (h64 : 64 ≤ l.length) (hm : l.length ≤ 65536) (h32 : l.length % 32 = 0) : Asks w l b o c kind place := by
  refine ⟨fun W => rfit_any _ W, ?_, ?_, rhead_any l b o c w hr hb h64 hc hm h32, ?_, ?_, ?_, ?_, ?_, crc_lt fun x hx => hb x (List.mem_of_mem_take hx), ?_⟩
  · have rt : Rd w b o (l.take (l.length - 4)) := by
      have := hr.cut (a := 0) (n := l.length - 4) (by omega)
      simpa [PureCrc.cut] using this
    have HS := rsum_any (l.take (l.length - 4)) b o c w rt (fun x hx => hb x (List.mem_of_mem_take hx)) (by rw [List.length_take]; omega)
    rwa [show (l.take (l.length - 4)).length = l.length - 4 by rw [List.length_take]; omega] at HS
  · have HG := rread_any (PureCrc.cut l (l.length - 4) 4) (by rw [cut_length (by omega)]; omega) (cut_lt hb) b (o + (l.length - 4)) (c - (l.length - 4)) w (hr.cut (by omega))
    rwa [cut_length (by omega)] at HG
  · have HG := rread_any (PureCrc.cut l 8 8) (by rw [cut_length (by omega)]; omega) (cut_lt hb) b (o + 8) (c - 8) w (hr.cut (by omega))
    rwa [cut_length (by omega)] at HG
  · have HG := rread_any (PureCrc.cut l 6 2) (by rw [cut_length (by omega)]; omega) (cut_lt hb) b (o + 6) (c - 6) w (hr.cut (by omega))
    rwa [cut_length (by omega)] at HG
  · rw [getD_eq (by omega)]
    exact hr 5 (by omega)
  · rw [getD_eq (by omega)]
    exact hb _ (List.getElem_mem _)
  · have := num_lt (l := PureCrc.cut l (l.length - 4) 4) (cut_lt hb)
    rw [cut_length (by omega)] at this
    exact this
  · have := num_lt (l := PureCrc.cut l 6 2) (cut_lt hb)
    rw [cut_length (by omega)] at this
    exact this

set_option maxRecDepth 100000 in
set_option maxHeartbeats 2000000 in
theorem rdecode_bad (kind place : Nat) (l : List Nat) (b o c : Nat) (w : World) (hr : Rd w b o l) (hb : ∀ x ∈ l, x < 256) (hc : l.length ≤ c)
    (h64 : 64 ≤ l.length) (hm : l.length ≤ 65536) (h32 : l.length % 32 = 0) (hk1 : 1 ≤ kind) (hk2 : kind ≤ 255) (hp : place < 9223372036854775808) (er : Nat) (he : DecE kind place l er) :
    Calls Try.prog 20 #[.int .i64 (kind : Int), .int .i64 (place : Int), .slice (some ⟨b, o, none⟩) l.length c] w fun e w' => e = .returned (.tuple #[.slice none 0 0, .int .i64 (er : Int)]) ∧ w' = w := by
  obtain ⟨HF, HS, HG, HH, H8, _, c5, b5, s1l, s2l, _⟩ := asks l b o c kind place w hr hb hc h64 hm h32
  have hs : sumFits l ↔ num (PureCrc.cut l (l.length - 4) 4) = crc (l.take (l.length - 4)) := by unfold sumFits; rw [drop_cut4 (by omega)]
  obtain ⟨s1, hs1⟩ : ∃ s1, s1 = num (PureCrc.cut l (l.length - 4) 4) := ⟨_, rfl⟩
  obtain ⟨s2, hs2⟩ : ∃ s2, s2 = crc (l.take (l.length - 4)) := ⟨_, rfl⟩
  obtain ⟨p8, hp8⟩ : ∃ p8, p8 = num (PureCrc.cut l 8 8) := ⟨_, rfl⟩
  obtain ⟨x5, hx5⟩ : ∃ x5, x5 = l.getD 5 0 := ⟨_, rfl⟩
  rw [← hs1] at HG hs s1l
  rw [← hs2] at HS hs s2l
  rw [← hp8] at H8
  rw [← hx5] at c5 b5
  have hfn : fitN (l.length : Int) = ((l.length / 32 - 1 : Nat) : Int) := by unfold fitN; rw [if_pos (by omega)]; omega
  rw [hfn] at HF
  obtain ⟨f, hf⟩ : ∃ f, f = l.length / 32 - 1 := ⟨_, rfl⟩
  rw [← hf] at HF
  have hf0 : ¬ (f : Int) = 0 := by omega
  have hf1 : ((f : Int) == 0) = false := by simpa using hf0
  have k1 : ¬ (kind : Int) < 1 := by omega
  have k2 : ¬ (kind : Int) > 255 := by omega
  have k3 : ¬ (place : Int) < 0 := by omega
  have HF := hid HF
  have HS := hid HS
  have HG := hid HG
  have HH := hid HH
  have H8 := hid H8
  unfold DecE at he
  rw [← hp8, ← hx5] at he
  have hl4 : ((l.length : Int) - 4).toNat = l.length - 4 := by omega
  have hl5 : l.length - (l.length - 4) = 4 := by omega
  clear hs1 hs2 hp8 hx5 hfn hf hr hb
  rcases he with ⟨h1, rfl⟩ | ⟨h1, h2, rfl⟩ | ⟨h1, h2, h3, rfl⟩
  · rw [hs] at h1
    have q2 : ¬ (s1 : Int) = (s2 : Int) := by omega
    have q1 : ((s1 : Int) != (s2 : Int)) = true := by simpa using q2
    clear hs
    go_enter Try.func20, Try.ntmps20
    go_wp2_with (first
      | (go_at_call 39; with_reducible refine HG.out.mono ?_; rintro e w3 ⟨rfl, hh⟩; have hh := hh.symm; subst hh)
      | (go_at_call 22; with_reducible refine HS.out.mono ?_; rintro e w3 ⟨rfl, hh⟩; have hh := hh.symm; subst hh)
      | (go_at_call 17; with_reducible refine (HF.out _).mono ?_; rintro e w3 ⟨rfl, hh⟩; have hh := hh.symm; subst hh))
    go_ret2
    exact ⟨rfl, rfl⟩
  · have e12 : s1 = s2 := hs.1 h1
    subst e12
    have H2 := hid h2
    clear hs h1 h2
    go_enter Try.func20, Try.ntmps20
    go_wp2_with (first
      | (go_at_call 39; with_reducible refine HG.out.mono ?_; rintro e w3 ⟨rfl, hh⟩; have hh := hh.symm; subst hh)
      | (go_at_call 22; with_reducible refine HS.out.mono ?_; rintro e w3 ⟨rfl, hh⟩; have hh := hh.symm; subst hh)
      | (go_at_call 17; with_reducible refine (HF.out _).mono ?_; rintro e w3 ⟨rfl, hh⟩; have hh := hh.symm; subst hh))
    refine HH.out.mono ?_
    rintro e w6 ⟨⟨t, rfl, ht⟩, hh⟩
    have hh := hh.symm
    subst hh
    have ht2 : t = false := Bool.eq_false_iff.2 (fun h => H2.out (ht.1 h))
    subst ht2
    clear ht
    go_wp2_with fail
    go_ret2
    exact ⟨rfl, rfl⟩
  · have e12 : s1 = s2 := hs.1 h1
    subst e12
    have H2 := hid h2
    clear hs h1 h2
    by_cases hk : x5 = kind
    · subst hk
      have hne : ¬ (p8 : Int) = (place : Int) := fun e => h3 ⟨rfl, by omega⟩
      have q1 : ((p8 : Int) != (place : Int)) = true := by simpa using hne
      clear h3
      go_enter Try.func20, Try.ntmps20
      go_wp2_with (first
        | (go_at_call 39; with_reducible refine H8.out.mono ?_; rintro e w3 ⟨rfl, hh⟩; have hh := hh.symm; subst hh)
        | (go_at_call 40; with_reducible refine HH.out.mono ?_; rintro e w6 ⟨⟨t, rfl, ht⟩, hh⟩; have hh := hh.symm; subst hh; have ht2 : t = true := ht.2 H2.out; subst ht2; clear ht)
        | (go_at_call 39; with_reducible refine HG.out.mono ?_; rintro e w3 ⟨rfl, hh⟩; have hh := hh.symm; subst hh)
        | (go_at_call 22; with_reducible refine HS.out.mono ?_; rintro e w3 ⟨rfl, hh⟩; have hh := hh.symm; subst hh)
        | (go_at_call 17; with_reducible refine (HF.out _).mono ?_; rintro e w3 ⟨rfl, hh⟩; have hh := hh.symm; subst hh))
      go_ret2
      exact ⟨rfl, rfl⟩
    · have hne : ¬ (x5 : Int) = (kind : Int) := by omega
      have q1 : ((x5 : Int) != (kind : Int)) = true := by simpa using hne
      clear h3
      go_enter Try.func20, Try.ntmps20
      go_wp2_with (first
        | (go_at_call 40; with_reducible refine HH.out.mono ?_; rintro e w6 ⟨⟨t, rfl, ht⟩, hh⟩; have hh := hh.symm; subst hh; have ht2 : t = true := ht.2 H2.out; subst ht2; clear ht)
        | (go_at_call 39; with_reducible refine HG.out.mono ?_; rintro e w3 ⟨rfl, hh⟩; have hh := hh.symm; subst hh)
        | (go_at_call 22; with_reducible refine HS.out.mono ?_; rintro e w3 ⟨rfl, hh⟩; have hh := hh.symm; subst hh)
        | (go_at_call 17; with_reducible refine (HF.out _).mono ?_; rintro e w3 ⟨rfl, hh⟩; have hh := hh.symm; subst hh))
      go_ret2
      exact ⟨rfl, rfl⟩
end Go.Proofs.Ytfodpeiecmbojaa
