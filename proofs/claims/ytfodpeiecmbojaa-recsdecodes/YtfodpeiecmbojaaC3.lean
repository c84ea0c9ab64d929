/-
  Encode's refusals; Decode.
-/
import Derived.Test.YtfodpeiecmbojaaC2
namespace Go.Proofs.Ytfodpeiecmbojaa
open Go.RowKit Go.Deep PureCrc

set_option maxRecDepth 100000 in
set_option maxHeartbeats 1000000 in
theorem encode_arg (kind place N : Int) (n rc : Nat) (sa : Option Addr) (w : World) (h : ¬ (mayN kind place N ∧ n ≠ 0)) :
    Calls Try.prog 8 #[.int .i64 kind, .int .i64 place, .slice sa n rc, .int .i64 N] w fun e w' => e = .returned (.tuple #[.slice none 0 0, .int .i64 1]) ∧ w' = w := by
  have HM := hid (fun W => may_any kind place N W)
  by_cases hm : mayN kind place N
  · have hn : n = 0 := by
      apply Classical.byContradiction
      intro e
      exact h ⟨hm, e⟩
    subst hn
    rw [decide_eq_true hm] at HM
    clear hm h
    go_enter Try.func8, Try.ntmps8
    go_wp2_with (first | (go_at_call 25; refine (HM.out _).mono ?_; rintro e w3 ⟨rfl, rfl⟩))
    go_ret2
    exact ⟨rfl, rfl⟩
  · rw [decide_eq_false hm] at HM
    clear hm h
    go_enter Try.func8, Try.ntmps8
    go_wp2_with (first | (go_at_call 25; refine (HM.out _).mono ?_; rintro e w3 ⟨rfl, rfl⟩))
    go_ret2
    exact ⟨rfl, rfl⟩

set_option maxRecDepth 100000 in
set_option maxHeartbeats 1000000 in
theorem encode_many (kind place N : Int) (n rc : Nat) (sa : Option Addr) (w : World) (h : mayN kind place N) (hf : fitN N < (n : Int)) :
    Calls Try.prog 8 #[.int .i64 kind, .int .i64 place, .slice sa n rc, .int .i64 N] w fun e w' => e = .returned (.tuple #[.slice none 0 0, .int .i64 8]) ∧ w' = w := by
  have HM := hid (fun W => may_any kind place N W)
  have HF := hid (fun W => fit_any N W)
  rw [decide_eq_true h] at HM
  have hn0' : ¬ (n : Int) = 0 := by omega
  have hn0 : ((n : Int) == 0) = false := by simpa using hn0'
  obtain ⟨f, hfd⟩ : ∃ f, f = fitN N := ⟨_, rfl⟩
  rw [← hfd] at hf HF
  clear h hfd
  go_enter Try.func8, Try.ntmps8
  go_wp2_with (first
    | (go_at_call 12; refine (HF.out _).mono ?_; rintro e w3 ⟨rfl, hh⟩; have hh := hh.symm; subst hh)
    | (go_at_call 25; refine (HM.out _).mono ?_; rintro e w3 ⟨rfl, hh⟩; have hh := hh.symm; subst hh))
  go_ret2
  exact ⟨rfl, rfl⟩

set_option maxRecDepth 100000 in
set_option maxHeartbeats 1000000 in
theorem decode_arg (kind place : Int) (n c : Nat) (sa : Option Addr) (w : World) (h : ¬ mayN kind place (n : Int)) :
    Calls Try.prog 9 #[.int .i64 kind, .int .i64 place, .slice sa n c] w fun e w' => e = .returned (.tuple #[.slice none 0 0, .int .i64 1]) ∧ w' = w := by
  have HM := hid (fun W => may_any kind place (n : Int) W)
  rw [decide_eq_false h] at HM
  clear h
  go_enter Try.func9, Try.ntmps9
  go_wp2_with (first | (go_at_call 25; refine (HM.out _).mono ?_; rintro e w3 ⟨rfl, rfl⟩))
  go_ret2
  exact ⟨rfl, rfl⟩

/-- what Decode answers of bytes whose length may be. -/
def DecE (kind place : Nat) (l : List Nat) (e : Nat) : Prop :=
  (¬ sumFits l ∧ e = 30) ∨ (sumFits l ∧ ¬ Formed l ∧ e = 31) ∨ (sumFits l ∧ Formed l ∧ ¬ (l.getD 5 0 = kind ∧ num (PureCrc.cut l 8 8) = place) ∧ e = 32)

theorem drop_cut4 {l : List Nat} (h : 4 ≤ l.length) : l.drop (l.length - 4) = PureCrc.cut l (l.length - 4) 4 := by
  unfold PureCrc.cut
  rw [List.take_of_length_le]
  rw [List.length_drop]; omega

set_option maxRecDepth 100000 in
set_option maxHeartbeats 2000000 in
theorem decode_bad (kind place : Nat) (l : List Nat) (b o c : Nat) (w : World) (hr : Rd w b o l) (hbw : b < w.heap.size) (hb : ∀ x ∈ l, x < 256) (hc : l.length ≤ c)
    (h64 : 64 ≤ l.length) (hm : l.length ≤ 65536) (h32 : l.length % 32 = 0) (hk1 : 1 ≤ kind) (hk2 : kind ≤ 255) (hp : place < 9223372036854775808) (er : Nat) (he : DecE kind place l er) :
    Calls Try.prog 9 #[.int .i64 (kind : Int), .int .i64 (place : Int), .slice (some ⟨b, o, none⟩) l.length c] w fun e w' => e = .returned (.tuple #[.slice none 0 0, .int .i64 (er : Int)]) ∧ Touch [] w w' := by
  have HM := hid (fun W => may_any (kind : Int) (place : Int) (l.length : Int) W)
  have hmay : decide (mayN (kind : Int) (place : Int) (l.length : Int)) = true := by
    apply decide_eq_true
    unfold mayN fitN
    rw [if_pos (by omega)]
    omega
  rw [hmay] at HM
  have HSO := hid (sumOf_any b o l.length c w (by omega) hc (by omega))
  have HSD := hid (summed_any b o l.length c w (by omega) hc (by omega))
  have HG := get_any (PureCrc.cut l (l.length - 4) 4) (by rw [cut_length (by omega)]; omega) (cut_lt hb) b (o + (l.length - 4)) (c - (l.length - 4)) w (hr.cut (by omega))
  rw [cut_length (by omega)] at HG
  have HG := hid HG
  have rt : Rd w b o (l.take (l.length - 4)) := by
    have := hr.cut (a := 0) (n := l.length - 4) (by omega)
    simpa [PureCrc.cut] using this
  have HS := sum_any (l.take (l.length - 4)) b o c w rt hbw (fun x hx => hb x (List.mem_of_mem_take hx)) (by rw [List.length_take]; omega)
  rw [show (l.take (l.length - 4)).length = l.length - 4 by rw [List.length_take]; omega] at HS
  have HS := hid HS
  have hs : sumFits l ↔ num (PureCrc.cut l (l.length - 4) 4) = crc (l.take (l.length - 4)) := by unfold sumFits; rw [drop_cut4 (by omega)]
  have s1l : num (PureCrc.cut l (l.length - 4) 4) < 4294967296 := by
    have := num_lt (l := PureCrc.cut l (l.length - 4) 4) (cut_lt hb)
    rw [cut_length (by omega)] at this
    exact this
  have s2l : crc (l.take (l.length - 4)) < 4294967296 := crc_lt fun x hx => hb x (List.mem_of_mem_take hx)
  obtain ⟨s1, hs1⟩ : ∃ s1, s1 = num (PureCrc.cut l (l.length - 4) 4) := ⟨_, rfl⟩
  obtain ⟨s2, hs2⟩ : ∃ s2, s2 = crc (l.take (l.length - 4)) := ⟨_, rfl⟩
  rw [← hs1] at HG hs s1l
  rw [← hs2] at HS hs s2l
  have HF := hid (fun (W : World) (h : Rd W b o l) => formed_any l b o c W h hb h64 hc hm h32)
  have HPL := hid (fun (W : World) (h : Rd W b o l) => placeOf_any l b o c W h hb (by omega) hc)
  have HR := hid hr
  have HRT : Hid (∀ W, Touch [] w W → Rd W b o l) := fun W h => hr.touch h hbw (by simp)
  have HB5 := hid (hb _ (List.getElem_mem (show 5 < l.length by omega)))
  clear hs1 hs2 rt hb hmay hr
  rcases he with ⟨h1, rfl⟩ | ⟨h1, h2, rfl⟩ | ⟨h1, h2, h3, rfl⟩
  · rw [hs] at h1
    have q1 : ((s1 : Int) != (s2 : Int)) = true := by
      have : ¬ (s1 : Int) = (s2 : Int) := by omega
      simpa using this
    have q2 : ¬ (s1 : Int) = (s2 : Int) := by omega
    clear hs
    go_enter Try.func9, Try.ntmps9
    go_wp2_with (first
      | (go_at_call 21; refine HS.out.mono ?_; rintro e w5 ⟨rfl, gt⟩; have GT := hid gt; clear gt)
      | (go_at_call 30; refine HSD.out.mono ?_; rintro e w3 ⟨rfl, hh⟩; have hh := hh.symm; subst hh)
      | (go_at_call 31; refine HG.out.mono ?_; rintro e w3 ⟨rfl, hh⟩; have hh := hh.symm; subst hh)
      | (go_at_call 29; refine HSO.out.mono ?_; rintro e w3 ⟨rfl, hh⟩; have hh := hh.symm; subst hh)
      | (go_at_call 25; refine (HM.out _).mono ?_; rintro e w3 ⟨rfl, hh⟩; have hh := hh.symm; subst hh))
    go_ret2
    exact ⟨rfl, GT.out⟩
  · have e12 : s1 = s2 := hs.1 h1
    subst e12
    clear hs h1
    have H2 := hid h2
    clear h2
    go_enter Try.func9, Try.ntmps9
    go_wp2_with (first
      | (go_at_call 32; refine (HF.out _ (HRT.out _ GT.out)).mono ?_; rintro e w6 ⟨⟨t, rfl, ht⟩, hh⟩; have hh := hh.symm; subst hh; have ht2 : t = false := Bool.eq_false_iff.2 (fun h => H2.out (ht.1 h)); subst ht2; clear ht)
      | (go_at_call 21; refine HS.out.mono ?_; rintro e w5 ⟨rfl, gt⟩; have GT := hid gt; clear gt)
      | (go_at_call 30; refine HSD.out.mono ?_; rintro e w3 ⟨rfl, hh⟩; have hh := hh.symm; subst hh)
      | (go_at_call 31; refine HG.out.mono ?_; rintro e w3 ⟨rfl, hh⟩; have hh := hh.symm; subst hh)
      | (go_at_call 29; refine HSO.out.mono ?_; rintro e w3 ⟨rfl, hh⟩; have hh := hh.symm; subst hh)
      | (go_at_call 25; refine (HM.out _).mono ?_; rintro e w3 ⟨rfl, hh⟩; have hh := hh.symm; subst hh))
    go_ret2
    exact ⟨rfl, GT.out⟩
  · have e12 : s1 = s2 := hs.1 h1
    subst e12
    clear hs h1
    have H2 := hid h2
    have hb5 := HB5.out
    rw [getD_eq (by omega)] at h3
    obtain ⟨x5, hx5⟩ : ∃ x, x = l[5]'(by omega) := ⟨_, rfl⟩
    have HC5 : Hid (∀ W, Rd W b o l → W.cell? ⟨b, o + 5, none⟩ = some (.int .u8 (x5 : Int))) := fun W h => by rw [hx5]; exact h 5 (by omega)
    rw [← hx5] at h3 hb5
    obtain ⟨p8, hp8⟩ : ∃ x, x = num (PureCrc.cut l 8 8) := ⟨_, rfl⟩
    rw [← hp8] at h3 HPL
    clear h2 hx5 hp8 HB5
    by_cases hk : x5 = kind
    · subst hk
      have hne : ¬ (p8 : Int) = (place : Int) := by
        intro e
        exact h3 ⟨rfl, by omega⟩
      have q1 : ((p8 : Int) != (place : Int)) = true := by simpa using hne
      clear h3
      go_enter Try.func9, Try.ntmps9
      go_wp2_with (first
        | (go_at_call 33; refine (HPL.out _ (HRT.out _ GT.out)).mono ?_; rintro e w7 ⟨rfl, hh⟩; have hh := hh.symm; subst hh)
        | (go_at_call 32; refine (HF.out _ (HRT.out _ GT.out)).mono ?_; rintro e w6 ⟨⟨t, rfl, ht⟩, hh⟩; have hh := hh.symm; subst hh; have ht2 : t = true := ht.2 H2.out; subst ht2; clear ht)
        | (go_at_call 21; refine HS.out.mono ?_; rintro e w5 ⟨rfl, gt⟩; have GT := hid gt; have c5 := HC5.out w5 (HRT.out _ gt); clear gt)
        | (go_at_call 30; refine HSD.out.mono ?_; rintro e w3 ⟨rfl, hh⟩; have hh := hh.symm; subst hh)
        | (go_at_call 31; refine HG.out.mono ?_; rintro e w3 ⟨rfl, hh⟩; have hh := hh.symm; subst hh)
        | (go_at_call 29; refine HSO.out.mono ?_; rintro e w3 ⟨rfl, hh⟩; have hh := hh.symm; subst hh)
        | (go_at_call 25; refine (HM.out _).mono ?_; rintro e w3 ⟨rfl, hh⟩; have hh := hh.symm; subst hh))
      go_ret2
      exact ⟨rfl, GT.out⟩
    · have hne : ¬ (x5 : Int) = (kind : Int) := by omega
      have q1 : ((x5 : Int) != (kind : Int)) = true := by simpa using hne
      clear h3
      go_enter Try.func9, Try.ntmps9
      go_wp2_with (first
        | (go_at_call 32; refine (HF.out _ (HRT.out _ GT.out)).mono ?_; rintro e w6 ⟨⟨t, rfl, ht⟩, hh⟩; have hh := hh.symm; subst hh; have ht2 : t = true := ht.2 H2.out; subst ht2; clear ht)
        | (go_at_call 21; refine HS.out.mono ?_; rintro e w5 ⟨rfl, gt⟩; have GT := hid gt; have c5 := HC5.out w5 (HRT.out _ gt); clear gt)
        | (go_at_call 30; refine HSD.out.mono ?_; rintro e w3 ⟨rfl, hh⟩; have hh := hh.symm; subst hh)
        | (go_at_call 31; refine HG.out.mono ?_; rintro e w3 ⟨rfl, hh⟩; have hh := hh.symm; subst hh)
        | (go_at_call 29; refine HSO.out.mono ?_; rintro e w3 ⟨rfl, hh⟩; have hh := hh.symm; subst hh)
        | (go_at_call 25; refine (HM.out _).mono ?_; rintro e w3 ⟨rfl, hh⟩; have hh := hh.symm; subst hh))
      go_ret2
      exact ⟨rfl, GT.out⟩
end Go.Proofs.Ytfodpeiecmbojaa
