/-
  summed, sumOf, countOf, placeOf, wellFormed.
-/
import Derived.Test.YtfodpeiecmbojaaA3
import Derived.Laws.BytesArg
namespace Go.Proofs.Ytfodpeiecmbojaa
open Go.RowKit Go.Deep PureCrc

set_option maxHeartbeats 400000 in
theorem summed_any (b o n c : Nat) (w : World) (h4 : 4 ≤ n) (hc : n ≤ c) (hn : n ≤ 1099511627776) :
    Calls Try.prog 30 #[.slice (some ⟨b, o, none⟩) n c] w fun e w' => e = .returned (.slice (some ⟨b, o, none⟩) (n - 4) c) ∧ w' = w := by
  have e1 : ((n : Int) - 4).toNat = n - 4 := by omega
  go_enter Try.func30, Try.ntmps30
  go_wp2
  go_ret
  exact ⟨rfl, rfl⟩

set_option maxHeartbeats 400000 in
theorem sumOf_any (b o n c : Nat) (w : World) (h4 : 4 ≤ n) (hc : n ≤ c) (hn : n ≤ 1099511627776) :
    Calls Try.prog 29 #[.slice (some ⟨b, o, none⟩) n c] w fun e w' => e = .returned (.slice (some ⟨b, o + (n - 4), none⟩) 4 (c - (n - 4))) ∧ w' = w := by
  have e1 : ((n : Int) - 4).toNat = n - 4 := by omega
  have e2 : n - (n - 4) = 4 := by omega
  go_enter Try.func29, Try.ntmps29
  go_wp2
  go_ret
  exact ⟨rfl, rfl⟩

set_option maxHeartbeats 400000 in
theorem countOf_any (l : List Nat) (b o c : Nat) (w : World) (hr : Rd w b o l) (hb : ∀ x ∈ l, x < 256) (h8 : 8 ≤ l.length) (hc : l.length ≤ c) :
    Calls Try.prog 34 #[.slice (some ⟨b, o, none⟩) l.length c] w fun e w' => e = .returned (.int .i64 (count l : Int)) ∧ w' = w := by
  have hg := get_any (cut l 6 2) (by rw [cut_length (by omega)]; omega) (cut_lt hb) b (o + 6) (c - 6) w (hr.cut (by omega))
  rw [cut_length (by omega)] at hg
  have HG := hid hg
  have hlt : count l < 65536 := by
    have := num_lt (l := cut l 6 2) (cut_lt hb)
    rw [cut_length (by omega)] at this
    exact this
  obtain ⟨n, hn⟩ : ∃ n, n = count l := ⟨_, rfl⟩
  rw [← hn] at hlt ⊢
  have HN : Hid (num (cut l 6 2) = n) := hn.symm
  rw [HN.out] at HG
  clear hg hn hr hb
  go_enter Try.func34, Try.ntmps34
  go_wp2_with (first | (go_at_call 31; refine HG.out.mono ?_; rintro e w3 ⟨rfl, rfl⟩))
  go_ret
  exact ⟨rfl, rfl⟩

set_option maxHeartbeats 400000 in
theorem placeOf_any (l : List Nat) (b o c : Nat) (w : World) (hr : Rd w b o l) (hb : ∀ x ∈ l, x < 256) (h8 : 16 ≤ l.length) (hc : l.length ≤ c) :
    Calls Try.prog 33 #[.slice (some ⟨b, o, none⟩) l.length c] w fun e w' => e = .returned (.int .u64 (num (cut l 8 8) : Int)) ∧ w' = w := by
  have hg := get_any (cut l 8 8) (by rw [cut_length (by omega)]; omega) (cut_lt hb) b (o + 8) (c - 8) w (hr.cut (by omega))
  rw [cut_length (by omega)] at hg
  have HG := hid hg
  clear hg hr hb
  go_enter Try.func33, Try.ntmps33
  go_wp2_with (first | (go_at_call 31; refine HG.out.mono ?_; rintro e w3 ⟨rfl, rfl⟩))
  go_ret
  exact ⟨rfl, rfl⟩

/-- bytes as a string. -/
def strOf (l : List Nat) : ByteArray := strOfNums (l.map fun x : Nat => (x : Int))
theorem conv_any {l : List Nat} {b o : Nat} (c : Nat) {w : World} (hr : Rd w b o l) :
    (convert 22 9 (.slice (some ⟨b, o, none⟩) l.length c)).run Try.prog w = .ok (.string (strOf l)) w := by
  refine run_convert_bytes_arg (P := Try.prog) w 22 5 Try.underlying22 Try.underlying5 b o l.length c (l.map fun x : Nat => (x : Int)) (by simp) (fun i hi => ?_) 9 Try.underlying9
  rw [hr i hi]
  simp [List.getD, List.getElem?_eq_getElem hi]
theorem strOf_inj {l m : List Nat} (hl : ∀ x ∈ l, x < 256) (hm : ∀ x ∈ m, x < 256) (h : strOf l = strOf m) : l = m := by
  have h1 := congrArg (fun s : ByteArray => s.data.toList) h
  simp only [strOf, strOfNums_data, List.map_map] at h1
  have h2 := congrArg (List.map fun x : UInt8 => x.toNat) h1
  rw [List.map_map, List.map_map] at h2
  have key : ∀ k : List Nat, (∀ x ∈ k, x < 256) → k.map ((fun x : UInt8 => x.toNat) ∘ ((fun n : Int => UInt8.ofNat n.toNat) ∘ fun x : Nat => (x : Int))) = k := fun k hk => by
    conv => rhs; rw [← List.map_id k]
    apply List.map_congr_left
    intro x hx
    have := hk x hx
    simp
    omega
  rw [key l hl, key m hm] at h2
  exact h2
theorem magic_str : (⟨#[83, 84, 82, 65]⟩ : ByteArray) = strOf [83, 84, 82, 65] := rfl

def zB (m : List Nat) : Bool := decide (∀ x ∈ m, x = 0)
theorem zB_iff {m : List Nat} : zB m = true ↔ ∀ x ∈ m, x = 0 := by unfold zB; exact decide_eq_true_iff

theorem getD_eq {l : List Nat} {i : Nat} (h : i < l.length) : l.getD i 0 = l[i] := by simp [List.getD, List.getElem?_eq_getElem h]

set_option maxRecDepth 100000 in
set_option maxHeartbeats 1000000 in
theorem formed_any (l : List Nat) (b o c : Nat) (w : World) (hr : Rd w b o l) (hb : ∀ x ∈ l, x < 256) (h64 : 64 ≤ l.length) (hc : l.length ≤ c) (hm : l.length ≤ 65536) (h32 : l.length % 32 = 0) :
    Calls Try.prog 32 #[.slice (some ⟨b, o, none⟩) l.length c] w fun e w' => (∃ t, e = .returned (.bool t) ∧ (t = true ↔ Formed l)) ∧ w' = w := by
  have r4 : Rd w b o (l.take 4) := by
    have := hr.cut (a := 0) (n := 4) (by omega)
    simpa [PureCrc.cut] using this
  have hcv := conv_any c r4
  rw [show (l.take 4).length = 4 by rw [List.length_take]; omega] at hcv
  have c4 := hr 4 (by omega)
  have c5 := hr 5 (by omega)
  have b4 := hb _ (List.getElem_mem (show 4 < l.length by omega))
  have b5 := hb _ (List.getElem_mem (show 5 < l.length by omega))
  have HF := hid (fun W => fit_any (l.length : Int) W)
  have HN := hid (countOf_any l b o c w hr hb (by omega) hc)
  have HD := hid (summed_any b o l.length c w (by omega) hc (by omega))
  have hfn : fitN (l.length : Int) = ((l.length / 32 - 1 : Nat) : Int) := by unfold fitN; rw [if_pos (by omega)]; omega
  rw [hfn] at HF
  clear hfn
  have HG : Hid (Calls Try.prog 44 #[.slice (some ⟨b, o + 16, none⟩) 12 (c - 16)] w fun e w' => e = .returned (.bool (zB (PureCrc.cut l 16 12))) ∧ w' = w) := by
    have := allZero_any (PureCrc.cut l 16 12) b (o + 16) (c - 16) w (hr.cut (by omega)) (by rw [cut_length (by omega)]; omega)
    rwa [cut_length (by omega)] at this
  by_cases hmag : l.take 4 = [83, 84, 82, 65]
  · rw [hmag] at hcv
    have hcv' : (convert 22 9 (.slice (some ⟨b, o, none⟩) 4 c)).run Try.prog w = .ok (.string ⟨#[83, 84, 82, 65]⟩) w := hcv
    clear hcv r4
    by_cases hv : l[4] = 1
    · rw [hv] at c4 b4
      by_cases hk : l[5] = 0
      · rw [hk] at c5 b5
        have hF : ¬ Formed l := fun h => h.kind (by rw [getD_eq (by omega)]; exact hk)
        clear hmag hv hk
        go_enter Try.func32, Try.ntmps32
        go_wp2_with fail
        go_ret
        exact ⟨⟨false, rfl, by simp [hF]⟩, rfl⟩
      · obtain ⟨x5, hx5⟩ : ∃ x5, x5 = l[5] := ⟨_, rfl⟩
        rw [← hx5] at c5 b5 hk
        have hk' : ¬ ((x5 : Nat) : Int) = 0 := by omega
        have q1 : ((x5 : Int) == 0) = false := by simpa using hk'
        obtain ⟨n, hn⟩ : ∃ n, n = count l := ⟨_, rfl⟩
        rw [← hn] at HN
        by_cases h1 : 1 ≤ n ∧ n ≤ l.length / 32 - 1
        · have HR : Hid (Calls Try.prog 44 #[.slice (some ⟨b, o + (28 + n * 32), none⟩) (l.length - 4 - (28 + n * 32)) (c - (28 + n * 32))] w fun e w' => e = .returned (.bool (zB (PureCrc.cut l (28 + n * 32) (l.length - 4 - (28 + n * 32))))) ∧ w' = w) := by
            have hcl : (PureCrc.cut l (28 + n * 32) (l.length - 4 - (28 + n * 32))).length = l.length - 4 - (28 + n * 32) := cut_length (by omega)
            have := allZero_any (PureCrc.cut l (28 + n * 32) (l.length - 4 - (28 + n * 32))) b (o + (28 + n * 32)) (c - (28 + n * 32)) w (hr.cut (by omega)) (by rw [hcl]; omega)
            rw [hcl] at this
            exact this
          have hdt : (l.take (l.length - 4)).drop (28 + n * 32) = PureCrc.cut l (28 + n * 32) (l.length - 4 - (28 + n * 32)) := List.drop_take
          have HI : Hid (Formed l ↔ ((∀ x ∈ PureCrc.cut l 16 12, x = 0) ∧ ∀ x ∈ PureCrc.cut l (28 + n * 32) (l.length - 4 - (28 + n * 32)), x = 0)) := by
            show _ ↔ _
            rw [← hdt]
            constructor
            · intro h
              exact ⟨h.gap, by rw [hn]; exact h.rest⟩
            · intro h
              exact ⟨hmag, by rw [getD_eq (by omega)]; exact hv, by rw [getD_eq (by omega), ← hx5]; exact hk, by rw [← hn]; exact h1.1, by rw [← hn]; exact h1.2, h.1, by rw [← hn]; exact h.2⟩
          obtain ⟨g1, g2⟩ := h1
          have HX := hid hn
          have e1 : ((28 + (n : Int) * 32)).toNat = 28 + n * 32 := by omega
          obtain ⟨p1, hp1⟩ : ∃ p1 : Bool, p1 = zB (PureCrc.cut l 16 12) := ⟨_, rfl⟩
          obtain ⟨p2, hp2⟩ : ∃ p2 : Bool, p2 = zB (PureCrc.cut l (28 + n * 32) (l.length - 4 - (28 + n * 32))) := ⟨_, rfl⟩
          rw [← hp1] at HG
          rw [← hp2] at HR
          have HP : Hid ((p1 && p2) = true ↔ Formed l) := by
            show _ ↔ _
            rw [HI.out, hp1, hp2]
            rw [Bool.and_eq_true, zB_iff, zB_iff]
          have HRR := hid hr
          have HBB := hid hb
          clear hn hx5 hmag hv hp1 hp2 HI hr hb hdt
          have q2 : ((n : Int) == 0) = false := by have : ¬ (n : Int) = 0 := by omega
                                                   simpa using this
          cases p1 with
          | false =>
            go_enter Try.func32, Try.ntmps32
            go_wp2_with (first
              | (go_at_call 44; refine HG.out.mono ?_; rintro e w3 ⟨rfl, rfl⟩)
              | (go_at_call 12; refine (HF.out _).mono ?_; rintro e w3 ⟨rfl, rfl⟩)
              | (go_at_call 34; refine HN.out.mono ?_; rintro e w3 ⟨rfl, rfl⟩))
            go_ret
            exact ⟨⟨false, rfl, HP.out⟩, rfl⟩
          | true =>
            go_enter Try.func32, Try.ntmps32
            go_wp2_with (first
              | (go_at_call 44; with_reducible refine HR.out.mono ?_; rintro e w3 ⟨rfl, rfl⟩)
              | (go_at_call 44; with_reducible refine HG.out.mono ?_; rintro e w3 ⟨rfl, rfl⟩)
              | (go_at_call 30; refine HD.out.mono ?_; rintro e w3 ⟨rfl, rfl⟩)
              | (go_at_call 12; refine (HF.out _).mono ?_; rintro e w3 ⟨rfl, rfl⟩)
              | (go_at_call 34; refine HN.out.mono ?_; rintro e w3 ⟨rfl, rfl⟩))
            go_ret
            exact ⟨⟨p2, rfl, HP.out⟩, rfl⟩
        · have HFF : Hid (¬ Formed l) := fun h => h1 ⟨by rw [hn]; exact h.some, by rw [hn]; exact h.many⟩
          clear hn hx5 hmag hv
          by_cases h0 : n = 0
          · subst h0
            clear h1
            go_enter Try.func32, Try.ntmps32
            go_wp2_with (first
              | (go_at_call 12; refine (HF.out _).mono ?_; rintro e w3 ⟨rfl, rfl⟩)
              | (go_at_call 34; refine HN.out.mono ?_; rintro e w3 ⟨rfl, rfl⟩))
            go_ret
            exact ⟨⟨false, rfl, by simp [HFF.out]⟩, rfl⟩
          · have h2 : ((l.length / 32 - 1 : Nat) : Int) < (n : Int) := by omega
            have h3 : ¬ (n : Int) = 0 := by omega
            have q2 : ((n : Int) == 0) = false := by simpa using h3
            clear h1
            obtain ⟨f, hf⟩ : ∃ f, f = l.length / 32 - 1 := ⟨_, rfl⟩
            rw [← hf] at h2 HF
            clear hf
            go_enter Try.func32, Try.ntmps32
            go_wp2_with (first
              | (go_at_call 12; refine (HF.out _).mono ?_; rintro e w3 ⟨rfl, rfl⟩)
              | (go_at_call 34; refine HN.out.mono ?_; rintro e w3 ⟨rfl, rfl⟩))
            go_ret
            exact ⟨⟨false, rfl, by simp [HFF.out]⟩, rfl⟩
    · have HFF : Hid (¬ Formed l) := fun h => hv (by rw [← getD_eq (by omega)]; exact h.version)
      have hv' : ¬ ((l[4] : Nat) : Int) = 1 := by omega
      have q4 : ((l[4] : Int) != 1) = true := by simpa using hv'
      go_enter Try.func32, Try.ntmps32
      go_wp2_with fail
      go_ret
      exact ⟨⟨false, rfl, by simp [HFF.out]⟩, rfl⟩
  · have HFF : Hid (¬ Formed l) := fun h => hmag h.magic
    obtain ⟨S, hS⟩ : ∃ S, S = strOf (l.take 4) := ⟨_, rfl⟩
    rw [← hS] at hcv
    have hne : ¬ S = ⟨#[83, 84, 82, 65]⟩ := fun h => hmag (strOf_inj (fun x hx => hb x (List.mem_of_mem_take hx)) (by decide) (by rw [← hS, h]; exact magic_str))
    have hne2 : (S.toList == [83, 84, 82, 65]) = false := by
      rw [ByteArray.toList_eq]
      apply Bool.eq_false_iff.2
      intro h
      apply hne
      apply ByteArray.ext
      apply Array.toList_inj.1
      simpa using h
    clear hS hmag
    go_enter Try.func32, Try.ntmps32
    go_wp2_with fail
    go_ret
    exact ⟨⟨false, rfl, by simp [HFF.out]⟩, rfl⟩
end Go.Proofs.Ytfodpeiecmbojaa
