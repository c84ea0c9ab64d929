/-
  The document's own: read, head.
-/
import Derived.Test.YtfodpeiecmbojaaG1
namespace Go.Proofs.Ytfodpeiecmbojaa
open Go.RowKit Go.Deep PureCrc

set_option maxRecDepth 100000 in
set_option maxHeartbeats 1000000 in
theorem rread_any (l : List Nat) (hl : l.length ≤ 8) (hb : ∀ x ∈ l, x < 256) (b o c : Nat) (w : World) (hr : Rd w b o l) :
    Calls Try.prog 39 #[.slice (some ⟨b, o, none⟩) l.length c] w fun e w' => e = .returned (.int .u64 (num l : Int)) ∧ w' = w := by
  have HR := hid hr
  have HB := hid hb
  clear hr hb
  go_enter Try.func39, Try.ntmps39
  go_wp2
  go_loopw [3, 4] (fun v i W => ∃ k : Nat, k ≤ l.length ∧ i = .int .i64 ((l.length : Int) - 1 - k) ∧ v = .int .u64 (num (l.drop (l.length - k)) : Int) ∧ W = w) (fun _ i _ => (intOf i + 1).toNat)
  case atStart => exact ⟨0, Nat.zero_le _, by simp, by simp [num], rfl⟩
  case round =>
    obtain ⟨k, hk, rfl, rfl, rfl⟩ := hrel
    by_cases hlt : k < l.length
    · obtain ⟨q, hq⟩ : ∃ q, q = l.length - 1 - k := ⟨_, rfl⟩
      have hql : q < l.length := by omega
      have hc := HR.out q hql
      have hx := HB.out _ (List.getElem_mem hql)
      have hqi : (l.length : Int) - 1 - (k : Int) = (q : Int) := by omega
      have hd : l.drop (l.length - (k + 1)) = l[q] :: l.drop (l.length - k) := by
        have e1 : l.length - (k + 1) = q := by omega
        have e2 : l.length - k = q + 1 := by omega
        rw [e1, e2]
        exact List.drop_eq_getElem_cons hql
      have hnl := num_lt (l := l.drop (l.length - k)) fun x hx => HB.out x (List.mem_of_mem_drop hx)
      have hnk : (l.drop (l.length - k)).length = k := by rw [List.length_drop]; omega
      rw [hnk] at hnl
      have hp7 : 256 ^ k ≤ 256 ^ 7 := Nat.pow_le_pow_right (by decide) (by omega)
      have hp8 : (256 : Nat) ^ 7 = 72057594037927936 := by decide
      have HN : Hid (num (l.drop (l.length - (k + 1))) = l[q] + 256 * num (l.drop (l.length - k))) := by show _ = _; rw [hd]; rfl
      obtain ⟨v, hv⟩ : ∃ v, v = num (l.drop (l.length - k)) := ⟨_, rfl⟩
      obtain ⟨x, hxd⟩ : ∃ x, x = l[q] := ⟨_, rfl⟩
      rw [← hv, ← hxd] at HN
      rw [← hv] at hnl ⊢
      rw [← hxd] at hc hx
      have hvl : v < 72057594037927936 := by omega
      rw [hqi]
      have HQ := hid hq
      clear hv hxd hd hnl hp7 hp8 hnk hq hqi
      go_wp2
      refine ⟨⟨k + 1, hlt, congrArg (Value.int .i64) (by have := HQ.out; omega), ?_, trivial⟩, by simp [intOf]⟩
      rw [HN.out]
      exact congrArg (Value.int .u64) (by omega)
    · have e : k = l.length := by omega
      subst e
      have hm1 : (l.length : Int) - 1 - (l.length : Int) = -1 := by omega
      rw [hm1, Nat.sub_self, List.drop_zero]
      clear hm1
      go_wp2
      go_ret
      exact ⟨rfl, rfl⟩

theorem magic_num {l : List Nat} (hb : ∀ x ∈ l, x < 256) (h4 : 4 ≤ l.length) : num (PureCrc.cut l 0 4) = 1095914579 ↔ l.take 4 = [83, 84, 82, 65] := by
  have hc : PureCrc.cut l 0 4 = l.take 4 := by simp [PureCrc.cut]
  rw [hc]
  constructor
  · intro h
    have h1 := le_num (l := l.take 4) fun x hx => hb x (List.mem_of_mem_take hx)
    rw [h, show (l.take 4).length = 4 by rw [List.length_take]; omega] at h1
    rw [← h1]
    rfl
  · intro h
    rw [h]
    rfl

theorem all_cut {l : List Nat} {a m : Nat} : (∀ x ∈ PureCrc.cut l a m, x = 0) ↔ ∀ i, a ≤ i → i < a + m → ∀ h : i < l.length, l[i] = 0 := by
  constructor
  · intro h i h1 h2 h3
    refine h _ ?_
    unfold PureCrc.cut
    rw [List.mem_iff_getElem?]
    refine ⟨i - a, ?_⟩
    rw [List.getElem?_take_of_lt (by omega), List.getElem?_drop, show a + (i - a) = i by omega]
    exact List.getElem?_eq_getElem h3
  · intro h x hx
    unfold PureCrc.cut at hx
    obtain ⟨j, hj⟩ := List.mem_iff_getElem?.1 hx
    have hjm : j < m := by
      apply Classical.byContradiction
      intro hge
      rw [List.getElem?_eq_none (by rw [List.length_take]; omega)] at hj
      simp at hj
    rw [List.getElem?_take_of_lt hjm, List.getElem?_drop] at hj
    obtain ⟨h3, rfl⟩ := List.getElem?_eq_some_iff.1 hj
    exact h (a + j) (by omega) (by omega) h3

set_option maxRecDepth 100000 in
set_option maxHeartbeats 2000000 in
theorem rhead_any (l : List Nat) (b o c : Nat) (w : World) (hr : Rd w b o l) (hb : ∀ x ∈ l, x < 256) (h64 : 64 ≤ l.length) (hc : l.length ≤ c) (hm : l.length ≤ 65536) (h32 : l.length % 32 = 0) :
    Calls Try.prog 40 #[.slice (some ⟨b, o, none⟩) l.length c] w fun e w' => (∃ t, e = .returned (.bool t) ∧ (t = true ↔ Formed l)) ∧ w' = w := by
  have C1 := rread_any (PureCrc.cut l 6 2) (by rw [cut_length (by omega)]; omega) (cut_lt hb) b (o + 6) (c - 6) w (hr.cut (by omega))
  rw [cut_length (by omega)] at C1
  have C2 := rread_any (PureCrc.cut l 0 4) (by rw [cut_length (by omega)]; omega) (cut_lt hb) b o c w (by have := hr.cut (a := 0) (n := 4) (by omega); simpa using this)
  rw [cut_length (by omega)] at C2
  have hmag := magic_num hb (by omega)
  have hn2 : num (PureCrc.cut l 6 2) < 65536 := by
    have := num_lt (l := PureCrc.cut l 6 2) (cut_lt hb)
    rw [cut_length (by omega)] at this
    exact this
  have hm4 : num (PureCrc.cut l 0 4) < 4294967296 := by
    have := num_lt (l := PureCrc.cut l 0 4) (cut_lt hb)
    rw [cut_length (by omega)] at this
    exact this
  obtain ⟨n, hn⟩ : ∃ n, n = num (PureCrc.cut l 6 2) := ⟨_, rfl⟩
  obtain ⟨mg, hmg⟩ : ∃ mg, mg = num (PureCrc.cut l 0 4) := ⟨_, rfl⟩
  rw [← hn] at C1 hn2
  rw [← hmg] at C2 hmag hm4
  have hcount : count l = n := hn.symm
  have D1 := hid C1
  have D2 := hid C2
  have c4 := hr 4 (by omega)
  have c5 := hr 5 (by omega)
  have b4 := hb _ (List.getElem_mem (show 4 < l.length by omega))
  have b5 := hb _ (List.getElem_mem (show 5 < l.length by omega))
  have HF := hid (fun W => rfit_any (l.length : Int) W)
  have hfn : fitN (l.length : Int) = ((l.length / 32 - 1 : Nat) : Int) := by unfold fitN; rw [if_pos (by omega)]; omega
  rw [hfn] at HF
  obtain ⟨f, hf⟩ : ∃ f, f = l.length / 32 - 1 := ⟨_, rfl⟩
  rw [← hf] at HF
  obtain ⟨x4, hx4⟩ : ∃ x, x = l[4]'(by omega) := ⟨_, rfl⟩
  obtain ⟨x5, hx5⟩ : ∃ x, x = l[5]'(by omega) := ⟨_, rfl⟩
  rw [← hx4] at c4 b4
  rw [← hx5] at c5 b5
  have HX4 : Hid (l.getD 4 0 = x4) := by show _ = _; rw [getD_eq (by omega), hx4]
  have HX5 : Hid (l.getD 5 0 = x5) := by show _ = _; rw [getD_eq (by omega), hx5]
  have HFF := hid hf
  have HCT := hid hcount
  have HMG := hid hmag
  have HR := hid hr
  clear C1 C2 hn hmg hfn hf hx4 hx5 hcount hmag hr hb
  by_cases g1 : mg = 1095914579
  · subst g1
    by_cases g2 : x4 = 1
    · subst g2
      by_cases g3 : x5 = 0
      · subst g3
        have HNF : Hid (¬ Formed l) := fun h => h.kind HX5.out
        go_enter Try.func40, Try.ntmps40
        go_wp2_with (first
          | (go_at_call 39; with_reducible refine D1.out.mono ?_; rintro e w3 ⟨rfl, hh⟩; have hh := hh.symm; subst hh)
          | (go_at_call 39; with_reducible refine D2.out.mono ?_; rintro e w3 ⟨rfl, hh⟩; have hh := hh.symm; subst hh))
        go_ret
        exact ⟨⟨false, rfl, by simp [HNF.out]⟩, rfl⟩
      · have g3' : ¬ (x5 : Int) = 0 := by omega
        have g3'' : ((x5 : Int) == 0) = false := by simpa using g3'
        by_cases g4 : 1 ≤ n ∧ n ≤ f
        · obtain ⟨g4a, g4b⟩ := g4
          have g4c : ¬ ((n : Int) < 1) := by omega
          have g4d : ¬ ((f : Int) < (n : Int)) := by omega
          have HFM : Hid (Formed l ↔ ((∀ i, 16 ≤ i → i < 28 → ∀ h : i < l.length, l[i] = 0) ∧ (∀ i, 28 + 32 * n ≤ i → i < l.length - 4 → ∀ h : i < l.length, l[i] = 0))) := by
            show _ ↔ _
            have hct := HCT.out
            have hff := HFF.out
            have hdt : (l.take (l.length - 4)).drop (28 + n * 32) = PureCrc.cut l (28 + n * 32) (l.length - 4 - (28 + n * 32)) := List.drop_take
            constructor
            · intro h
              have h7 := h.rest
              rw [hct, hdt] at h7
              exact ⟨fun i i1 i2 i3 => (all_cut.1 h.gap) i i1 (by omega) i3, fun i i1 i2 i3 => (all_cut.1 h7) i (by omega) (by omega) i3⟩
            · intro h
              refine ⟨HMG.out.1 rfl, HX4.out, by rw [HX5.out]; exact g3, by rw [hct]; exact g4a, by rw [hct, ← hff]; exact g4b, all_cut.2 (fun i i1 i2 i3 => h.1 i i1 (by omega) i3), ?_⟩
              rw [hct, hdt]
              exact all_cut.2 (fun i i1 i2 i3 => h.2 i (by omega) (by omega) i3)
          go_enter Try.func40, Try.ntmps40
          go_wp2_with (first
            | (go_at_call 17; with_reducible refine (HF.out _).mono ?_; rintro e w3 ⟨rfl, hh⟩; have hh := hh.symm; subst hh)
            | (go_at_call 39; with_reducible refine D1.out.mono ?_; rintro e w3 ⟨rfl, hh⟩; have hh := hh.symm; subst hh)
            | (go_at_call 39; with_reducible refine D2.out.mono ?_; rintro e w3 ⟨rfl, hh⟩; have hh := hh.symm; subst hh))
          have hnf : 28 + 32 * n ≤ l.length - 4 := by have := HFF.out; omega
          go_loopw [4] (fun i W => ∃ k : Nat, 16 ≤ k ∧ k ≤ 28 ∧ i = .int .i64 k ∧ Hid (∀ i, 16 ≤ i → i < k → ∀ h : i < l.length, l[i] = 0) ∧ W = w) (fun i _ => 28 - (intOf i).toNat)
          case atStart => exact ⟨16, by omega, by omega, rfl, fun i h1 h2 => by omega, rfl⟩
          case round =>
            obtain ⟨k, hk1, hk2, rfl, HZ, hW⟩ := hrel
            subst hW
            by_cases hlt : k < 28
            · have hkl : k < l.length := by omega
              have hc2 := HR.out k hkl
              by_cases hz : l[k] = 0
              · have HZ2 := hid hz
                rw [hz] at hc2
                clear hz
                go_wp2_with fail
                refine ⟨⟨k + 1, by omega, hlt, rfl, fun j h1 h2 h3 => ?_, trivial⟩, by simp [intOf]; omega⟩
                by_cases e : j = k
                · subst e; exact HZ2.out
                · exact HZ.out j h1 (by omega) h3
              · have HNF : Hid (¬ Formed l) := fun h => hz ((HFM.out.1 h).1 k hk1 hlt hkl)
                have hz' : ¬ ((l[k] : Nat) : Int) = 0 := by omega
                go_wp2_with fail
                go_ret
                exact ⟨⟨false, rfl, by simp [HNF.out]⟩, rfl⟩
            · have e : k = 28 := by omega
              subst e
              go_wp2_with fail
              go_loopw [5] (fun i W => ∃ k : Nat, 28 + 32 * n ≤ k ∧ k ≤ l.length - 4 ∧ i = .int .i64 k ∧ Hid (∀ i, 28 + 32 * n ≤ i → i < k → ∀ h : i < l.length, l[i] = 0) ∧ W = wr) (fun i _ => l.length - 4 - (intOf i).toNat)
              case atStart => exact ⟨28 + 32 * n, Nat.le_refl _, hnf, congrArg (Value.int .i64) (by omega), fun i h1 h2 => by omega, rfl⟩
              case round =>
                obtain ⟨k, hk1, hk2, rfl, HZ2, hW⟩ := hrel
                subst hW
                by_cases hlt2 : k < l.length - 4
                · have hkl : k < l.length := by omega
                  have hc2 := HR.out k hkl
                  have hli : (k : Int) < (l.length : Int) - 4 := by omega
                  by_cases hz : l[k] = 0
                  · have HZ3 := hid hz
                    rw [hz] at hc2
                    clear hz
                    go_wp2_with fail
                    refine ⟨⟨k + 1, by omega, hlt2, rfl, fun j h1 h2 h3 => ?_, trivial⟩, by simp [intOf]; omega⟩
                    by_cases e : j = k
                    · subst e; exact HZ3.out
                    · exact HZ2.out j h1 (by omega) h3
                  · have HNF : Hid (¬ Formed l) := fun h => hz ((HFM.out.1 h).2 k hk1 hlt2 hkl)
                    have hz' : ¬ ((l[k] : Nat) : Int) = 0 := by omega
                    go_wp2_with fail
                    go_ret
                    exact ⟨⟨false, rfl, by simp [HNF.out]⟩, rfl⟩
                · have hli : ¬ (k : Int) < (l.length : Int) - 4 := by omega
                  have HYF : Hid (Formed l) := HFM.out.2 ⟨HZ.out, fun i h1 h2 h3 => HZ2.out i h1 (by omega) h3⟩
                  go_wp2_with fail
                  go_ret
                  first | exact ⟨⟨true, rfl, by simp [HYF.out]⟩, rfl⟩ | exact ⟨.inl ⟨rfl, HYF.out⟩, rfl⟩ | exact ⟨.inr ⟨rfl, HYF.out⟩, rfl⟩
        · have HNF : Hid (¬ Formed l) := fun h => g4 ⟨by rw [← HCT.out]; exact h.some, by rw [← HCT.out, HFF.out]; exact h.many⟩
          by_cases g5 : n < 1
          · have g5' : (n : Int) < 1 := by omega
            go_enter Try.func40, Try.ntmps40
            go_wp2_with (first
              | (go_at_call 39; with_reducible refine D1.out.mono ?_; rintro e w3 ⟨rfl, hh⟩; have hh := hh.symm; subst hh)
              | (go_at_call 39; with_reducible refine D2.out.mono ?_; rintro e w3 ⟨rfl, hh⟩; have hh := hh.symm; subst hh))
            go_ret
            exact ⟨⟨false, rfl, by simp [HNF.out]⟩, rfl⟩
          · have g5' : ¬ (n : Int) < 1 := by omega
            have g6 : (f : Int) < (n : Int) := by omega
            clear g4
            go_enter Try.func40, Try.ntmps40
            go_wp2_with (first
              | (go_at_call 17; with_reducible refine (HF.out _).mono ?_; rintro e w3 ⟨rfl, hh⟩; have hh := hh.symm; subst hh)
              | (go_at_call 39; with_reducible refine D1.out.mono ?_; rintro e w3 ⟨rfl, hh⟩; have hh := hh.symm; subst hh)
              | (go_at_call 39; with_reducible refine D2.out.mono ?_; rintro e w3 ⟨rfl, hh⟩; have hh := hh.symm; subst hh))
            go_ret
            exact ⟨⟨false, rfl, by simp [HNF.out]⟩, rfl⟩
    · have HNF : Hid (¬ Formed l) := fun h => g2 (by rw [← HX4.out]; exact h.version)
      have g2' : ¬ (x4 : Int) = 1 := by omega
      have g2'' : ((x4 : Int) != 1) = true := by simpa using g2'
      go_enter Try.func40, Try.ntmps40
      go_wp2_with (first
        | (go_at_call 39; with_reducible refine D1.out.mono ?_; rintro e w3 ⟨rfl, hh⟩; have hh := hh.symm; subst hh)
        | (go_at_call 39; with_reducible refine D2.out.mono ?_; rintro e w3 ⟨rfl, hh⟩; have hh := hh.symm; subst hh))
      go_ret
      exact ⟨⟨false, rfl, by simp [HNF.out]⟩, rfl⟩
  · have HNF : Hid (¬ Formed l) := fun h => g1 (HMG.out.2 h.magic)
    have g1' : ¬ (mg : Int) = 1095914579 := by omega
    have g1'' : ((mg : Int) != 1095914579) = true := by simpa using g1'
    go_enter Try.func40, Try.ntmps40
    go_wp2_with (first
      | (go_at_call 39; with_reducible refine D1.out.mono ?_; rintro e w3 ⟨rfl, hh⟩; have hh := hh.symm; subst hh)
      | (go_at_call 39; with_reducible refine D2.out.mono ?_; rintro e w3 ⟨rfl, hh⟩; have hh := hh.symm; subst hh))
    go_ret
    exact ⟨⟨false, rfl, by simp [HNF.out]⟩, rfl⟩
end Go.Proofs.Ytfodpeiecmbojaa
