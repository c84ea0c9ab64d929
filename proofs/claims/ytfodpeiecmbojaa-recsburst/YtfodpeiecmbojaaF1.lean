/-
  RecsBurst: the walk.
-/
import Derived.Test.YtfodpeiecmbojaaE2
namespace Go.Proofs.Ytfodpeiecmbojaa
open Go.RowKit Go.Deep PureCrc

theorem dec_spoilt (kn pn N : Nat) (hk : kn < 255) (hp : pn < 4611686018427387904) (h64 : 64 ≤ N) (h65 : N ≤ 65536) (h32 : N % 32 = 0) (l : List Nat) (hl : l.length = N) (hb : ∀ x ∈ l, x < 256) (hs : ¬ sumFits l) (g : Nat) (W : World) (h : Row W g l) :
    Calls Try.prog 9 #[.int .i64 (1 + (kn : Int)), .int .i64 (pn : Int), .slice (some ⟨g, 0, none⟩) N N] W fun e w' => e = .returned (.tuple #[.slice none 0 0, .int .i64 30]) ∧ Touch [] W w' := by
  subst hl
  have h := decode_bad (1 + kn) pn l g 0 l.length W h.rd (lt_of_block h) hb (Nat.le_refl _) h64 h65 h32 (by omega) (by omega) (by omega) 30 (.inl ⟨hs, rfl⟩)
  rw [show ((1 + kn : Nat) : Int) = 1 + (kn : Int) by omega] at h
  exact h

set_option maxRecDepth 100000 in
set_option maxHeartbeats 4000000 in
theorem burst_law (kind place wide at_ : Int) (bt : Nat) (sa : Option Addr) (n c : Nat) (ws : List Nat) (w : World) (hk : I64 kind) (hp : I64 place) (hwd : I64 wide) (ha : I64 at_) (hbits : bt < 4294967296)
    (hr : Rs w sa n ws) (hc : n ≤ c) (hlt : ∀ x ∈ ws, x < 18446744073709551616) :
    Calls Try.prog 5 #[pieceV kind place wide sa n c, .int .i64 at_, .int .u32 (bt : Int)] w fun e w' => e = .returned (.bool true) ∧ Touch [] w w' := by
  obtain ⟨kn, k1, C1⟩ := within_nat kind hk 255 (by omega) (by omega)
  obtain ⟨pn, k3, C3⟩ := within_nat place hp 4611686018427387904 (by omega) (by omega)
  obtain ⟨kw, k5, C5⟩ := within_nat wide hwd 2047 (by omega) (by omega)
  obtain ⟨w0, hw0⟩ : ∃ w0, w0 = w.alloc (.cells #[.int .i64 kind, .int .i64 place, .slice sa n c, .int .i64 wide] 34) := ⟨_, rfl⟩
  have rb : w0.heap[w.heap.size]? = some (.cells #[.int .i64 kind, .int .i64 place, .slice sa n c, .int .i64 wide] 34 (0, 0)) := by rw [hw0]; exact heap_alloc_new w _
  have t0 : Touch [] w w0 := by rw [hw0]; exact (Touch.refl [] w).alloc _
  have cb := fun i => cell_row rb i
  have HS := some_any (c := c) (1 + kw) (hr.touch t0 (by simp)) hc hlt (by omega) (by omega)
  rw [show ((1 + kw : Nat) : Int) = 1 + (kw : Int) by omega] at HS
  have HS := hid HS
  have T0 := hid t0
  have HW0 := hid hw0
  have D1 := hid C1
  have D3 := hid C3
  have D5 := hid C5
  obtain ⟨N, hN⟩ : ∃ N, N = 32 * (kw + 2) := ⟨_, rfl⟩
  obtain ⟨s, k6, C6⟩ := within_nat at_ ha (8 * (N : Int)) (by omega) (by omega)
  have D6 := hid C6
  have k1' : kn < 255 := by omega
  have k3' : pn < 4611686018427387904 := by omega
  have k5' : kw < 2047 := by omega
  have k6' : s < 8 * N := by omega
  have hNe : 32 * (1 + (kw : Int) + 1) = (N : Int) := by omega
  have HN := hid hN
  have hN64 : 64 ≤ N := by omega
  have hN65 : N ≤ 65536 := by omega
  have hN32 : N % 32 = 0 := by omega
  have HE := hid (fun (ws : List Nat) (m sb so c : Nat) (W : World) (h : Wd W sb so ws) hl hb hs h1 h2 => enc_at kn pn kw N hN k1' k3' k5' ws m sb so c W h hl hb hs h1 h2)
  have HD := hid (fun (ws : List Nat) (m g : Nat) (W : World) (h : Row W g (enc (1 + kn) pn m ws N)) hl hs h1 h2 => dec_at kn pn kw N hN k1' k3' k5' ws m g W h hl hs h1 h2)
  clear hN C1 C3 C5 C6 hk hp hwd ha hr hc hlt rb t0 hw0
  unfold pieceV
  go_enter Try.func5, Try.ntmps5
  go_wp2_with (first
    | (rw [← HW0.out])
    | (go_at_call 11; refine HS.out.mono ?_; rintro e w1 ⟨sb, so, m, c', ws', hs⟩; obtain ⟨rfl, s1, s2, s3, s4, s5, s6, s7, s8⟩ := hs; have S4 := hid s4; have S5 := hid s5; have S7 := hid s7; have S8 := hid s8; have S6 := hid s6; clear s4 s5 s6 s7 s8)
    | (go_at_call 10; with_reducible refine (D1.out _).mono ?_; rintro e w3 ⟨rfl, hh⟩; have hh := hh.symm; subst hh)
    | (go_at_call 10; with_reducible refine (D3.out _).mono ?_; rintro e w3 ⟨rfl, hh⟩; have hh := hh.symm; subst hh)
    | (go_at_call 10; with_reducible refine (D5.out _).mono ?_; rintro e w3 ⟨rfl, hh⟩; have hh := hh.symm; subst hh))
  have E1 := hid (HE.out ws' m sb so c' w1 S5.out S4.out S6.out S7.out s1 s2)
  with_reducible refine E1.out.mono ?_
  rintro e w2 ⟨g1, rfl, r1, t1, u1⟩
  have tw1 := T0.out.trans S8.out (by simp)
  have hg1 : w.heap.size ≤ g1 := Nat.le_trans tw1.size u1
  have T2 := hid (tw1.trans t1 (by simp))
  have DD := hid (HD.out ws' m g1 w2 r1 S4.out S7.out s1 s2)
  have L2 := hid (show Rs w2 (some ⟨sb, so, none⟩) m ws' from ⟨S4.out, fun _ => ⟨sb, so, rfl, Nat.lt_of_lt_of_le S6.out t1.size, S5.out.touch t1 S6.out (by simp)⟩⟩)
  have R1 := hid r1
  have HG1 := hid hg1
  clear r1 t1 u1 E1 HD HE tw1 hg1
  go_wp2_with (first
    | (go_at_call 9; with_reducible refine DD.out.mono ?_; rintro e w3 ⟨g2, rfl, r2, t2, u2⟩; have R2 := hid r2; have T3 := hid t2; clear r2 t2 u2))
  have tt3 := T3.out
  have SM := hid (same_true m c' (R2.out.rs S4.out) (L2.out.touch tt3 (by simp)) (by omega))
  with_reducible refine SM.out.mono ?_
  rintro e w4 ⟨rfl, q4, hq4⟩
  have t34 : Touch [] w3 w4 := by rw [hq4]; exact (Touch.refl _ _).drewN _
  have T4 := hid ((T2.out.trans tt3 (by simp)).trans t34 (by simp))
  have hel : (enc (1 + kn) pn m ws' N).length = N := enc_length (by have := S4.out; have := HN.out; omega)
  have r4 : Row w4 g1 (enc (1 + kn) pn m ws' N) := by
    have h1 := lt_of_block R1.out
    have h2 := tt3.size
    exact (t34.block _ (by omega) (by simp)).trans ((tt3.block _ h1 (by simp)).trans R1.out)
  have hfit := enc_fits (kind := 1 + kn) (place := pn) (n := m) (ws := ws') (block := N) (by omega) (by have := S4.out; have := HN.out; omega)
  have hb1 := enc_lt (kind := 1 + kn) (place := pn) (n := m) (ws := ws') (block := N) (by omega)
  obtain ⟨l, hl⟩ : ∃ l, l = enc (1 + kn) pn m ws' N := ⟨_, rfl⟩
  rw [← hl] at hel r4 hfit hb1
  have R4 := hid r4
  have HB1 := hid hb1
  have HFIT := hid hfit
  have HEL := hid hel
  clear hq4 t34 tt3 hel r4 hfit hb1 hl DD HS SM L2 R2 R1 D1 D3 D5 cb HW0 T0 T2 T3 S5 S6 S8 S7 S4 k1 k3 k5 HN
  by_cases hz : bt = 0
  · subst hz
    go_wp2_with fail
    go_ret
    exact ⟨rfl, T4.out⟩
  · have hz' : ¬ (bt : Int) = 0 := by omega
    have hz2 : ((bt : Int) == 0) = false := by simpa using hz'
    go_wp2_with (first
      | (go_at_call 10; with_reducible refine (D6.out _).mono ?_; rintro e w3 ⟨rfl, hh⟩; have hh := hh.symm; subst hh))
    go_loopw [15, 16] (fun t i W => ∃ (k : Nat) (l1 : List Nat), k ≤ 32 ∧ i = .int .i64 k ∧ t = .int .i64 (turns s (8 * N) bt k : Int) ∧ Row W g1 l1 ∧ Turned l l1 s bt k ∧ Touch [] w W) (fun _ i _ => 32 - (intOf i).toNat)
    case atStart => exact ⟨0, l, by omega, rfl, rfl, R4.out, Turned.start HB1.out s bt, T4.out⟩
    case round =>
      obtain ⟨k, l1, hk, rfl, rfl, h1, h2, h3⟩ := hrel
      have hel := HEL.out
      have htl := turns_le (s := s) (L := 8 * N) (bits := bt) k
      by_cases hlt : k < 32
      · obtain ⟨q, hq⟩ : ∃ q, q = s + k := ⟨_, rfl⟩
        have hq1 : (s : Int) + (k : Int) = (q : Int) := by omega
        have hbb : bt / 2 ^ k < 4294967296 := Nat.lt_of_le_of_lt (Nat.div_le_self ..) hbits
        have hand : bits .and .u32 ((bt : Int) / 2 ^ k) 1 = ((bt / 2 ^ k % 2 : Nat) : Int) := by
          have := u32_and_nat (bt / 2 ^ k) 1 hbb (by decide)
          rw [nat_mask1] at this
          simpa using this
        obtain ⟨v, hv⟩ : ∃ v, v = bt / 2 ^ k % 2 := ⟨_, rfl⟩
        rw [← hv] at hand
        have hv2 : v < 2 := by rw [hv]; omega
        by_cases h1v : v = 1
        · subst h1v
          by_cases hql : q < 8 * N
          · have hlen1 : l1.length = N := by rw [h2.len, hel]
            have hj : q / 8 < l1.length := by omega
            have hc := h1.rd (q / 8) hj
            rw [Nat.zero_add] at hc
            have hf := unfrozen_row h1 (q / 8)
            have hx := h2.lt _ (List.getElem_mem hj)
            have hone : one s (8 * l.length) bt k := ⟨by rw [← hv], by rw [hel, ← hq]; exact hql⟩
            have HTN := hid (h2.turn hone hj (Nat.mod_lt q (by decide)) (by omega))
            have HRS := hid (h1.set (q / 8) (l1[q / 8] ^^^ 2 ^ (q % 8)))
            obtain ⟨x, hxd⟩ : ∃ x, x = l1[q / 8] := ⟨_, rfl⟩
            rw [← hxd] at hc hx HTN HRS
            have hpw : 2 ^ (q % 8) < 256 := by
              have : 2 ^ (q % 8) < 2 ^ 8 := Nat.pow_lt_pow_right (by decide) (Nat.mod_lt _ (by decide))
              simpa using this
            have HXR := hid (u8_xor_nat x (2 ^ (q % 8)) hx hpw)
            have HTU : Hid (turns s (8 * N) bt (k + 1) = turns s (8 * N) bt k + 1) := by
              show _ = _
              rw [turns, if_pos (by rw [hel] at hone; exact hone)]
            have H3 := hid h3
            clear h1 h2 h3 hv hel hxd hone hq hlen1
            go_wp2_with fail
            have hve : (2 : Int) ^ (q % 8) % 256 = ((2 ^ (q % 8) : Nat) : Int) := by
              have e : ((2 ^ (q % 8) : Nat) : Int) = (2 : Int) ^ (q % 8) := by simp
              rw [← e]
              have hpw' := hpw
              generalize (2 ^ (q % 8) : Nat) = P at hpw' ⊢
              omega
            rw [hve, HXR.out]
            exact ⟨⟨k + 1, l1.set (q / 8) (x ^^^ 2 ^ (q % 8)), hlt, rfl, by rw [HTU.out]; rfl, HRS.out, HTN.out, H3.out.setCell (.inr HG1.out) _⟩, by simp [intOf]; omega⟩
          · have HSK := hid (h2.skip (fun h => by have := h.2; rw [hel] at this; omega))
            have HTU : Hid (turns s (8 * N) bt (k + 1) = turns s (8 * N) bt k) := by
              show _ = _
              rw [turns, if_neg (fun h => by have := h.2; omega), Nat.add_zero]
            have H1 := hid h1
            have H3 := hid h3
            clear h1 h2 h3 hv hel hq
            go_wp2_with fail
            exact ⟨⟨k + 1, l1, hlt, rfl, by rw [HTU.out], H1.out, HSK.out, H3.out⟩, by simp [intOf]; omega⟩
        · have h0v : v = 0 := by omega
          subst h0v
          have HSK := hid (h2.skip (fun h => by have := h.1; omega))
          have HTU : Hid (turns s (8 * N) bt (k + 1) = turns s (8 * N) bt k) := by
            show _ = _
            rw [turns, if_neg (fun h => by have := h.1; omega), Nat.add_zero]
          have H1 := hid h1
          have H3 := hid h3
          clear h1 h2 h3 hv hel hq
          go_wp2_with fail
          exact ⟨⟨k + 1, l1, hlt, rfl, by rw [HTU.out], H1.out, HSK.out, H3.out⟩, by simp [intOf]; omega⟩
      · have e32 : k = 32 := by omega
        subst e32
        by_cases ht0 : turns s (8 * N) bt 32 = 0
        · rw [ht0]
          have H3 := hid h3
          clear h1 h2 h3 hel
          go_wp2_with fail
          go_ret
          exact ⟨rfl, H3.out⟩
        · have hsp := h2.spoilt HB1.out (by omega) (by omega) HFIT.out (by rw [hel]; exact ht0)
          have DS := hid (dec_spoilt kn pn N k1' k3' hN64 hN65 hN32 l1 (by rw [h2.len, hel]) h2.lt hsp g1 wr h1)
          have H3 := hid h3
          obtain ⟨t, htd⟩ : ∃ t, t = turns s (8 * N) bt 32 := ⟨_, rfl⟩
          rw [← htd] at ht0 htl ⊢
          have ht1 : ¬ (t : Int) = 0 := by omega
          have ht2 : ((t : Int) == 0) = false := by simpa using ht1
          clear h1 h2 h3 hel htd hsp
          go_wp2_with (first
            | (go_at_call 9; with_reducible refine DS.out.mono ?_; rintro e w6 ⟨rfl, t6⟩; have T6 := hid (H3.out.trans t6 (by simp)); clear t6))
          go_ret
          exact ⟨rfl, T6.out⟩
end Go.Proofs.Ytfodpeiecmbojaa
