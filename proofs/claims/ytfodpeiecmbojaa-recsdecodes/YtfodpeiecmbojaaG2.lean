/-
  The document's own Encode.
-/
import Derived.Test.YtfodpeiecmbojaaG1
import Derived.Laws.OwnMore
namespace Go.Proofs.Ytfodpeiecmbojaa
open Go.RowKit Go.Deep PureCrc

theorem OwnB.rd {w : World} {base : Nat} {v : Value} {l : List Nat} (h : OwnB w base v l) (h0 : 0 < l.length) : ∃ g cap, v = .slice (some ⟨g, 0, none⟩) l.length cap ∧ base ≤ g ∧ g < w.heap.size ∧ l.length ≤ cap ∧ Rd w g 0 l := by
  rcases h.2 with ⟨_, hn⟩ | ⟨g, cap, cur, hv, hb, hg, hc, _, _, ht⟩
  · omega
  · refine ⟨g, cap, hv, hb, lt_of_block hg, hc, fun i hi => ?_⟩
    have h1 := h.cells (g := g) (by rw [hv]; rfl) i (.int .u8 (l[i] : Int)) (by simp [bcl, List.getElem?_eq_getElem hi])
    have ha : (⟨g, 0, none⟩ : Addr).add i = ⟨g, 0 + i, none⟩ := by unfold Addr.add; split <;> simp_all
    rw [ha] at h1
    exact h1

theorem number_at (base : Nat) (sv : Value) (l : List Nat) (v n : Nat) (w : World) (h : OwnB w base sv l) (hb : base ≤ w.heap.size) (hn : n ≤ 65536) (hl : l.length ≤ 1099511627776) (hv : v < 18446744073709551616) (vz nz : Int) (e1 : vz = (v : Int)) (e2 : nz = (n : Int)) :
    Calls Try.prog 36 #[sv, .int .u64 vz, .int .i64 nz] w fun e w' => ∃ sv', e = .returned sv' ∧ OwnB w' base sv' (l ++ le n v) ∧ Below base w w' := by
  subst e1 e2
  exact number_any base sv l v n w h hb hn hl hv

set_option maxRecDepth 100000 in
set_option maxHeartbeats 2000000 in
theorem rencode_ok (kind place n N : Nat) (ws : List Nat) (rb ro rc : Nat) (w : World) (hw : Wd w rb ro ws) (hl : ws.length = 4 * n) (hrb : rb < w.heap.size) (hlt : ∀ x ∈ ws, x < 18446744073709551616)
    (hk1 : 1 ≤ kind) (hk2 : kind ≤ 255) (hp : place < 9223372036854775808) (hN1 : 64 ≤ N) (hN2 : N ≤ 65536) (hN3 : N % 32 = 0) (hn1 : 1 ≤ n) (hn2 : n ≤ N / 32 - 1) :
    Calls Try.prog 16 #[.int .i64 (kind : Int), .int .i64 (place : Int), .slice (some ⟨rb, ro, none⟩) n rc, .int .i64 (N : Int)] w fun e w' =>
      ∃ sv, e = .returned (.tuple #[sv, .int .i64 0]) ∧ OwnB w' w.heap.size sv (enc kind place n ws N) ∧ Touch [] w w' := by
  have HF := hid (fun W => rfit_any (N : Int) W)
  have hfit : fitN (N : Int) = ((N / 32 - 1 : Nat) : Int) := by unfold fitN; rw [if_pos (by omega)]; omega
  rw [hfit] at HF
  obtain ⟨f, hf⟩ : ∃ f, f = N / 32 - 1 := ⟨_, rfl⟩
  rw [← hf] at HF hn2
  have hf0 : ¬ (f : Int) = 0 := by omega
  have hf1 : ((f : Int) == 0) = false := by simpa using hf0
  have hn0' : ¬ (n : Int) = 0 := by omega
  have hn0 : ((n : Int) == 0) = false := by simpa using hn0'
  have hkm : (kind : Int) % 256 = (kind : Int) := by omega
  have hlit : OwnB (w.alloc (.cells #[.int .u8 83, .int .u8 84, .int .u8 82, .int .u8 65, .int .u8 1, .int .u8 (kind : Int)] 5)) w.heap.size (.slice (some ⟨w.heap.size, 0, none⟩) 6 6) [83, 84, 82, 65, 1, kind] := by
    have := World.ownsRow_lit (base := w.heap.size) (e := 5) (size := 1) w #[.int .u8 83, .int .u8 84, .int .u8 82, .int .u8 65, .int .u8 1, .int .u8 (kind : Int)] 6 (Nat.le_refl _) (by decide) rfl
    exact this
  have HLIT := hid hlit
  have T0 := hid (show Below w.heap.size w (w.alloc (.cells #[.int .u8 83, .int .u8 84, .int .u8 82, .int .u8 65, .int .u8 1, .int .u8 (kind : Int)] 5)) from (Below.refl _ w).alloc (Nat.le_refl _) _)
  have S0 : (w.alloc (.cells #[.int .u8 83, .int .u8 84, .int .u8 82, .int .u8 65, .int .u8 1, .int .u8 (kind : Int)] 5)).heap.size = w.heap.size + 1 := by simp
  have HS0 := hid S0
  have NUM := hid (fun sv l v n W vz nz h hb hn hl hv e1 e2 => number_at w.heap.size sv l v n W h hb hn hl hv vz nz e1 e2)
  have hn3 : n ≤ 2047 := by omega
  have HW := hid hw
  have HL := hid hl
  have HLT := hid hlt
  have HFF := hid hf
  clear hw hl hlt hfit hf hlit S0
  go_enter Try.func16, Try.ntmps16
  go_wp2_with (first
    | (go_at_call 17; refine (HF.out _).mono ?_; rintro e w3 ⟨rfl, hh⟩; have hh := hh.symm; subst hh))
  with_reducible refine (NUM.out _ _ n 2 _ _ _ HLIT.out ?_ ?_ ?_ ?_ ?_ ?_).mono ?_
  · rw [HS0.out]; omega
  · omega
  · simp
  · omega
  · rfl
  · rfl
  rintro e w1 ⟨v1, rfl, r1, t1⟩
  have O1 := hid r1
  have T1 := hid (T0.out.trans t1)
  clear r1 t1
  go_wp2_with fail
  with_reducible refine (NUM.out _ _ place 8 _ _ _ O1.out ?_ ?_ ?_ ?_ ?_ ?_).mono ?_
  · exact T1.out.size
  · omega
  · simp [le_length]
  · omega
  · rfl
  · rfl
  rintro e w2 ⟨v2, rfl, r2, t2⟩
  have O2 := hid r2
  have T2 := hid (T1.out.trans t2)
  clear r2 t2
  go_wp2_with fail
  with_reducible refine (NUM.out _ _ 0 12 _ _ _ O2.out ?_ ?_ ?_ ?_ ?_ ?_).mono ?_
  · exact T2.out.size
  · omega
  · simp [le_length]
  · omega
  · rfl
  · rfl
  rintro e w3 ⟨v3, rfl, r3, t3⟩
  have hhd : ([83, 84, 82, 65, 1, kind] ++ le 2 n ++ le 8 place ++ le 12 0) = head kind place n := by
    rw [le_zero]
    simp [head, zeros]
  rw [hhd] at r3
  have O3 := hid r3
  have T3 := hid (T2.out.trans t3)
  clear r3 t3 hhd T2 T1 O1 O2 HLIT T0 HS0
  go_wp2_with fail
  go_loopw [10, 11] (fun bv i W => ∃ k : Nat, k ≤ n ∧ i = .int .i64 k ∧ OwnB W w.heap.size bv (head kind place n ++ (ws.take (4 * k)).flatMap (le 8)) ∧ Below w.heap.size w W) (fun _ i _ => n - (intOf i).toNat)
  case atStart => exact ⟨0, Nat.zero_le _, rfl, by simpa using O3.out, T3.out⟩
  case round =>
    obtain ⟨k, hk, rfl, h1, h2⟩ := hrel
    have H1 := hid h1
    have H2 := hid h2
    clear h1 h2
    by_cases hlt : k < n
    · go_wp2_with fail
      go_loopw [10, 12] (fun bv i W => ∃ j : Nat, j ≤ 4 ∧ i = .int .i64 j ∧ OwnB W w.heap.size bv (head kind place n ++ (ws.take (4 * k + j)).flatMap (le 8)) ∧ Below w.heap.size w W) (fun _ i _ => 4 - (intOf i).toNat)
      case atStart => exact ⟨0, Nat.zero_le _, rfl, H1.out, H2.out⟩
      case round =>
        obtain ⟨j, hj, rfl, h1, h2⟩ := hrel
        by_cases hlt2 : j < 4
        · have htl : 4 * k + j < ws.length := by rw [HL.out]; omega
          have hwd : Wd wr rb ro ws := fun i hi => (h2.cell (p := ⟨rb, ro + i, none⟩) hrb).trans (HW.out i hi)
          have hc := hwd (4 * k + j) htl
          rw [show ro + (4 * k + j) = ro + k * 4 + j by omega] at hc
          have hxs := HLT.out _ (List.getElem_mem htl)
          have hfl : (head kind place n ++ (ws.take (4 * k + j)).flatMap (le 8)) ++ le 8 ws[4 * k + j] = head kind place n ++ (ws.take (4 * k + (j + 1))).flatMap (le 8) := by
            rw [show 4 * k + (j + 1) = (4 * k + j) + 1 by omega, List.take_succ_eq_append_getElem htl, List.flatMap_append]
            simp
          have hll : (head kind place n ++ (ws.take (4 * k + j)).flatMap (le 8)).length ≤ 1099511627776 := by
            rw [List.length_append, head_length, flat_length, List.length_take]; omega
          obtain ⟨x, hxd⟩ : ∃ x, x = ws[4 * k + j] := ⟨_, rfl⟩
          rw [← hxd] at hc hxs hfl
          have HFL := hid hfl
          have HLL := hid hll
          have K1 := hid h1
          have K2 := hid h2
          clear h1 h2 hwd hxd hfl hll
          go_wp2_with fail
          with_reducible refine (NUM.out _ _ x 8 _ _ _ K1.out ?_ ?_ ?_ ?_ ?_ ?_).mono ?_
          · exact K2.out.size
          · omega
          · exact HLL.out
          · exact hxs
          · rfl
          · rfl
          rintro e w5 ⟨v5, rfl, r5, t5⟩
          rw [HFL.out] at r5
          have R5 := hid r5
          have T5 := hid (K2.out.trans t5)
          clear r5 t5
          go_wp2_with fail
          exact ⟨⟨j + 1, hlt2, rfl, R5.out, T5.out⟩, by simp [intOf]; omega⟩
        · have e4 : j = 4 := by omega
          subst e4
          have K1 := hid h1
          have K2 := hid h2
          clear h1 h2
          go_wp2_with fail
          exact ⟨⟨k + 1, hlt, rfl, by rw [Nat.mul_succ]; exact K1.out, K2.out⟩, by simp [intOf]; omega⟩
    · have e4 : k = n := by omega
      subst e4
      have hwl := HL.out
      have hff := HFF.out
      have h32 : 32 + 8 * ws.length ≤ N := by omega
      have o1 : OwnB wr w.heap.size u10 (head kind place k ++ ws.flatMap (le 8)) := by
        have := H1.out
        rwa [← hwl, List.take_length] at this
      have hpl : (head kind place k ++ ws.flatMap (le 8)).length = 28 + 8 * ws.length := by rw [List.length_append, head_length, flat_length]
      obtain ⟨g1, c1, rfl, _, _, _, _⟩ := o1.rd (by rw [hpl]; omega)
      have hbl := body_length (kind := kind) (place := place) (n := k) h32
      obtain ⟨P, hP⟩ : ∃ P, P = (head kind place k ++ ws.flatMap (le 8)).length := ⟨_, rfl⟩
      rw [← hP] at hpl
      have hbody : (head kind place k ++ ws.flatMap (le 8)) ++ le (N - 4 - P) 0 = body kind place k ws N := by
        rw [le_zero, body, List.append_assoc, show N - 4 - P = N - 32 - 8 * ws.length by omega]
        rfl
      have hPN : P + 4 ≤ N := by omega
      have HB := hid hbody
      have HBL := hid hbl
      have O1 := hid o1
      rw [← hP]
      have HP := hid hP
      clear H1 o1 hbody hbl hwl hff hpl hP
      go_wp2_with fail
      have O1' : OwnB wr w.heap.size (.slice (some ⟨g1, 0, none⟩) P c1) (head kind place k ++ ws.flatMap (le 8)) := by rw [HP.out]; exact O1.out
      with_reducible refine (NUM.out _ _ 0 (N - 4 - P) _ _ _ O1' ?_ ?_ ?_ ?_ ?_ ?_).mono ?_
      · exact H2.out.size
      · omega
      · rw [← HP.out]; omega
      · omega
      · rfl
      · omega
      rintro e w5 ⟨v5, rfl, r5, t5⟩
      rw [HB.out] at r5
      obtain ⟨g5, c5, rfl, hg5, hs5, hc5, hrd5⟩ := r5.rd (by rw [HBL.out]; omega)
      have hblt := body_lt (kind := kind) (place := place) (n := k) (ws := ws) (block := N) (by omega)
      have HSM := rsum_any (body kind place k ws N) g5 0 c5 w5 hrd5 hblt (by rw [HBL.out]; omega)
      have hcl : crc (body kind place k ws N) < 4294967296 := crc_lt hblt
      have O5 := hid r5
      have T5 := hid (H2.out.trans t5)
      rw [HBL.out] at HSM ⊢
      have HSM := hid HSM
      have HEN : Hid (body kind place k ws N ++ le 4 (crc (body kind place k ws N)) = enc kind place k ws N) := rfl
      obtain ⟨v, hv⟩ : ∃ v, v = crc (body kind place k ws N) := ⟨_, rfl⟩
      rw [← hv] at HSM HEN hcl
      clear r5 t5 hrd5 hblt hv
      go_wp2_with (first
        | (go_at_call 22; refine HSM.out.mono ?_; rintro e w3 ⟨rfl, hh⟩; have hh := hh.symm; subst hh))
      have O5' : OwnB w5 w.heap.size (.slice (some ⟨g5, 0, none⟩) (N - 4) c5) (body kind place k ws N) := by rw [← HBL.out]; exact O5.out
      with_reducible refine (NUM.out _ _ v 4 _ _ _ O5' ?_ ?_ ?_ ?_ ?_ ?_).mono ?_
      · exact T5.out.size
      · omega
      · rw [HBL.out]; omega
      · omega
      · rfl
      · rfl
      rintro e w6 ⟨v6, rfl, r6, t6⟩
      rw [HEN.out] at r6
      have R6 := hid r6
      have T6 := hid (T5.out.trans t6)
      clear r6 t6
      go_wp2_with fail
      go_ret2
      exact ⟨_, rfl, R6.out, Touch.of_below T6.out (Nat.le_refl _)⟩
end Go.Proofs.Ytfodpeiecmbojaa
