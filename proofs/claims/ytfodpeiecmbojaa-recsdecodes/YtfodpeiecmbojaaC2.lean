/-
  Encode.
-/
import Derived.Test.YtfodpeiecmbojaaC1
namespace Go.Proofs.Ytfodpeiecmbojaa
open Go.RowKit Go.Deep PureCrc

/-- words that can be read there. -/
def Wd (w : World) (b o : Nat) (l : List Nat) : Prop := ∀ i (h : i < l.length), w.cell? ⟨b, o + i, none⟩ = some (.int .u64 (l[i] : Int))
theorem Wd.touch {w w' : World} {b o : Nat} {l : List Nat} {F : List Nat} (h : Wd w b o l) (ht : Touch F w w') (hb : b < w.heap.size) (hF : b ∉ F) : Wd w' b o l := fun i hi => (ht.cell (p := ⟨b, o + i, none⟩) hb hF).trans (h i hi)

def nthV (x0 x1 x2 x3 : Nat) (k : Nat) : Nat := match k with | 0 => x0 | 1 => x1 | 2 => x2 | _ => x3
theorem index_rec (x0 x1 x2 x3 : Nat) (k : Nat) (hk : k < 4) (w : World) :
    (Instr.index 28 (.agg #[.int .u64 (x0 : Int), .int .u64 (x1 : Int), .int .u64 (x2 : Int), .int .u64 (x3 : Int)]) (.int .i64 (k : Int))).run Try.prog w = .ok (.int .u64 (nthV x0 x1 x2 x3 k : Int)) w := by
  have i0 : ∀ a b c d : Value, (Instr.index 28 (.agg #[a, b, c, d]) (.int .i64 0)).run Try.prog w = .ok a w := fun a b c d => by kernel_rfl
  have i1 : ∀ a b c d : Value, (Instr.index 28 (.agg #[a, b, c, d]) (.int .i64 1)).run Try.prog w = .ok b w := fun a b c d => by kernel_rfl
  have i2 : ∀ a b c d : Value, (Instr.index 28 (.agg #[a, b, c, d]) (.int .i64 2)).run Try.prog w = .ok c w := fun a b c d => by kernel_rfl
  have i3 : ∀ a b c d : Value, (Instr.index 28 (.agg #[a, b, c, d]) (.int .i64 3)).run Try.prog w = .ok d w := fun a b c d => by kernel_rfl
  have : k = 0 ∨ k = 1 ∨ k = 2 ∨ k = 3 := by omega
  rcases this with rfl | rfl | rfl | rfl
  · exact i0 _ _ _ _
  · exact i1 _ _ _ _
  · exact i2 _ _ _ _
  · exact i3 _ _ _ _

/-- how far the block is written. -/
def part (kind place n : Nat) (ws : List Nat) (N t : Nat) : List Nat := (head kind place n ++ (ws.take t).flatMap (le 8)) ++ zeros (N - 28 - 8 * t)
theorem part_zero (kind place n : Nat) (ws : List Nat) (N : Nat) : part kind place n ws N 0 = head kind place n ++ zeros (N - 28) := by simp [part]
theorem part_length {kind place n N t : Nat} {ws : List Nat} (h : t ≤ ws.length) (hN : 28 + 8 * t ≤ N) : (part kind place n ws N t).length = N := by
  simp only [part, List.length_append, head_length, flat_length, zeros_length, List.length_take]; omega
theorem part_succ {kind place n N t : Nat} {ws : List Nat} (h : t < ws.length) : lay (part kind place n ws N t) (28 + 8 * t) (le 8 ws[t]) = part kind place n ws N (t + 1) := by
  unfold part
  have hl : (head kind place n ++ (ws.take t).flatMap (le 8)).length = 28 + 8 * t := by
    simp only [List.length_append, head_length, flat_length, List.length_take]; omega
  have := lay_pref (head kind place n ++ (ws.take t).flatMap (le 8)) (m := N - 28 - 8 * t) (le 8 ws[t])
  rw [hl, le_length] at this
  rw [this, List.take_succ_eq_append_getElem h]
  simp only [List.flatMap_append, List.flatMap_cons, List.flatMap_nil, List.append_nil, List.append_assoc]
  congr 4
theorem part_last {kind place n N : Nat} {ws : List Nat} (h : 32 + 8 * ws.length ≤ N) : part kind place n ws N ws.length = body kind place n ws N ++ zeros 4 := by
  unfold part body
  rw [List.take_length]
  simp only [List.append_assoc, List.append_cancel_left_eq]
  unfold zeros
  rw [List.replicate_append_replicate]
  congr 1
  omega

set_option maxRecDepth 100000 in
set_option maxHeartbeats 2000000 in
theorem encode_ok (kind place n N : Nat) (ws : List Nat) (rb ro rc : Nat) (w : World) (hw : Wd w rb ro ws) (hl : ws.length = 4 * n) (hrb : rb < w.heap.size) (hlt : ∀ x ∈ ws, x < 18446744073709551616)
    (hk1 : 1 ≤ kind) (hk2 : kind ≤ 255) (hp : place < 9223372036854775808) (hN1 : 64 ≤ N) (hN2 : N ≤ 65536) (hN3 : N % 32 = 0) (hn1 : 1 ≤ n) (hn2 : n ≤ N / 32 - 1) :
    Calls Try.prog 8 #[.int .i64 (kind : Int), .int .i64 (place : Int), .slice (some ⟨rb, ro, none⟩) n rc, .int .i64 (N : Int)] w fun e w' =>
      ∃ g, e = .returned (.tuple #[.slice (some ⟨g, 0, none⟩) N N, .int .i64 0]) ∧ Row w' g (enc kind place n ws N) ∧ Touch [] w w' ∧ w.heap.size ≤ g := by
  obtain ⟨wA, hwA⟩ : ∃ wA, wA = w.alloc (.cells (bc (zeros N)) 5) := ⟨_, rfl⟩
  have hmk : (Instr.makeSlice 22 (.int .i64 (N : Int)) (.int .i64 (N : Int))).run Try.prog w = .ok (.slice (some ⟨w.heap.size, 0, none⟩) N N) wA := by
    have h := run_make_row' (P := Try.prog) 22 5 (.int .u8 0) 1 Try.underlying22 Try.info5 rfl .i64 .i64 N (by omega) (by omega) w
    rw [h, hwA]
    congr 3
    apply Array.toList_inj.1
    rw [toList_madeCells_one]
    simp [bc, zeros]
  have rA : Row wA w.heap.size (zeros N) := by rw [hwA]; exact heap_alloc_new w _
  have tA : Touch [] w wA := by rw [hwA]; exact (Touch.refl _ _).alloc _
  have sA : wA.heap.size = w.heap.size + 1 := by rw [hwA]; simp
  have HM := hid (fun W => may_any (kind : Int) (place : Int) (N : Int) W)
  have hmay : decide (mayN (kind : Int) (place : Int) (N : Int)) = true := by
    apply decide_eq_true
    unfold mayN fitN
    rw [if_pos (by omega)]
    omega
  rw [hmay] at HM
  have HF := hid (fun W => fit_any (N : Int) W)
  have hfit : fitN (N : Int) = ((N / 32 - 1 : Nat) : Int) := by unfold fitN; rw [if_pos (by omega)]; omega
  rw [hfit] at HF
  have HP := hid (putHead_any w.heap.size N N kind place n wA rA hN1 (Nat.le_refl _) hN2 (by omega) (by omega) hp)
  have HW := hid hw
  have HL := hid hl
  have HTA := hid tA
  have HSA := hid sA
  have HLT := hid hlt
  have hn0' : ¬ (n : Int) = 0 := by omega
  have hn0 : ((n : Int) == 0) = false := by simpa using hn0'
  obtain ⟨f, hf⟩ : ∃ f, f = N / 32 - 1 := ⟨_, rfl⟩
  rw [← hf] at HF hn2
  have HFF := hid hf
  clear hw hl hlt hwA rA tA sA hmay hfit hf
  go_enter Try.func8, Try.ntmps8
  go_wp2_with (first
    | (go_at_call 26; refine HP.out.mono ?_; rintro e w2 ⟨rfl, g1, g2, g3⟩; have G1 := hid g1; have G2 := hid g2; have G3 := hid g3; clear g1 g2 g3)
    | (go_at_call 12; refine (HF.out _).mono ?_; rintro e w3 ⟨rfl, hh⟩; have hh := hh.symm; subst hh)
    | (go_at_call 25; refine (HM.out _).mono ?_; rintro e w3 ⟨rfl, hh⟩; have hh := hh.symm; subst hh))
  go_loopw [11, 43] (fun a i W => ∃ k : Nat, k ≤ n ∧ i = .int .i64 k ∧ a = .int .i64 ((28 + 32 * k : Nat) : Int) ∧ Row W w.heap.size (part kind place n ws N (4 * k)) ∧ Touch [w.heap.size] wA W) (fun _ i _ => n - (intOf i).toNat)
  case atStart => exact ⟨0, Nat.zero_le _, rfl, rfl, by rw [Nat.mul_zero, part_zero]; exact G1.out, G2.out⟩
  case round =>
    obtain ⟨k, hk, rfl, rfl, h1, h2⟩ := hrel
    have H1 := hid h1
    have H2 := hid h2
    clear h1 h2
    by_cases hlt : k < n
    · have hwd : Wd wr rb ro ws := (HW.out.touch HTA.out hrb (by simp)).touch H2.out (by rw [HSA.out]; omega) (by simp; omega)
      have hl := HL.out
      have q0 := hwd (4 * k) (by omega)
      have q1 := hwd (4 * k + 1) (by omega)
      have q2 := hwd (4 * k + 2) (by omega)
      have q3 := hwd (4 * k + 3) (by omega)
      obtain ⟨x0, hx0⟩ : ∃ x, x = ws[4 * k]'(by omega) := ⟨_, rfl⟩
      obtain ⟨x1, hx1⟩ : ∃ x, x = ws[4 * k + 1]'(by omega) := ⟨_, rfl⟩
      obtain ⟨x2, hx2⟩ : ∃ x, x = ws[4 * k + 2]'(by omega) := ⟨_, rfl⟩
      obtain ⟨x3, hx3⟩ : ∃ x, x = ws[4 * k + 3]'(by omega) := ⟨_, rfl⟩
      rw [← hx0, show ro + 4 * k = ro + k * 4 by omega] at q0
      rw [← hx1, show ro + (4 * k + 1) = ro + k * 4 + 1 by omega] at q1
      rw [← hx2, show ro + (4 * k + 2) = ro + k * 4 + 2 by omega] at q2
      rw [← hx3, show ro + (4 * k + 3) = ro + k * 4 + 3 by omega] at q3
      have HX0 : Hid (ws[4 * k]? = some x0) := by rw [hx0]; exact List.getElem?_eq_getElem _
      have HX1 : Hid (ws[4 * k + 1]? = some x1) := by rw [hx1]; exact List.getElem?_eq_getElem _
      have HX2 : Hid (ws[4 * k + 2]? = some x2) := by rw [hx2]; exact List.getElem?_eq_getElem _
      have HX3 : Hid (ws[4 * k + 3]? = some x3) := by rw [hx3]; exact List.getElem?_eq_getElem _
      clear hwd hx0 hx1 hx2 hx3 hl
      go_wp2_with fail
      have rw1 : Row (wr.alloc (.cells #[.int .u64 (x0 : Int), .int .u64 (x1 : Int), .int .u64 (x2 : Int), .int .u64 (x3 : Int)] 28)) w.heap.size (part kind place n ws N (4 * k)) := (Below.heap_alloc wr _ _ (lt_of_block H1.out)).trans H1.out
      have tw1 : Touch [w.heap.size] wA (wr.alloc (.cells #[.int .u64 (x0 : Int), .int .u64 (x1 : Int), .int .u64 (x2 : Int), .int .u64 (x3 : Int)] 28)) := H2.out.alloc _
      generalize wr.alloc (.cells #[.int .u64 (x0 : Int), .int .u64 (x1 : Int), .int .u64 (x2 : Int), .int .u64 (x3 : Int)] 28) = wB at rw1 tw1 ⊢
      have RW1 := hid rw1
      have TW1 := hid tw1
      have HY : Hid (∀ j, j < 4 → ws[4 * k + j]? = some (nthV x0 x1 x2 x3 j)) := fun j hj => by
        have : j = 0 ∨ j = 1 ∨ j = 2 ∨ j = 3 := by omega
        rcases this with rfl | rfl | rfl | rfl
        · exact HX0.out
        · exact HX1.out
        · exact HX2.out
        · exact HX3.out
      have HIX := hid (fun j hj W => index_rec x0 x1 x2 x3 j hj W)
      have hkn : 4 * k + 4 ≤ ws.length := by rw [HL.out]; omega
      have hN8 : 28 + 32 * k + 32 ≤ N := by have := HFF.out; omega
      have HKN := hid hkn
      clear rw1 tw1 q0 q1 q2 q3 HX0 HX1 HX2 HX3 H1 H2 hkn
      go_loopw [11, 48] (fun a i W => ∃ j : Nat, j ≤ 4 ∧ i = .int .i64 j ∧ a = .int .i64 ((28 + 32 * k + 8 * j : Nat) : Int) ∧ Row W w.heap.size (part kind place n ws N (4 * k + j)) ∧ Touch [w.heap.size] wA W) (fun _ i _ => 4 - (intOf i).toNat)
      case atStart => exact ⟨0, Nat.zero_le _, rfl, rfl, RW1.out, TW1.out⟩
      case round =>
        obtain ⟨j, hj, rfl, rfl, h1, h2⟩ := hrel
        by_cases hlt2 : j < 4
        · obtain ⟨A, hA⟩ : ∃ A, A = 28 + 32 * k + 8 * j := ⟨_, rfl⟩
          have hAN : A + 8 ≤ N := by omega
          have hA2 : A = 28 + 8 * (4 * k + j) := by omega
          have hkn := HKN.out
          have hy := HY.out j hlt2
          obtain ⟨y, hyd⟩ : ∃ y, y = nthV x0 x1 x2 x3 j := ⟨_, rfl⟩
          have hix := HIX.out j hlt2 wr
          rw [← hyd] at hy hix
          obtain ⟨hyl, hye⟩ := List.getElem?_eq_some_iff.1 hy
          have PW := putWord_any _ w.heap.size A (N - A) y wr h1 (by rw [part_length (by omega) (by omega)]; exact hAN)
          have hps := part_succ (kind := kind) (place := place) (n := n) (N := N) hyl
          rw [hye, ← hA2] at hps
          rw [hps] at PW
          have HPW := hid PW
          have HT := hid h2
          rw [← hA]
          have HA := hid hA
          have e8 : A + 8 - A = 8 := by omega
          clear PW hps h1 h2 hA hA2 hkn hy hyd hyl hye hk
          go_wp2_with (first
            | (go_at_call 27; refine HPW.out.mono ?_; rintro e w4 ⟨rfl, g1, g2, g3⟩; have K1 := hid g1; have K2 := hid g2; have K3 := hid g3; clear g1 g2 g3))
          exact ⟨⟨j + 1, hlt2, rfl, congrArg (Value.int .i64) (by have := HA.out; omega), K1.out, HT.out.trans K2.out (fun d hd => .inl hd)⟩, by simp [intOf]; omega⟩
        · have e4 : j = 4 := by omega
          subst e4
          have K1 := hid h1
          have K2 := hid h2
          clear h1 h2
          go_wp2_with fail
          exact ⟨⟨k + 1, hlt, rfl, congrArg (Value.int .i64) (by omega), by rw [Nat.mul_succ]; exact K1.out, K2.out⟩, by simp [intOf]; omega⟩
    · have e4 : k = n := by omega
      subst e4
      have hwl := HL.out
      rw [← hwl] at H1
      have h32 : 32 + 8 * ws.length ≤ N := by have := HFF.out; omega
      have r1 : Row wr w.heap.size (body kind place k ws N ++ zeros 4) := by rw [← part_last h32]; exact H1.out
      have hbl := body_length (kind := kind) (place := place) (n := k) (block := N) h32
      have rd1 : Rd wr w.heap.size 0 (body kind place k ws N) := fun i hi => by
        have := r1.rd i (by rw [List.length_append]; omega)
        rw [List.getElem_append_left hi] at this
        exact this
      have hcl : crc (body kind place k ws N) < 18446744073709551616 := Nat.lt_trans (crc_lt (body_lt (by omega))) (by decide)
      have HS := sum_any (body kind place k ws N) w.heap.size 0 N wr rd1 (lt_of_block r1) (body_lt (by omega)) (by omega)
      rw [hbl] at HS
      have HSO := hid (sumOf_any w.heap.size 0 N N wr (by omega) (Nat.le_refl _) (by omega))
      have HSD := hid (summed_any w.heap.size 0 N N wr (by omega) (Nat.le_refl _) (by omega))
      have PP := hid (fun (W : World) (h : Row W w.heap.size (body kind place k ws N ++ zeros 4)) => put_any _ w.heap.size (N - 4) 4 (N - (N - 4)) (crc (body kind place k ws N)) W h (by omega) (by rw [List.length_append, hbl, zeros_length]; omega))
      have hlay : lay (body kind place k ws N ++ zeros 4) (N - 4) (le 4 (crc (body kind place k ws N))) = enc kind place k ws N := by
        have := lay_pref (body kind place k ws N) (m := 4) (le 4 (crc (body kind place k ws N)))
        rw [hbl, le_length] at this
        rw [this]
        simp [enc, zeros]
      rw [hlay] at PP
      have HS := hid HS
      have R1 := hid r1
      obtain ⟨v, hv⟩ : ∃ v, v = crc (body kind place k ws N) := ⟨_, rfl⟩
      rw [← hv] at HS PP hcl
      have ht2 : Touch [] w wr := HTA.out.trans H2.out (by intro d hd; simp at hd; right; omega)
      have HT2 := hid ht2
      clear hv hlay rd1 r1 hbl hwl H1 H2 ht2 hk hlt
      go_wp2_with (first
        | (go_at_call 28; with_reducible refine (PP.out _ (((GT1.out.block _ (lt_of_block R1.out) (by simp))).trans R1.out)).mono ?_; rintro e w6 ⟨rfl, g1, g2, g3⟩; have K1 := hid g1; have K2 := hid g2; have K3 := hid g3; clear g1 g2 g3)
        | (go_at_call 21; refine HS.out.mono ?_; rintro e w5 ⟨rfl, gt⟩; have GT1 := hid gt; clear gt)
        | (go_at_call 30; refine HSD.out.mono ?_; rintro e w3 ⟨rfl, hh⟩; have hh := hh.symm; subst hh)
        | (go_at_call 29; refine HSO.out.mono ?_; rintro e w3 ⟨rfl, hh⟩; have hh := hh.symm; subst hh))
      go_ret2
      exact ⟨w.heap.size, rfl, K1.out, (HT2.out.trans GT1.out (fun d hd => .inl hd)).trans K2.out (by intro d hd; simp at hd; right; omega), Nat.le_refl _⟩
end Go.Proofs.Ytfodpeiecmbojaa
