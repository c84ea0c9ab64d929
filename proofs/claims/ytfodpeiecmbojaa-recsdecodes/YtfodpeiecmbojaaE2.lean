/-
  RecsBack: the walk.
-/
import Derived.Test.YtfodpeiecmbojaaE1
namespace Go.Proofs.Ytfodpeiecmbojaa
open Go.RowKit Go.Deep PureCrc

abbrev I64 (v : Int) : Prop := -9223372036854775808 ≤ v ∧ v ≤ 9223372036854775807

theorem within_nat (v : Int) (h : I64 v) (N : Int) (hn : 0 < N) (hn2 : N ≤ 9223372036854775807) :
    ∃ r : Nat, (r : Int) < N ∧ ∀ W, Calls Try.prog 10 #[.int .i64 v, .int .i64 N] W fun e w' => e = .returned (.int .i64 (r : Int)) ∧ w' = W := by
  have hi := within_in v (n := N) hn
  refine ⟨(withinN v N).toNat, by omega, fun W => ?_⟩
  have := within_any v N hn h.1 h.2 hn2 W
  rw [Int.toNat_of_nonneg hi.1]
  exact this

/-- the parts of a piece: where its numbers are brought. -/
abbrev pieceV (kind place wide : Int) (sa : Option Addr) (n c : Nat) : Value := .agg #[.int .i64 kind, .int .i64 place, .slice sa n c, .int .i64 wide]

theorem enc_at (kn pn kw N : Nat) (hN : N = 32 * (kw + 2)) (hk : kn < 255) (hp : pn < 4611686018427387904) (hw : kw < 2047) (ws : List Nat) (m sb so c : Nat) (W : World) (h : Wd W sb so ws) (hl : ws.length = 4 * m) (hb : sb < W.heap.size) (hs : ∀ x ∈ ws, x < 18446744073709551616) (h1 : 1 ≤ m) (h2 : m ≤ 1 + kw) :
    Calls Try.prog 8 #[.int .i64 (1 + (kn : Int)), .int .i64 (pn : Int), .slice (some ⟨sb, so, none⟩) m c, .int .i64 (N : Int)] W fun e w' =>
      ∃ g, e = .returned (.tuple #[.slice (some ⟨g, 0, none⟩) N N, .int .i64 0]) ∧ Row w' g (enc (1 + kn) pn m ws N) ∧ Touch [] W w' ∧ W.heap.size ≤ g := by
  have h := encode_ok (1 + kn) pn m N ws sb so c W h hl hb hs (by omega) (by omega) (by omega) (by omega) (by omega) (by omega) h1 (by omega)
  rw [show ((1 + kn : Nat) : Int) = 1 + (kn : Int) by omega] at h
  exact h
theorem dec_at (kn pn kw N : Nat) (hN : N = 32 * (kw + 2)) (hk : kn < 255) (hp : pn < 4611686018427387904) (hw : kw < 2047) (ws : List Nat) (m g : Nat) (W : World) (h : Row W g (enc (1 + kn) pn m ws N)) (hl : ws.length = 4 * m) (hs : ∀ x ∈ ws, x < 18446744073709551616) (h1 : 1 ≤ m) (h2 : m ≤ 1 + kw) :
    Calls Try.prog 9 #[.int .i64 (1 + (kn : Int)), .int .i64 (pn : Int), .slice (some ⟨g, 0, none⟩) N N] W fun e w' =>
      ∃ g, e = .returned (.tuple #[.slice (some ⟨g, 0, none⟩) m m, .int .i64 0]) ∧ WRow w' g ws ∧ Touch [] W w' ∧ W.heap.size ≤ g := by
  have h := decode_enc (1 + kn) pn m N ws g W h hl hs (by omega) (by omega) (by omega) (by omega) (by omega) (by omega) h1 (by omega)
  rw [show ((1 + kn : Nat) : Int) = 1 + (kn : Int) by omega] at h
  exact h
theorem dec_other (kn pn kw N : Nat) (hN : N = 32 * (kw + 2)) (hk : kn < 255) (hp : pn < 4611686018427387904) (hw : kw < 2047) (on en : Nat) (ho : on < 255) (he : en < 4611686018427387904) (hne : ¬ (on = kn ∧ en = pn)) (ws : List Nat) (m g : Nat) (W : World) (h : Row W g (enc (1 + kn) pn m ws N)) (hl : ws.length = 4 * m) (h1 : 1 ≤ m) (h2 : m ≤ 1 + kw) :
    Calls Try.prog 9 #[.int .i64 (1 + (on : Int)), .int .i64 (en : Int), .slice (some ⟨g, 0, none⟩) N N] W fun e w' =>
      e = .returned (.tuple #[.slice none 0 0, .int .i64 32]) ∧ Touch [] W w' := by
  have h32 : 32 + 8 * ws.length ≤ N := by omega
  have hlen := enc_length (kind := 1 + kn) (place := pn) (n := m) h32
  have hd : DecE (1 + on) en (enc (1 + kn) pn m ws N) 32 :=
    .inr (.inr ⟨enc_fits (by omega) h32, enc_formed (by omega) hl h1 (by omega) (by omega) h32, fun hh => hne (by
      rw [enc_kind, enc_place (Nat.lt_trans hp (by decide))] at hh
      omega), rfl⟩)
  have h := decode_bad (1 + on) en (enc (1 + kn) pn m ws N) g 0 N W h.rd (lt_of_block h) (enc_lt (by omega)) (by rw [hlen]; exact Nat.le_refl _) (by omega) (by omega) (by omega) (by omega) (by omega) (by omega) 32 hd
  rw [hlen, show ((1 + on : Nat) : Int) = 1 + (on : Int) by omega] at h
  exact h

theorem fit_at (kw N : Nat) (hN : N = 32 * (kw + 2)) (hw : kw < 2047) (W : World) : Calls Try.prog 12 #[.int .i64 (N : Int)] W fun e w' => e = .returned (.int .i64 (1 + (kw : Int))) ∧ w' = W := by
  have h := fit_any (N : Int) W
  have e : fitN (N : Int) = 1 + (kw : Int) := by unfold fitN; rw [if_pos (by omega)]; omega
  rw [e] at h
  exact h

set_option maxRecDepth 100000 in
set_option maxHeartbeats 4000000 in
theorem back_law (kind place wide other elsewhere : Int) (sa : Option Addr) (n c : Nat) (ws : List Nat) (w : World) (hk : I64 kind) (hp : I64 place) (hwd : I64 wide) (ho : I64 other) (he : I64 elsewhere)
    (hr : Rs w sa n ws) (hc : n ≤ c) (hlt : ∀ x ∈ ws, x < 18446744073709551616) :
    Calls Try.prog 4 #[pieceV kind place wide sa n c, .int .i64 other, .int .i64 elsewhere] w fun e w' => e = .returned (.bool true) ∧ Touch [] w w' := by
  obtain ⟨kn, k1, C1⟩ := within_nat kind hk 255 (by omega) (by omega)
  obtain ⟨on, k2, C2⟩ := within_nat other ho 255 (by omega) (by omega)
  obtain ⟨pn, k3, C3⟩ := within_nat place hp 4611686018427387904 (by omega) (by omega)
  obtain ⟨en, k4, C4⟩ := within_nat elsewhere he 4611686018427387904 (by omega) (by omega)
  obtain ⟨kw, k5, C5⟩ := within_nat wide hwd 2047 (by omega) (by omega)
  obtain ⟨w0, hw0⟩ : ∃ w0, w0 = w.alloc (.cells #[.int .i64 kind, .int .i64 place, .slice sa n c, .int .i64 wide] 34) := ⟨_, rfl⟩
  have rb : w0.heap[w.heap.size]? = some (.cells #[.int .i64 kind, .int .i64 place, .slice sa n c, .int .i64 wide] 34 (0, 0)) := by rw [hw0]; exact heap_alloc_new w _
  have t0 : Touch [] w w0 := by rw [hw0]; exact (Touch.refl [] w).alloc _
  have cb := fun i => cell_row rb i
  have HS := some_any (c := c) (1 + kw) (hr.touch t0 (by simp)) hc hlt (by omega) (by omega)
  rw [show ((1 + kw : Nat) : Int) = 1 + (kw : Int) by omega] at HS
  have HS := hid HS
  have T0 := hid t0
  have HW0 := hid hw0
  have D1 := hid C1
  have D2 := hid C2
  have D3 := hid C3
  have D4 := hid C4
  have D5 := hid C5
  obtain ⟨N, hN⟩ : ∃ N, N = 32 * (kw + 2) := ⟨_, rfl⟩
  have k1' : kn < 255 := by omega
  have k2' : on < 255 := by omega
  have k3' : pn < 4611686018427387904 := by omega
  have k4' : en < 4611686018427387904 := by omega
  have k5' : kw < 2047 := by omega
  have HF := hid (fun W => fit_at kw N hN k5' W)
  have hNe : 32 * (1 + (kw : Int) + 1) = (N : Int) := by omega
  have HN := hid hN
  have hN64 : 64 ≤ N := by omega
  have hN65 : N ≤ 65536 := by omega
  have HE := hid (fun (ws : List Nat) (m sb so c : Nat) (W : World) (h : Wd W sb so ws) hl hb hs h1 h2 => enc_at kn pn kw N hN k1' k3' k5' ws m sb so c W h hl hb hs h1 h2)
  have HD := hid (fun (ws : List Nat) (m g : Nat) (W : World) (h : Row W g (enc (1 + kn) pn m ws N)) hl hs h1 h2 => dec_at kn pn kw N hN k1' k3' k5' ws m g W h hl hs h1 h2)
  have HO := hid (fun hne (ws : List Nat) (m g : Nat) (W : World) (h : Row W g (enc (1 + kn) pn m ws N)) hl h1 h2 => dec_other kn pn kw N hN k1' k3' k5' on en k2' k4' hne ws m g W h hl h1 h2)
  clear hN
  clear C1 C2 C3 C4 C5 hk hp hwd ho he hr hc hlt rb t0 hw0
  unfold pieceV
  go_enter Try.func4, Try.ntmps4
  go_wp2_with (first
    | (rw [← HW0.out])
    | (go_at_call 11; refine HS.out.mono ?_; rintro e w1 ⟨sb, so, m, c', ws', hs⟩; obtain ⟨rfl, s1, s2, s3, s4, s5, s6, s7, s8⟩ := hs; have S4 := hid s4; have S5 := hid s5; have S7 := hid s7; have S8 := hid s8; have S6 := hid s6; clear s4 s5 s6 s7 s8)
    | (go_at_call 10; with_reducible refine (D1.out _).mono ?_; rintro e w3 ⟨rfl, hh⟩; have hh := hh.symm; subst hh)
    | (go_at_call 10; with_reducible refine (D2.out _).mono ?_; rintro e w3 ⟨rfl, hh⟩; have hh := hh.symm; subst hh)
    | (go_at_call 10; with_reducible refine (D3.out _).mono ?_; rintro e w3 ⟨rfl, hh⟩; have hh := hh.symm; subst hh)
    | (go_at_call 10; with_reducible refine (D4.out _).mono ?_; rintro e w3 ⟨rfl, hh⟩; have hh := hh.symm; subst hh)
    | (go_at_call 10; with_reducible refine (D5.out _).mono ?_; rintro e w3 ⟨rfl, hh⟩; have hh := hh.symm; subst hh))
  have E1 := hid (HE.out ws' m sb so c' w1 S5.out S4.out S6.out S7.out s1 s2)
  with_reducible refine E1.out.mono ?_
  rintro e w2 ⟨g1, rfl, r1, t1, u1⟩
  have T2 := hid ((T0.out.trans S8.out (by simp)).trans t1 (by simp))
  have DD := hid (HD.out ws' m g1 w2 r1 S4.out S7.out s1 s2)
  have L2 := hid (show Rs w2 (some ⟨sb, so, none⟩) m ws' from ⟨S4.out, fun _ => ⟨sb, so, rfl, Nat.lt_of_lt_of_le S6.out t1.size, S5.out.touch t1 S6.out (by simp)⟩⟩)
  have R1 := hid r1
  clear r1 t1 u1 E1 HD
  go_wp2_with (first
    | (go_at_call 12; refine (HF.out _).mono ?_; rintro e w3 ⟨rfl, hh⟩; have hh := hh.symm; subst hh)
    | (go_at_call 9; with_reducible refine DD.out.mono ?_; rintro e w3 ⟨g2, rfl, r2, t2, u2⟩; have R2 := hid r2; have T3 := hid t2; clear r2 t2 u2))
  have tt3 := T3.out
  have L3 := hid (L2.out.touch tt3 (by simp))
  have SM := hid (same_true m c' (R2.out.rs S4.out) L3.out (by omega))
  with_reducible refine SM.out.mono ?_
  rintro e w4 ⟨rfl, q4, hq4⟩
  have t34 : Touch [] w3 w4 := by rw [hq4]; exact (Touch.refl _ _).drewN _
  have r24 : WRow w4 g2 ws' := (t34.block _ (lt_of_block R2.out) (by simp)).trans R2.out
  have E2 := hid (HE.out ws' m g2 0 m w4 r24.wd S4.out (lt_of_block r24) S7.out s1 s2)
  have T4 := hid ((T2.out.trans tt3 (by simp)).trans t34 (by simp))
  have RG : Hid (∀ W, Touch [] w4 W → Row W g1 (enc (1 + kn) pn m ws' N)) := fun W h => by
    have h1 := lt_of_block R1.out
    have h2 := tt3.size
    have h3 := t34.size
    exact (h.block _ (by omega) (by simp)).trans ((t34.block _ (by omega) (by simp)).trans ((tt3.block _ h1 (by simp)).trans R1.out))
  have L4 : Hid (∀ W, Touch [] w4 W → Rs W (some ⟨sb, so, none⟩) m ws') := fun W h => (L3.out.touch t34 (by simp)).touch h (by simp)
  have hel : (enc (1 + kn) pn m ws' N).length = N := enc_length (by have := S4.out; have := HN.out; omega)
  have HCV : Hid (∀ W g, Row W g (enc (1 + kn) pn m ws' N) → (convert 22 9 (.slice (some ⟨g, 0, none⟩) N N)).run Try.prog W = .ok (.string (strOf (enc (1 + kn) pn m ws' N))) W) := fun W g h => by
    have := conv_any N h.rd
    rwa [hel] at this
  have hNN := HN.out
  have HDD : Hid (∀ W, Touch [] w4 W → Calls Try.prog 9 #[.int .i64 (1 + (kn : Int)), .int .i64 (pn : Int), .slice (some ⟨g1, 0, none⟩) N N] W fun e w' => ∃ g, e = .returned (.tuple #[.slice (some ⟨g, 0, none⟩) m m, .int .i64 0]) ∧ WRow w' g ws' ∧ Touch [] W w' ∧ W.heap.size ≤ g) := fun W h => dec_at kn pn kw N hNN k1' k3' k5' ws' m g1 W (RG.out W h) S4.out S7.out s1 s2
  have HOO : Hid (¬ (on = kn ∧ en = pn) → ∀ W, Touch [] w4 W → Calls Try.prog 9 #[.int .i64 (1 + (on : Int)), .int .i64 (en : Int), .slice (some ⟨g1, 0, none⟩) N N] W fun e w' => e = .returned (.tuple #[.slice none 0 0, .int .i64 32]) ∧ Touch [] W w') := fun hne W h => HO.out hne ws' m g1 W (RG.out W h) S4.out s1 s2
  obtain ⟨S, hS⟩ : ∃ S, S = strOf (enc (1 + kn) pn m ws' N) := ⟨_, rfl⟩
  rw [← hS] at HCV
  clear hq4 t34 r24 tt3 hel hS HO HE DD HS SM L2 L3 R2 R1 D1 D2 D3 D4 D5 HF cb hNN HW0 T0 T2 T3 S5 S6 S8 k1 k2 k3 k4 k5 HN
  by_cases hsame : on = kn ∧ en = pn
  · obtain ⟨rfl, rfl⟩ := hsame
    go_wp2_with (first
      | (go_at_call 9; with_reducible refine (HDD.out _ T5.out).mono ?_; rintro e w6 ⟨g6, rfl, r6, t6, u6⟩; have SB := hid (same_true (ca := m) (cb := c') (r6.rs S4.out) (L4.out _ (T5.out.trans t6 (by simp))) (by omega)); have T6 := hid ((T4.out.trans T5.out (by simp)).trans t6 (by simp)); clear r6 t6 u6)
      | (go_at_call 8; with_reducible refine E2.out.mono ?_; rintro e w5 ⟨g3, rfl, r3, t3, u3⟩; have cv := HCV.out _ _ r3; have cv2 := HCV.out _ _ (RG.out _ t3); have T5 := hid t3; clear r3 t3 u3))
    with_reducible refine SB.out.mono ?_
    rintro e w7 ⟨rfl, q7, hq7⟩
    have T7 := hid (show Touch [] w w7 by rw [hq7]; exact T6.out.drewN _)
    clear hq7
    go_wp2_with fail
    go_ret
    exact ⟨rfl, T7.out⟩
  · have HO2 := hid (HOO.out hsame)
    by_cases hon : on = kn
    · subst hon
      have hen : ¬ en = pn := fun h => hsame ⟨rfl, h⟩
      have hen' : ¬ (en : Int) = (pn : Int) := by omega
      have hen2 : ((en : Int) == (pn : Int)) = false := by simpa using hen'
      clear hsame HOO HDD
      go_wp2_with (first
        | (go_at_call 9; with_reducible refine (HO2.out _ T5.out).mono ?_; rintro e w6 ⟨rfl, t6⟩; have T6 := hid ((T4.out.trans T5.out (by simp)).trans t6 (by simp)); clear t6)
        | (go_at_call 8; with_reducible refine E2.out.mono ?_; rintro e w5 ⟨g3, rfl, r3, t3, u3⟩; have cv := HCV.out _ _ r3; have cv2 := HCV.out _ _ (RG.out _ t3); have T5 := hid t3; clear r3 t3 u3))
      go_ret
      exact ⟨rfl, T6.out⟩
    · have hon' : ¬ 1 + (on : Int) = 1 + (kn : Int) := by omega
      have hon3 : ¬ (on : Int) = (kn : Int) := by omega
      have hon2 : (1 + (on : Int) == 1 + (kn : Int)) = false := by simpa using hon3
      clear hsame HOO HDD
      go_wp2_with (first
        | (go_at_call 9; with_reducible refine (HO2.out _ T5.out).mono ?_; rintro e w6 ⟨rfl, t6⟩; have T6 := hid ((T4.out.trans T5.out (by simp)).trans t6 (by simp)); clear t6)
        | (go_at_call 8; with_reducible refine E2.out.mono ?_; rintro e w5 ⟨g3, rfl, r3, t3, u3⟩; have cv := HCV.out _ _ r3; have cv2 := HCV.out _ _ (RG.out _ t3); have T5 := hid t3; clear r3 t3 u3))
      go_ret
      exact ⟨rfl, T6.out⟩
end Go.Proofs.Ytfodpeiecmbojaa
