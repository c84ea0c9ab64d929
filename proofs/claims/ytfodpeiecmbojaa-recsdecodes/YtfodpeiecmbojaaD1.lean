/-
  RecsTold: the walk.
-/
import Derived.Test.YtfodpeiecmbojaaC4
namespace Go.Proofs.Ytfodpeiecmbojaa
open Go.RowKit Go.Deep PureCrc

theorem eq28 (a b c d e f g h : Int) (w : World) : (Op.equalIn 10000 28 (.agg #[.int .u64 a, .int .u64 b, .int .u64 c, .int .u64 d]) (.agg #[.int .u64 e, .int .u64 f, .int .u64 g, .int .u64 h])).run Try.prog w
    = .ok (decide (a = e ∧ b = f ∧ c = g ∧ d = h)) w := by
  have u3 := Try.underlying26
  have a3 := Try.isAgg26
  have z3 := Try.sizeOf26
  rw [show (10000 : Nat) = 9999 + 1 from rfl, Op.equalIn]
  simp only [Sem.run_bind, run_underlying Try.underlying28, Result.andThen_ok]
  simp only [Std.Legacy.Range.forIn_eq_forIn_range', Std.Legacy.Range.size, Nat.sub_zero, Nat.add_sub_cancel, Nat.div_one, List.range'_succ, List.range'_zero, List.forIn_cons, List.forIn_nil]
  go_simp
  by_cases h1 : a = e <;> by_cases h2 : b = f <;> by_cases h3 : c = g <;> by_cases h4 : d = h <;> simp [h1, h2, h3, h4]

/-- what was written is read. -/
theorem decode_enc (kind place n N : Nat) (ws : List Nat) (b : Nat) (w : World) (hr : Row w b (enc kind place n ws N)) (hl : ws.length = 4 * n) (hlt : ∀ x ∈ ws, x < 18446744073709551616)
    (hk1 : 1 ≤ kind) (hk2 : kind ≤ 255) (hp : place < 9223372036854775808) (hN1 : 64 ≤ N) (hN2 : N ≤ 65536) (hN3 : N % 32 = 0) (hn1 : 1 ≤ n) (hn2 : n ≤ N / 32 - 1) :
    Calls Try.prog 9 #[.int .i64 (kind : Int), .int .i64 (place : Int), .slice (some ⟨b, 0, none⟩) N N] w fun e w' =>
      ∃ g, e = .returned (.tuple #[.slice (some ⟨g, 0, none⟩) n n, .int .i64 0]) ∧ WRow w' g ws ∧ Touch [] w w' ∧ w.heap.size ≤ g := by
  have h32 : 32 + 8 * ws.length ≤ N := by omega
  have hlen := enc_length (kind := kind) (place := place) (n := n) h32
  have hcn : count (enc kind place n ws N) = n := enc_count (by omega)
  have hpl : num (PureCrc.cut (enc kind place n ws N) 8 8) = place := enc_place (Nat.lt_trans hp (by decide))
  have hwd : words (4 * n) ((enc kind place n ws N).drop 28) = ws := by rw [← hl]; exact enc_words hlt
  have h := decode_ok (enc kind place n ws N) b 0 N w hr.rd (lt_of_block hr) (enc_lt (by omega)) (by rw [hlen]; exact Nat.le_refl _) (by omega) (by omega) (by omega) (by rw [hpl]; exact hp) (enc_fits (by omega) h32) (enc_formed (by omega) hl hn1 (by omega) hn2 h32)
  rw [hlen, hcn, hpl, enc_kind, hwd] at h
  exact h

/-- bytes that came in. -/
structure Came (w : World) (sa : Option Addr) (n c : Nat) (l : List Nat) : Prop where
  len : l.length = n
  cap : n ≤ c
  lt : ∀ x ∈ l, x < 256
  at_ : 0 < n → ∃ b o, sa = some ⟨b, o, none⟩ ∧ b < w.heap.size ∧ Rd w b o l

set_option maxRecDepth 100000 in
set_option maxHeartbeats 2000000 in
theorem told_law (kind place : Int) (hkp : place < 9223372036854775808) (sa : Option Addr) (n c : Nat) (l : List Nat) (w : World) (h : Came w sa n c l) :
    Calls Try.prog 3 #[.int .i64 kind, .int .i64 place, .slice sa n c] w fun e w' => e = .returned (.bool true) ∧ Touch [] w w' := by
  have r0 : WRow (w.alloc (.cells #[.int .u64 1, .int .u64 2, .int .u64 3, .int .u64 4] 28)) w.heap.size [1, 2, 3, 4] := heap_alloc_new w _
  have E0 := hid (encode_ok 3 4 1 64 [1, 2, 3, 4] w.heap.size 0 1 _ r0.wd rfl (lt_of_block r0) (by decide) (by omega) (by omega) (by omega) (by omega) (by omega) (by omega) (by omega) (by omega))
  have D0 : Hid (∀ (W : World) (g : Nat), Row W g (enc 3 4 1 [1, 2, 3, 4] 64) → Calls Try.prog 9 #[.int .i64 3, .int .i64 4, .slice (some ⟨g, 0, none⟩) 64 64] W fun e w' => ∃ g, e = .returned (.tuple #[.slice (some ⟨g, 0, none⟩) 1 1, .int .i64 0]) ∧ WRow w' g [1, 2, 3, 4] ∧ Touch [] W w' ∧ W.heap.size ≤ g) :=
    fun W g h => decode_enc 3 4 1 64 [1, 2, 3, 4] g W h rfl (by decide) (by omega) (by omega) (by omega) (by omega) (by omega) (by omega) (by omega) (by omega)
  have heq := fun W => eq28 1 2 3 4 1 2 3 4 W
  have HC := hid h
  have HT0 := hid ((Touch.refl [] w).alloc (.cells #[.int .u64 1, .int .u64 2, .int .u64 3, .int .u64 4] 28))
  clear r0 h
  by_cases hm : mayN kind place (n : Int)
  · obtain ⟨hm1, hm2, hm3, hm4⟩ := hm
    have hfit : 64 ≤ n ∧ n ≤ 65536 ∧ n % 32 = 0 := by
      unfold fitN at hm4
      split at hm4
      · omega
      · omega
    obtain ⟨h64, h65, h32⟩ := hfit
    obtain ⟨b, o, rfl, hbw, hrd⟩ := HC.out.at_ (by omega)
    obtain ⟨kn, rfl⟩ : ∃ kn : Nat, kind = (kn : Int) := ⟨kind.toNat, by omega⟩
    obtain ⟨pn, rfl⟩ : ∃ pn : Nat, place = (pn : Int) := ⟨place.toNat, by omega⟩
    have hlen := HC.out.len
    have hcap := HC.out.cap
    have hlt := HC.out.lt
    subst hlen
    have HR : Hid (∀ W, Touch [] w W → Rd W b o l ∧ b < W.heap.size) := fun W h => ⟨hrd.touch h hbw (by simp), Nat.lt_of_lt_of_le hbw h.size⟩
    by_cases hok : sumFits l ∧ Formed l ∧ l.getD 5 0 = kn ∧ num (PureCrc.cut l 8 8) = pn
    · obtain ⟨o1, o2, o3, o4⟩ := hok
      have DK : Hid (∀ W, Touch [] w W → Calls Try.prog 9 #[.int .i64 (kn : Int), .int .i64 (pn : Int), .slice (some ⟨b, o, none⟩) l.length c] W fun e w' => ∃ g, e = .returned (.tuple #[.slice (some ⟨g, 0, none⟩) (count l) (count l), .int .i64 0]) ∧ WRow w' g (words (4 * count l) (l.drop 28)) ∧ Touch [] W w' ∧ W.heap.size ≤ g) := fun W h => by
        have := decode_ok l b o c W (HR.out W h).1 (HR.out W h).2 hlt hcap h64 h65 h32 (by rw [o4]; omega) o1 o2
        rw [o3, o4] at this
        exact this
      have hwl : (words (4 * count l) (l.drop 28)).length = 4 * count l := words_length _ _
      have hn1 := o2.some
      have hn2 := o2.many
      have hwlt : ∀ x ∈ words (4 * count l) (l.drop 28), x < 18446744073709551616 := fun x hx => by
        obtain ⟨t, ht, rfl⟩ := List.getElem_of_mem hx
        rw [hwl] at ht
        have h1 := words_get (4 * count l) (l.drop 28) t ht
        rw [List.getElem?_eq_getElem (by rw [hwl]; exact ht)] at h1
        have h2 := Option.some.inj h1
        rw [h2]
        have h3 := num_lt (l := ((l.drop 28).drop (8 * t)).take 8) (fun y hy => hlt y (List.mem_of_mem_drop (List.mem_of_mem_drop (List.mem_of_mem_take hy))))
        have h4 : (((l.drop 28).drop (8 * t)).take 8).length ≤ 8 := by rw [List.length_take]; omega
        have h5 : 256 ^ (((l.drop 28).drop (8 * t)).take 8).length ≤ 256 ^ 8 := Nat.pow_le_pow_right (by decide) h4
        have h6 : (256 : Nat) ^ 8 = 18446744073709551616 := by decide
        omega
      have EK : Hid (∀ W g, WRow W g (words (4 * count l) (l.drop 28)) → Calls Try.prog 8 #[.int .i64 (kn : Int), .int .i64 (pn : Int), .slice (some ⟨g, 0, none⟩) (count l) (count l), .int .i64 (l.length : Int)] W fun e w' => ∃ g, e = .returned (.tuple #[.slice (some ⟨g, 0, none⟩) l.length l.length, .int .i64 0]) ∧ Row w' g l ∧ Touch [] W w' ∧ W.heap.size ≤ g) := fun W g h => by
        have := encode_ok kn pn (count l) l.length (words (4 * count l) (l.drop 28)) g 0 (count l) W h.wd hwl (lt_of_block h) hwlt (by omega) (by omega) (by omega) h64 h65 h32 hn1 hn2
        have ht := told hlt o1 o2 h32 h64
        rw [o3, o4] at ht
        rw [ht] at this
        exact this
      have HCV : Hid (∀ W g, Row W g l → (convert 22 9 (.slice (some ⟨g, 0, none⟩) l.length l.length)).run Try.prog W = .ok (.string (strOf l)) W) := fun W g h => conv_any _ h.rd
      have HCV2 : Hid (∀ W, Touch [] w W → (convert 22 9 (.slice (some ⟨b, o, none⟩) l.length c)).run Try.prog W = .ok (.string (strOf l)) W) := fun W h => conv_any _ (HR.out W h).1
      obtain ⟨ws, hws⟩ : ∃ ws, ws = words (4 * count l) (l.drop 28) := ⟨_, rfl⟩
      rw [← hws] at DK EK
      obtain ⟨m, hmd⟩ : ∃ m, m = count l := ⟨_, rfl⟩
      rw [← hmd] at DK EK
      obtain ⟨S, hS⟩ : ∃ S, S = strOf l := ⟨_, rfl⟩
      rw [← hS] at HCV HCV2
      clear hws hmd hS hwl hn1 hn2 hwlt o1 o2 o3 o4 hlt hrd HC
      go_enter Try.func3, Try.ntmps3
      go_wp2_with (first
        | (go_at_call 8; refine E0.out.mono ?_; rintro e w1 ⟨g1, rfl, r1, t1, s1⟩; have R1 := hid r1; have T1 := hid (HT0.out.trans t1 (by simp)); clear r1 t1 s1))
      go_at_call 9
      with_reducible refine (D0.out _ _ R1.out).mono ?_
      rintro e w2 ⟨g2, rfl, r2, t2, s2⟩
      have T2 := hid (T1.out.trans t2 (by simp))
      have q0 : w2.cell? ⟨g2, 0, none⟩ = some (.int .u64 1) := r2.wd 0 (by decide)
      have q1 : w2.cell? ⟨g2, 1, none⟩ = some (.int .u64 2) := r2.wd 1 (by decide)
      have q2 : w2.cell? ⟨g2, 2, none⟩ = some (.int .u64 3) := r2.wd 2 (by decide)
      have q3 : w2.cell? ⟨g2, 3, none⟩ = some (.int .u64 4) := r2.wd 3 (by decide)
      clear r2 t2 s2
      go_wp2_with (first
        | (go_at_call 8; with_reducible refine (EK.out _ _ R4.out).mono ?_; rintro e w5 ⟨g5, rfl, r5, t5, s5⟩; have T5 := hid t5; have cv := HCV.out _ _ r5; have cv2 := HCV2.out _ ((T4.out).trans t5 (by simp)); clear r5 t5 s5)
        | (go_at_call 9; with_reducible refine (DK.out _ (T2.out)).mono ?_; rintro e w4 ⟨g4, rfl, r4, t4, s4⟩; have R4 := hid r4; have T4 := hid (T2.out.trans t4 (by simp)); clear r4 t4 s4))
      go_ret
      exact ⟨rfl, T4.out.trans T5.out (by simp)⟩
    · have DB : Hid (∀ W, Touch [] w W → Calls Try.prog 9 #[.int .i64 (kn : Int), .int .i64 (pn : Int), .slice (some ⟨b, o, none⟩) l.length c] W fun e w' => ∃ er : Nat, er ≠ 0 ∧ e = .returned (.tuple #[.slice none 0 0, .int .i64 (er : Int)]) ∧ Touch [] W w') := fun W h => by
        have key : ∃ er, DecE kn pn l er ∧ er ≠ 0 := by
          by_cases a1 : sumFits l
          · by_cases a2 : Formed l
            · exact ⟨32, .inr (.inr ⟨a1, a2, fun h => hok ⟨a1, a2, h.1, h.2⟩, rfl⟩), by decide⟩
            · exact ⟨31, .inr (.inl ⟨a1, a2, rfl⟩), by decide⟩
          · exact ⟨30, .inl ⟨a1, rfl⟩, by decide⟩
        obtain ⟨er, he, hne⟩ := key
        exact (decode_bad kn pn l b o c W (HR.out W h).1 (HR.out W h).2 hlt hcap h64 h65 h32 (by omega) (by omega) (by omega) er he).mono fun e w' hh => ⟨er, hne, hh.1, hh.2⟩
      clear hlt hrd HC hok
      go_enter Try.func3, Try.ntmps3
      go_wp2_with (first
        | (go_at_call 8; refine E0.out.mono ?_; rintro e w1 ⟨g1, rfl, r1, t1, s1⟩; have R1 := hid r1; have T1 := hid (HT0.out.trans t1 (by simp)); clear r1 t1 s1))
      go_at_call 9
      with_reducible refine (D0.out _ _ R1.out).mono ?_
      rintro e w2 ⟨g2, rfl, r2, t2, s2⟩
      have T2 := hid (T1.out.trans t2 (by simp))
      have q0 : w2.cell? ⟨g2, 0, none⟩ = some (.int .u64 1) := r2.wd 0 (by decide)
      have q1 : w2.cell? ⟨g2, 1, none⟩ = some (.int .u64 2) := r2.wd 1 (by decide)
      have q2 : w2.cell? ⟨g2, 2, none⟩ = some (.int .u64 3) := r2.wd 2 (by decide)
      have q3 : w2.cell? ⟨g2, 3, none⟩ = some (.int .u64 4) := r2.wd 3 (by decide)
      clear r2 t2 s2
      go_wp2_with (first
        | (go_at_call 9; with_reducible refine (DB.out _ (T2.out)).mono ?_; rintro e w4 ⟨er, hne, rfl, t4⟩; have T4 := hid (T2.out.trans t4 (by simp)); have hne2 : ¬ (er : Int) = 0 := (by omega); have hne3 : ((er : Int) != 0) = true := (by simpa using hne2); clear t4))
      go_ret
      exact ⟨rfl, T4.out⟩
  · have DA := hid (fun W => decode_arg kind place n c sa W hm)
    clear hm
    go_enter Try.func3, Try.ntmps3
    go_wp2_with (first
      | (go_at_call 8; refine E0.out.mono ?_; rintro e w1 ⟨g1, rfl, r1, t1, s1⟩; have R1 := hid r1; have T1 := hid (HT0.out.trans t1 (by simp)); clear r1 t1 s1))
    go_at_call 9
    with_reducible refine (D0.out _ _ R1.out).mono ?_
    rintro e w2 ⟨g2, rfl, r2, t2, s2⟩
    have T2 := hid (T1.out.trans t2 (by simp))
    have q0 : w2.cell? ⟨g2, 0, none⟩ = some (.int .u64 1) := r2.wd 0 (by decide)
    have q1 : w2.cell? ⟨g2, 1, none⟩ = some (.int .u64 2) := r2.wd 1 (by decide)
    have q2 : w2.cell? ⟨g2, 2, none⟩ = some (.int .u64 3) := r2.wd 2 (by decide)
    have q3 : w2.cell? ⟨g2, 3, none⟩ = some (.int .u64 4) := r2.wd 3 (by decide)
    clear r2 t2 s2
    go_wp2_with (first
      | (go_at_call 9; with_reducible refine (DA.out _).mono ?_; rintro e w4 ⟨rfl, hh⟩; have hh := hh.symm; subst hh))
    go_ret
    exact ⟨rfl, T2.out⟩
end Go.Proofs.Ytfodpeiecmbojaa
