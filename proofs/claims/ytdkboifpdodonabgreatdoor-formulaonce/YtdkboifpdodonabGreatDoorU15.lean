import Derived.Deep.CutBlock
import Derived.Deep.Strs
import Derived.LaidLaws
import Derived.Test.YtdkboifpdodonabGreatDoorZ14
set_option linter.unusedSimpArgs false
namespace PureCnf
theorem runW_end {p : UInt8 → Bool} {l : List UInt8} {i e : Nat} (h : e ≤ i) : runW p l i e = i := by
  have : (l.take e).drop i = [] := List.drop_eq_nil_of_le (by rw [List.length_take]; omega)
  unfold runW; rw [this]; simp
theorem runW_off {p : UInt8 → Bool} {l : List UInt8} {i e : Nat} (h : i < e) (he : e ≤ l.length) (hp : p l[i] = false) : runW p l i e = i := by
  unfold runW
  rw [drop_take h he, List.takeWhile_cons, if_neg (by rw [hp]; decide)]
  simp
end PureCnf
/-
  The document's own letter, digit, number, word.
-/
namespace Go.Proofs.YtdkboifpdodonabGreatDoor.Ref
open Go.RowKit Go.Deep PureCnf PureForm
set_option maxRecDepth 100000

theorem hid {q : Prop} (h : q) : Hid q := h

/-- a string of these bytes. -/
abbrev str (l : List UInt8) : Value := .string ⟨l.toArray⟩
theorem list_at (s : ByteArray) (k : Nat) (h : k < s.size) : s.data.toList[k]'(by simpa using h) = s[k] := rfl
theorem take_snoc (l : List UInt8) (k : Nat) (h : k < l.length) : l.take (k + 1) = l.take k ++ [l[k]] := by rw [List.take_add_one, List.getElem?_eq_getElem h]; rfl
theorem extract_list (s : ByteArray) (i j : Nat) : (s.extract i j).data.toList = (s.data.toList.drop i).take (j - i) := by
  rw [ByteArray.data_extract, Array.toList_extract]
theorem extract_str (s : ByteArray) (i j : Nat) : s.extract i j = ⟨((s.data.toList.take j).drop i).toArray⟩ := by
  apply ByteArray.ext
  apply Array.ext'
  rw [extract_list, List.drop_take]
theorem add_block (a : Addr) (j : Nat) : (a.add j).block = a.block := by unfold Addr.add; split <;> rfl
theorem add_zero_addr (g j : Nat) : (⟨g, 0, none⟩ : Addr).add j = ⟨g, j, none⟩ := by
  unfold Addr.add
  split <;> simp_all
theorem cell_row {w : World} {b : Nat} {c : Array Value} {t : TypeId} {fz : Nat × Nat} (h : w.heap[b]? = some (.cells c t fz)) (i : Nat) : w.cell? ⟨b, i, none⟩ = c[i]? := by simp [World.cell?, h]
theorem unfrozen_row {w : World} {b : Nat} {c : Array Value} {t : TypeId} (h : w.heap[b]? = some (.cells c t (0, 0))) (i : Nat) : w.frozen? ⟨b, i, none⟩ = false := by simp [World.frozen?, h]
theorem below_cell {B b o : Nat} {w w' : World} {x : Value} (hb : Below B w w') (hlt : b < B) (h : w.cell? ⟨b, o, none⟩ = some x) : w'.cell? ⟨b, o, none⟩ = some x := (hb.cell (p := ⟨b, o, none⟩) hlt).trans h
theorem below_drewN {B : Nat} {w W : World} (h : Below B w W) (n : Nat) : Below B w (W.drewN n) := ⟨h.os, h.tape, h.output, h.size, h.block⟩
/-- a token as a value. -/
abbrev tokV (t : PureForm.Tok) : Value := .agg #[.int .i64 t.kind, .int .i64 t.n, .int .i64 t.at_, .int .i64 t.end_]

set_option maxHeartbeats 400000 in
theorem digit_any (c : UInt8) (w : World) : Calls Tryz.prog 58 #[.int .u8 (c.toNat : Int)] w fun e w' => e = .returned (.bool (digB c)) ∧ w' = w := by
  by_cases h1 : 48 ≤ (c.toNat : Int)
  · by_cases h2 : (c.toNat : Int) ≤ 57
    · have HD : Hid (digB c = true) := by show _ = _; unfold digB; simp; omega
      go_enter Tryz.func58, Tryz.ntmps58
      go_wp2
      go_ret
      rw [HD.out]
      exact ⟨rfl, rfl⟩
    · have HD : Hid (digB c = false) := by show _ = _; unfold digB; simp; omega
      go_enter Tryz.func58, Tryz.ntmps58
      go_wp2
      go_ret
      rw [HD.out]
      exact ⟨rfl, rfl⟩
  · have HD : Hid (digB c = false) := by show _ = _; unfold digB; simp; omega
    go_enter Tryz.func58, Tryz.ntmps58
    go_wp2
    go_ret
    rw [HD.out]
    exact ⟨rfl, rfl⟩

set_option maxHeartbeats 400000 in
theorem letter_any (c : UInt8) (w : World) : Calls Tryz.prog 57 #[.int .u8 (c.toNat : Int)] w fun e w' => e = .returned (.bool (letB c)) ∧ w' = w := by
  by_cases h1 : 97 ≤ (c.toNat : Int)
  · by_cases h2 : (c.toNat : Int) ≤ 122
    · have HD : Hid (letB c = true) := by show _ = _; unfold letB; simp; omega
      go_enter Tryz.func57, Tryz.ntmps57
      go_wp2
      go_ret
      rw [HD.out]
      exact ⟨rfl, rfl⟩
    · have HD : Hid (letB c = false) := by show _ = _; unfold letB; simp; omega
      have h3 : 65 ≤ (c.toNat : Int) := by omega
      have h4 : ¬ (c.toNat : Int) ≤ 90 := by omega
      go_enter Tryz.func57, Tryz.ntmps57
      go_wp2
      go_ret
      rw [HD.out]
      exact ⟨rfl, rfl⟩
  · by_cases h3 : 65 ≤ (c.toNat : Int)
    · by_cases h4 : (c.toNat : Int) ≤ 90
      · have HD : Hid (letB c = true) := by show _ = _; unfold letB; simp; omega
        go_enter Tryz.func57, Tryz.ntmps57
        go_wp2
        go_ret
        rw [HD.out]
        exact ⟨rfl, rfl⟩
      · have HD : Hid (letB c = false) := by show _ = _; unfold letB; simp; omega
        go_enter Tryz.func57, Tryz.ntmps57
        go_wp2
        go_ret
        rw [HD.out]
        exact ⟨rfl, rfl⟩
    · have HD : Hid (letB c = false) := by show _ = _; unfold letB; simp; omega
      go_enter Tryz.func57, Tryz.ntmps57
      go_wp2
      go_ret
      rw [HD.out]
      exact ⟨rfl, rfl⟩

set_option maxHeartbeats 1000000 in
theorem number_any (s : ByteArray) (most : Nat) (w : World) (hs : s.size ≤ 1099511627776) (hm : most ≤ 1099511627776) :
    Calls Tryz.prog 81 #[.string s, .int .i64 (most : Int)] w fun e w' => e = .returned (.int .i64 (numB s.data.toList most)) ∧ w' = w := by
  have hlen : s.data.toList.length = s.size := by simp
  cases hp : plainB s.data.toList with
  | false =>
    have HN := hid (numB_plain (most := most) hp)
    by_cases h0 : s.size = 0
    · clear hp
      go_enter Tryz.func81, Tryz.ntmps81
      go_wp2
      go_ret
      rw [HN.out]
      exact ⟨rfl, rfl⟩
    · have h1 : 1 < s.size ∧ s.data.toList.head? = some 48 := by
        have hne : s.data.toList ≠ [] := fun e => h0 (by rw [← hlen, e]; rfl)
        simpa [plainB, hne] using hp
      obtain ⟨h2, h3⟩ := h1
      have h4 : (s[0].toNat : Int) = 48 := by
        rw [List.head?_eq_getElem?, List.getElem?_eq_getElem (by omega)] at h3
        have := Option.some.inj h3
        rw [list_at s 0 (by omega)] at this
        rw [this]; rfl
      have h5 : ((s.size : Int) == 0) = false := by rw [beq_eq_false_iff_ne]; omega
      clear hp h0 h3
      go_enter Tryz.func81, Tryz.ntmps81
      go_wp2
      go_ret
      rw [HN.out]
      exact ⟨rfl, rfl⟩
  | true =>
    have h0 : s.data.toList ≠ [] := fun e => by rw [e] at hp; simp [plainB] at hp
    have h1 : 0 < s.size := by
      rcases Nat.eq_zero_or_pos s.size with h | h
      · exact absurd (List.eq_nil_of_length_eq_zero (hlen.trans h)) h0
      · exact h
    have h2 : s.size = 1 ∨ (1 < s.size ∧ ((s[0].toNat : Int) == 48) = false) := by
      by_cases h : 1 < s.size
      · refine .inr ⟨h, ?_⟩
        have h3 : s.data.toList.head? ≠ some 48 := by simpa [plainB, h0, h] using hp
        rw [List.head?_eq_getElem?, List.getElem?_eq_getElem (by omega), list_at s 0 (by omega)] at h3
        have h4 : s[0].toNat ≠ 48 := fun e => h3 (by rw [← UInt8.toNat_inj.1 (show s[0].toNat = (48 : UInt8).toNat from e)])
        simp; omega
      · exact .inl (by omega)
    have h5 : ((s.size : Int) == 0) = false := by rw [beq_eq_false_iff_ne]; omega
    have HP := hid hp
    have HL := hid hlen
    clear hp h0 hlen
    rcases h2 with h2 | ⟨h2, h6⟩
    all_goals
      go_enter Tryz.func81, Tryz.ntmps81
      go_wp2
      go_loop [5, 6] (fun n i => ∃ k : Nat, k ≤ s.size ∧ i = .int .i64 k ∧ n = .int .i64 (valN (s.data.toList.take k) : Int) ∧ valN (s.data.toList.take k) ≤ most ∧ Hid ((s.data.toList.take k).all digB = true)) (fun _ i => s.size - (intOf i).toNat)
      case atStart => exact ⟨0, Nat.zero_le _, rfl, rfl, Nat.zero_le _, rfl⟩
      case round =>
        obtain ⟨k, hk, rfl, rfl, hv, HA⟩ := hrel
        by_cases hlt : k < s.size
        · have hlt' : k < s.data.toList.length := by rw [HL.out]; exact hlt
          have HDG := hid (digit_any s[k] w)
          cases hd : digB s[k] with
          | false =>
            rw [hd] at HDG
            have HN := hid (numB_off (most := most) hlt' hd)
            clear hd
            go_wp2_with (go_at_call 58; refine HDG.out.mono ?_; rintro e w' ⟨rfl, rfl⟩)
            go_ret
            rw [HN.out]
            exact ⟨rfl, rfl⟩
          | true =>
            rw [hd] at HDG
            have hr : 48 ≤ s[k].toNat ∧ s[k].toNat ≤ 57 := by simpa [digB] using hd
            have hv1 : Hid ((valN (s.data.toList.take (k + 1)) : Int) = 10 * (valN (s.data.toList.take k) : Int) + ((s[k].toNat : Int) - 48)) := by
              show _ = _
              rw [take_snoc _ k hlt', valN_snoc, list_at s k hlt]; omega
            have HA1 : Hid ((s.data.toList.take (k + 1)).all digB = true) := by
              show _ = _
              rw [take_snoc _ k hlt', List.all_append, HA.out, list_at s k hlt]
              simp [hd]
            clear hd
            obtain ⟨r1, r2⟩ := hr
            have r3 : (48 : Int) ≤ (s[k].toNat : Int) := by omega
            have r4 : (s[k].toNat : Int) ≤ 57 := by omega
            have r5 : (0 : Int) ≤ (valN (s.data.toList.take k) : Int) := by omega
            have r6 : (valN (s.data.toList.take k) : Int) ≤ 1099511627776 := by omega
            by_cases hgt : (most : Int) < 10 * (valN (s.data.toList.take k) : Int) + ((s[k].toNat : Int) - 48)
            · have HN := hid (numB_great (l := s.data.toList) (most := most) (k := k + 1) (by have := hv1.out; omega))
              go_wp2_with (go_at_call 58; refine HDG.out.mono ?_; rintro e w' ⟨rfl, rfl⟩)
              go_ret
              rw [HN.out]
              exact ⟨rfl, rfl⟩
            · go_wp2_with (go_at_call 58; refine HDG.out.mono ?_; rintro e w' ⟨rfl, rfl⟩)
              exact ⟨⟨k + 1, hlt, by go_num, by rw [hv1.out], by have := hv1.out; omega, HA1.out⟩, by simp [intOf]; omega⟩
        · have HE : Hid (numB s.data.toList most = (valN (s.data.toList.take k) : Int)) := by
            show _ = _
            have e : s.data.toList.take k = s.data.toList := List.take_of_length_le (by rw [HL.out]; omega)
            have ha := HA.out
            rw [e] at ha hv ⊢
            exact numB_end HP.out ha hv
          go_wp2
          go_ret
          rw [HE.out]
          exact ⟨rfl, rfl⟩


end Go.Proofs.YtdkboifpdodonabGreatDoor.Ref
/-
  The document's own word.
-/
namespace Go.Proofs.YtdkboifpdodonabGreatDoor.Ref
open Go.RowKit Go.Deep PureCnf PureForm
set_option maxRecDepth 100000

theorem str_size (l : List UInt8) : (⟨l.toArray⟩ : ByteArray).size = l.length := by simp [ByteArray.size]
theorem two_allocs (w : World) (a b : Obj) : Below w.heap.size w ((w.alloc a).alloc b) := ((Below.refl _ _).alloc (Nat.le_refl _) _).alloc (by simp) _

set_option maxHeartbeats 1000000 in
theorem word_key (l : List UInt8) (k n : Nat) (at_ : Nat) (w : World) (ha : at_ ≤ 1048576)
    (h : (l = [116, 114, 117, 101] ∧ k = 2 ∧ n = 1) ∨ (l = [102, 97, 108, 115, 101] ∧ k = 2 ∧ n = 0) ∨ (l = [101, 120, 105, 115, 116, 115] ∧ k = 5 ∧ n = 4) ∨ (l = [102, 111, 114, 97, 108, 108] ∧ k = 5 ∧ n = 5) ∨ (l = [105, 116, 101] ∧ k = 6 ∧ n = 131)) :
    Calls Tryz.prog 59 #[str l, .int .i64 (at_ : Int)] w fun e w' => e = .returned (tokV ⟨k, n, at_, at_ + l.length⟩) ∧ Below w.heap.size w w' := by
  rcases h with ⟨rfl, rfl, rfl⟩ | ⟨rfl, rfl, rfl⟩ | ⟨rfl, rfl, rfl⟩ | ⟨rfl, rfl, rfl⟩ | ⟨rfl, rfl, rfl⟩
  all_goals
    go_enter Tryz.func59, Tryz.ntmps59
    go_wp2
    exact bodyPost_ret (v := tokV ⟨_, _, at_, at_ + _⟩) (by simp [results, Tryz.results59, go_sem, tokV]) rfl ⟨rfl, two_allocs _ _ _⟩

set_option maxHeartbeats 1000000 in
/-- a word that is none of these. -/
theorem word_other (c : UInt8) (t : List UInt8) (at_ : Nat) (w : World) (ha : at_ ≤ 1048576) (hl : t.length ≤ 1048576)
    (n1 : ((c :: t) == [116, 114, 117, 101]) = false) (n2 : ((c :: t) == [102, 97, 108, 115, 101]) = false) (n3 : ((c :: t) == [101, 120, 105, 115, 116, 115]) = false) (n4 : ((c :: t) == [102, 111, 114, 97, 108, 108]) = false) (n5 : ((c :: t) == [105, 116, 101]) = false)
    (hx : ((c.toNat : Int) == 120) = false) :
    Calls Tryz.prog 59 #[str (c :: t), .int .i64 (at_ : Int)] w fun e w' => e = .returned (tokV ⟨1, 131, at_, at_ + (c :: t).length⟩) ∧ Below w.heap.size w w' := by
  have hs : (⟨(c :: t).toArray⟩ : ByteArray).size = t.length + 1 := str_size _
  have hc0 : ((⟨(c :: t).toArray⟩ : ByteArray)[0]'(by rw [hs]; omega)) = c := rfl
  go_enter Tryz.func59, Tryz.ntmps59
  go_wp2
  exact bodyPost_ret (v := tokV ⟨_, _, at_, at_ + _⟩) (by simp [results, Tryz.results59, go_sem, tokV]) rfl ⟨rfl, two_allocs _ _ _⟩

/-- number, of a string that is these bytes. -/
theorem number_of (l : List UInt8) (n : Int) (hl : l.length ≤ 1048576) (hn : numB l 65535 = n) : ∀ (W : World) (s : ByteArray), s = ⟨l.toArray⟩ → Calls Tryz.prog 81 #[.string s, .int .i64 65535] W fun e w' => e = .returned (.int .i64 n) ∧ w' = W := by
  rintro W s rfl
  have := number_any ⟨l.toArray⟩ 65535 W (by rw [str_size]; omega) (by omega)
  simpa [hn] using this

set_option maxHeartbeats 1000000 in
theorem word_x0 (at_ : Nat) (w : World) (ha : at_ ≤ 1048576) :
    Calls Tryz.prog 59 #[str [120], .int .i64 (at_ : Int)] w fun e w' => e = .returned (tokV ⟨1, 133, at_, at_ + 1⟩) ∧ Below w.heap.size w w' := by
  have HN := hid (number_of [] (-1) (by simp) (by decide))
  go_enter Tryz.func59, Tryz.ntmps59
  go_wp2_with fail
  refine (HN.out _ _ rfl).mono ?_
  rintro e w' ⟨rfl, rfl⟩
  go_wp2
  exact bodyPost_ret (v := tokV ⟨_, _, at_, at_ + _⟩) (by simp [results, Tryz.results59, go_sem, tokV]) rfl ⟨rfl, two_allocs _ _ _⟩

theorem tail_str (c : UInt8) (l : List UInt8) (n : Nat) (hn : n = l.length + 1) : (⟨(c :: l).toArray⟩ : ByteArray).extract 1 n = ⟨l.toArray⟩ := by
  subst hn
  rw [extract_str]
  simp

set_option maxHeartbeats 1000000 in
theorem word_xd (d : UInt8) (t : List UInt8) (at_ : Nat) (w : World) (ha : at_ ≤ 1048576) (hl : t.length ≤ 1048574) :
    Calls Tryz.prog 59 #[str (120 :: d :: t), .int .i64 (at_ : Int)] w fun e w' => e = .returned (tokV (wordT (120 :: d :: t) at_)) ∧ Below w.heap.size w w' := by
  have hs : (⟨(120 :: d :: t).toArray⟩ : ByteArray).size = t.length + 2 := str_size _
  have hc0 : ((⟨(120 :: d :: t).toArray⟩ : ByteArray)[0]'(by rw [hs]; omega)) = 120 := rfl
  have hc1 : ((⟨(120 :: d :: t).toArray⟩ : ByteArray)[1]'(by rw [hs]; omega)) = d := rfl
  have HDG := hid (fun W => digit_any d W)
  cases hd : digB d with
  | false =>
    have HW : Hid (wordT (120 :: d :: t) at_ = ⟨1, 131, at_, at_ + (t.length + 2)⟩) := by show _ = _; simp [wordT, hd]
    rw [hd] at HDG
    clear hd
    go_enter Tryz.func59, Tryz.ntmps59
    go_wp2_with (go_at_call 58; refine (HDG.out _).mono ?_; rintro e w' ⟨rfl, rfl⟩)
    rw [HW.out]
    exact bodyPost_ret (v := tokV ⟨_, _, at_, at_ + _⟩) (by simp [results, Tryz.results59, go_sem, tokV]) rfl ⟨rfl, two_allocs _ _ _⟩
  | true =>
    obtain ⟨n, hn⟩ : ∃ n, n = numB (d :: t) 65535 := ⟨_, rfl⟩
    have hr := numB_range (d :: t) 65535
    rw [← hn] at hr
    obtain ⟨r1, r2⟩ := hr
    have HN := hid (number_of (d :: t) n (by simp; omega) hn.symm)
    rw [hd] at HDG
    by_cases h0 : 0 ≤ n
    · have HW : Hid (wordT (120 :: d :: t) at_ = ⟨3, n.toNat, at_, at_ + (t.length + 2)⟩) := by show _ = _; simp [wordT, hd, ← hn, h0]
      obtain ⟨m, rfl⟩ : ∃ m : Nat, n = m := ⟨n.toNat, by omega⟩
      clear hd hn
      go_enter Tryz.func59, Tryz.ntmps59
      go_wp2_with (first | (go_at_call 58; refine (HDG.out _).mono ?_; rintro e w' ⟨rfl, rfl⟩) | (go_at_call 81; refine (HN.out _ _ (tail_str _ _ _ (by simp))).mono ?_; rintro e w' ⟨rfl, rfl⟩))
      rw [HW.out]
      exact bodyPost_ret (v := tokV ⟨_, _, at_, at_ + _⟩) (by simp [results, Tryz.results59, go_sem, tokV]) rfl ⟨rfl, two_allocs _ _ _⟩
    · have HW : Hid (wordT (120 :: d :: t) at_ = ⟨1, 133, at_, at_ + (t.length + 2)⟩) := by show _ = _; simp [wordT, hd, ← hn, h0]
      clear hd hn
      go_enter Tryz.func59, Tryz.ntmps59
      go_wp2_with (first | (go_at_call 58; refine (HDG.out _).mono ?_; rintro e w' ⟨rfl, rfl⟩) | (go_at_call 81; refine (HN.out _ _ (tail_str _ _ _ (by simp))).mono ?_; rintro e w' ⟨rfl, rfl⟩))
      rw [HW.out]
      exact bodyPost_ret (v := tokV ⟨_, _, at_, at_ + _⟩) (by simp [results, Tryz.results59, go_sem, tokV]) rfl ⟨rfl, two_allocs _ _ _⟩

/-- the token of a word. -/
theorem word_any (l : List UInt8) (at_ : Nat) (w : World) (ha : at_ ≤ 1048576) (h0 : l ≠ []) (hl : l.length ≤ 1048576) :
    Calls Tryz.prog 59 #[str l, .int .i64 (at_ : Int)] w fun e w' => e = .returned (tokV (wordT l at_)) ∧ Below w.heap.size w w' := by
  by_cases h1 : l = [116, 114, 117, 101]
  · have := word_key l 2 1 at_ w ha (.inl ⟨h1, rfl, rfl⟩)
    rwa [show wordT l at_ = ⟨2, 1, at_, at_ + l.length⟩ by simp [wordT, h1]]
  · by_cases h2 : l = [102, 97, 108, 115, 101]
    · have := word_key l 2 0 at_ w ha (.inr (.inl ⟨h2, rfl, rfl⟩))
      rwa [show wordT l at_ = ⟨2, 0, at_, at_ + l.length⟩ by simp [wordT, h2]]
    · by_cases h3 : l = [101, 120, 105, 115, 116, 115]
      · have := word_key l 5 4 at_ w ha (.inr (.inr (.inl ⟨h3, rfl, rfl⟩)))
        rwa [show wordT l at_ = ⟨5, 4, at_, at_ + l.length⟩ by simp [wordT, h3]]
      · by_cases h4 : l = [102, 111, 114, 97, 108, 108]
        · have := word_key l 5 5 at_ w ha (.inr (.inr (.inr (.inl ⟨h4, rfl, rfl⟩))))
          rwa [show wordT l at_ = ⟨5, 5, at_, at_ + l.length⟩ by simp [wordT, h4]]
        · by_cases h5 : l = [105, 116, 101]
          · have := word_key l 6 131 at_ w ha (.inr (.inr (.inr (.inr ⟨h5, rfl, rfl⟩))))
            rwa [show wordT l at_ = ⟨6, 131, at_, at_ + l.length⟩ by simp [wordT, h5]]
          · obtain ⟨c, t, rfl⟩ := List.exists_cons_of_ne_nil h0
            by_cases h6 : c = 120
            · subst h6
              cases t with
              | nil =>
                have := word_x0 at_ w ha
                rwa [show wordT [120] at_ = ⟨1, 133, at_, at_ + 1⟩ by simp [wordT, numB, numOk, plainB]]
              | cons d t => exact word_xd d t at_ w ha (by simp at hl; omega)
            · have hx : ((c.toNat : Int) == 120) = false := by
                rw [beq_eq_false_iff_ne]
                intro e
                exact h6 (UInt8.toNat_inj.1 (show c.toNat = (120 : UInt8).toNat by have : (120 : UInt8).toNat = 120 := rfl; omega))
              have := word_other c t at_ w ha (by simp at hl; omega) (by rw [beq_eq_false_iff_ne]; exact h1) (by rw [beq_eq_false_iff_ne]; exact h2) (by rw [beq_eq_false_iff_ne]; exact h3) (by rw [beq_eq_false_iff_ne]; exact h4) (by rw [beq_eq_false_iff_ne]; exact h5) hx
              rwa [show wordT (c :: t) at_ = ⟨1, 131, at_, at_ + (c :: t).length⟩ by
                unfold wordT
                rw [if_neg h1, if_neg h2, if_neg h3, if_neg h4, if_neg h5, if_neg (by simp [h6])]]
end Go.Proofs.YtdkboifpdodonabGreatDoor.Ref
/-
  The document's own next: blanks, words, digits, signs.
-/
namespace Go.Proofs.YtdkboifpdodonabGreatDoor.Ref
open Go.RowKit Go.Deep PureCnf PureForm
set_option maxRecDepth 100000

theorem skipB_end {l : List UInt8} {q : Nat} (h : ¬ q < l.length) : skipB l q = q := by rw [skipB_eq, dif_neg h]
theorem skipB_bl1 {l : List UInt8} {q : Nat} (h : q < l.length) (hb : blankB l[q] = true) : skipB l q = skipB l (q + 1) := by
  have h35 : l[q].toNat ≠ 35 := by simp [blankB] at hb; omega
  rw [skipB_eq, dif_pos h, if_neg h35, if_pos hb]
theorem skipB_stop {l : List UInt8} {q : Nat} (h : q < l.length) (hb : blankB l[q] = false) (h35 : l[q].toNat ≠ 35) : skipB l q = q := by
  rw [skipB_eq, dif_pos h, if_neg h35, hb]; simp
theorem skipB_rem {l : List UInt8} {q : Nat} (h : q < l.length) (h35 : l[q].toNat = 35) : skipB l q = skipB l (runW lineB l q l.length) ∧ q < runW lineB l q l.length := by
  have h1 : lineB l[q] = true := by simp [lineB, h35]
  have h2 : q < runW lineB l q l.length := by
    rw [runW_on h (Nat.le_refl _) h1]
    have := runW_ge lineB l (q + 1) l.length
    omega
  refine ⟨?_, h2⟩
  rw [skipB_eq, dif_pos h, if_pos h35, dif_pos h2]

theorem nextT_word {l : List UInt8} {i q : Nat} (hs : skipB l i = q) (h : q < l.length) (hl : letB l[q] = true) : nextT l i = wordT ((l.take (runW alnB l q l.length)).drop q) q := by
  subst hs
  unfold nextT
  rw [dif_pos h, if_pos hl]
theorem nextT_bit {l : List UInt8} {i q : Nat} (hs : skipB l i = q) (h : q < l.length) (hl : letB l[q] = false) (hd : digB l[q] = true) (hr : runW digB l q l.length = q + 1 ∧ l[q].toNat ≤ 49) : nextT l i = ⟨2, l[q].toNat - 48, q, q + 1⟩ := by
  subst hs
  unfold nextT
  rw [dif_pos h, if_neg (by rw [hl]; decide), if_pos hd, if_pos hr]
theorem nextT_num {l : List UInt8} {i q : Nat} (hs : skipB l i = q) (h : q < l.length) (hl : letB l[q] = false) (hd : digB l[q] = true) (hr : ¬ (runW digB l q l.length = q + 1 ∧ l[q].toNat ≤ 49)) : nextT l i = ⟨1, 133, q, runW digB l q l.length⟩ := by
  subst hs
  unfold nextT
  rw [dif_pos h, if_neg (by rw [hl]; decide), if_pos hd, if_neg hr]
theorem nextT_sign {l : List UInt8} {i q : Nat} (hs : skipB l i = q) (h : q < l.length) (hl : letB l[q] = false) (hd : digB l[q] = false) : nextT l i = PureForm.signT l q signs := by
  subst hs
  unfold nextT
  rw [dif_pos h, if_neg (by rw [hl]; decide), if_neg (by rw [hd]; decide)]

theorem word_of (l : List UInt8) (at_ : Nat) (ha : at_ ≤ 1048576) (h0 : l ≠ []) (hl : l.length ≤ 1048576) : ∀ (W : World) (s : ByteArray), s = ⟨l.toArray⟩ → Calls Tryz.prog 59 #[.string s, .int .i64 (at_ : Int)] W fun e w' => e = .returned (tokV (wordT l at_)) ∧ Below W.heap.size W w' := by
  rintro W s rfl
  exact word_any l at_ W ha h0 hl

theorem wrap_i64 (x : Int) (h1 : -9223372036854775808 ≤ x) (h2 : x ≤ 9223372036854775807) : IntKind.i64.wrap x = x := by
  simp [IntKind.wrap, IntKind.signed, IntKind.bits]
  omega
theorem ByteArray_toList (l : List UInt8) : (⟨l.toArray⟩ : ByteArray).toList = l := by
  simp
theorem below_boxed {w w1 : World} {o : Obj} (h : Below (w.alloc o).heap.size (w.alloc o) w1) (a b c d : Value) : Below w.heap.size w ((((w1.setCell ⟨w.heap.size, 0, none⟩ a).setCell ⟨w.heap.size, 1, none⟩ b).setCell ⟨w.heap.size, 2, none⟩ c).setCell ⟨w.heap.size, 3, none⟩ d) := by
  have h1 : Below w.heap.size w w1 := ((Below.refl _ _).alloc (Nat.le_refl _) _).trans (h.mono (by simp))
  exact (((h1.setCell (by simp) _).setCell (by simp) _).setCell (by simp) _).setCell (by simp) _

/-- a spelling of the table. -/
def sg (k : Nat) : List UInt8 × Nat × Nat := signs.getD k ([], 0, 0)
theorem sg_len (k : Nat) : (sg k).1.length ≤ 3 := by
  unfold sg
  by_cases h : k < 21
  · have : ∀ j : Fin 21, (signs.getD j.val ([], 0, 0)).1.length ≤ 3 := by decide
    exact this ⟨k, h⟩
  · have : signs[k]? = none := List.getElem?_eq_none (by show 21 ≤ k; omega)
    simp [List.getD, this]
theorem sg_num (k : Nat) : (sg k).2.1 ≤ 11 ∧ (sg k).2.2 ≤ 11 := by
  unfold sg
  by_cases h : k < 21
  · have : ∀ j : Fin 21, (signs.getD j.val ([], 0, 0)).2.1 ≤ 11 ∧ (signs.getD j.val ([], 0, 0)).2.2 ≤ 11 := by decide
    exact this ⟨k, h⟩
  · have : signs[k]? = none := List.getElem?_eq_none (by show 21 ≤ k; omega)
    simp [List.getD, this]
theorem signs_drop {k : Nat} (h : k < 21) : signs.drop k = sg k :: signs.drop (k + 1) := by
  have hl : k < signs.length := h
  rw [List.drop_eq_getElem_cons hl, sg]
  simp [List.getD, List.getElem?_eq_getElem hl]

/-- the table of signs, where the package's variable has it. -/
structure SignsAt (W : World) (g o c : Nat) : Prop where
  lt : g < W.heap.size
  lt1 : 0 < W.heap.size
  var : W.cell? ⟨0, 0, none⟩ = some (.slice (some ⟨g, o, none⟩) 21 c)
  at_ : ∀ k, k < 21 → W.cell? ⟨g, o + k * 3, none⟩ = some (str (sg k).1) ∧ W.cell? ⟨g, o + k * 3 + 1, none⟩ = some (.int .i64 (sg k).2.1) ∧ W.cell? ⟨g, o + k * 3 + 2, none⟩ = some (.int .i64 (sg k).2.2)
theorem SignsAt.below {W W' : World} {g o c : Nat} (h : SignsAt W g o c) (hb : Below W.heap.size W W') : SignsAt W' g o c :=
  ⟨Nat.lt_of_lt_of_le h.lt hb.size, Nat.lt_of_lt_of_le h.lt1 hb.size, below_cell hb h.lt1 h.var, fun k hk => ⟨below_cell hb h.lt (h.at_ k hk).1, below_cell hb h.lt (h.at_ k hk).2.1, below_cell hb h.lt (h.at_ k hk).2.2⟩⟩

set_option maxHeartbeats 4000000 in
set_option maxRecDepth 100000 in
theorem next_any (s : ByteArray) (i : Nat) (w : World) (g o c : Nat) (hsg : SignsAt w g o c) (hs : s.size ≤ 1048576) (hi : i ≤ s.size) :
    Calls Tryz.prog 32 #[.string s, .int .i64 (i : Int)] w fun e w' => e = .returned (tokV (nextT s.data.toList i)) ∧ Below w.heap.size w w' := by
  have HL : Hid (s.data.toList.length = s.size) := by show _ = _; simp
  have HSG := hid hsg
  clear hsg
  go_enter Tryz.func32, Tryz.ntmps32
  go_wp2
  go_loop [1] (fun v => ∃ q : Nat, q ≤ s.size ∧ v = .int .i64 q ∧ Hid (skipB s.data.toList q = skipB s.data.toList i)) (fun v => s.size - (intOf v).toNat)
  case atStart => exact ⟨i, hi, rfl, rfl⟩
  case round =>
    obtain ⟨q, hq, rfl, HK⟩ := hrel
    by_cases hlt : q < s.size
    · have hlt' : q < s.data.toList.length := by rw [HL.out]; exact hlt
      have blank : (s[q].toNat = 32 ∨ s[q].toNat = 9 ∨ s[q].toNat = 10 ∨ s[q].toNat = 13) → Hid (skipB s.data.toList (q + 1) = skipB s.data.toList i) := fun h => by
        show _ = _
        rw [← HK.out, skipB_bl1 hlt' (by rw [list_at s q hlt]; simp [blankB]; exact h)]
      by_cases c1 : (s[q].toNat : Int) = 32
      · have HB := blank (by omega)
        clear blank
        go_wp2
        exact ⟨⟨q + 1, hlt, by go_num, HB.out⟩, by simp [intOf]; omega⟩
      · by_cases c2 : (s[q].toNat : Int) = 9
        · have HB := blank (by omega)
          clear blank
          go_wp2
          exact ⟨⟨q + 1, hlt, by go_num, HB.out⟩, by simp [intOf]; omega⟩
        · by_cases c3 : (s[q].toNat : Int) = 10
          · have HB := blank (by omega)
            clear blank
            go_wp2
            exact ⟨⟨q + 1, hlt, by go_num, HB.out⟩, by simp [intOf]; omega⟩
          · by_cases c4 : (s[q].toNat : Int) = 13
            · have HB := blank (by omega)
              clear blank
              go_wp2
              exact ⟨⟨q + 1, hlt, by go_num, HB.out⟩, by simp [intOf]; omega⟩
            · by_cases c5 : (s[q].toNat : Int) = 35
              · clear blank c1 c2 c3 c4
                obtain ⟨E, hE⟩ : ∃ E, E = runW lineB s.data.toList q s.size := ⟨_, rfl⟩
                have h0 := skipB_rem hlt' (by rw [list_at s q hlt]; omega)
                rw [HL.out, ← hE] at h0
                obtain ⟨h1, h2⟩ := h0
                have HB : Hid (skipB s.data.toList E = skipB s.data.toList i) := by show _ = _; rw [← h1]; exact HK.out
                have HE := hid hE
                clear h1 hE HK
                go_wp2
                go_loop [1] (fun v => ∃ y : Nat, q ≤ y ∧ y ≤ s.size ∧ v = .int .i64 y ∧ Hid (runW lineB s.data.toList y s.size = E)) (fun v => s.size - (intOf v).toNat)
                case atStart => exact ⟨q, Nat.le_refl _, hq, rfl, HE.out.symm⟩
                case round =>
                  obtain ⟨y, hqy, hys, rfl, HY⟩ := hrel
                  by_cases hyl : y < s.size
                  · have hyl' : y < s.data.toList.length := by rw [HL.out]; exact hyl
                    by_cases d : (s[y].toNat : Int) = 10
                    · have e : runW lineB s.data.toList y s.size = y := runW_off hyl (Nat.le_of_eq HL.out.symm) (by rw [list_at s y hyl]; simp [lineB]; omega)
                      have e2 : y = E := by rw [← e]; exact HY.out
                      subst e2
                      clear e c5
                      go_wp2
                      exact ⟨⟨y, hys, rfl, HB.out⟩, by simp [intOf]; omega⟩
                    · have e : runW lineB s.data.toList y s.size = runW lineB s.data.toList (y + 1) s.size := runW_on hyl (Nat.le_of_eq HL.out.symm) (by rw [list_at s y hyl]; simp [lineB]; omega)
                      have HY1 : Hid (runW lineB s.data.toList (y + 1) s.size = E) := by show _ = _; rw [← e]; exact HY.out
                      have d1 : ((s[y].toNat : Int) == 10) = false := by rw [beq_eq_false_iff_ne]; exact d
                      have d2 : ((s[y].toNat : Int) != 10) = true := by rw [bne, d1]; rfl
                      clear e d c5 HY
                      go_wp2
                      exact ⟨⟨y + 1, by omega, hyl, by go_num, HY1.out⟩, by simp [intOf]; omega⟩
                  · have e2 : y = E := by
                      rw [← HY.out]
                      exact (runW_end (by omega)).symm
                    subst e2
                    clear c5
                    go_wp2
                    exact ⟨⟨y, hys, rfl, HB.out⟩, by simp [intOf]; omega⟩
              · have e : skipB s.data.toList i = q := by
                  rw [← HK.out]
                  exact skipB_stop hlt' (by rw [list_at s q hlt]; simp [blankB]; omega) (by rw [list_at s q hlt]; omega)
                have HS := hid e
                have b1 : ((s[q].toNat : Int) == 32) = false := by rw [beq_eq_false_iff_ne]; exact c1
                have b2 : ((s[q].toNat : Int) == 9) = false := by rw [beq_eq_false_iff_ne]; exact c2
                have b3 : ((s[q].toNat : Int) == 10) = false := by rw [beq_eq_false_iff_ne]; exact c3
                have b4 : ((s[q].toNat : Int) == 13) = false := by rw [beq_eq_false_iff_ne]; exact c4
                have b5 : ((s[q].toNat : Int) == 35) = false := by rw [beq_eq_false_iff_ne]; exact c5
                clear e blank c1 c2 c3 c4 c5 HK
                have HLT := hid (fun W => letter_any s[q] W)
                have HDT := hid (fun W => digit_any s[q] W)
                have hle : s.size ≤ s.data.toList.length := Nat.le_of_eq HL.out.symm
                cases hlet : letB s[q] with
                | true =>
                  rw [hlet] at HLT
                  obtain ⟨K, hK⟩ : ∃ K, K = runW alnB s.data.toList q s.size := ⟨_, rfl⟩
                  have k1 : q < K := by
                    rw [hK, runW_on hlt hle (by rw [list_at s q hlt]; simp [alnB, hlet])]
                    have := runW_ge alnB s.data.toList (q + 1) s.size
                    omega
                  have k2 : K ≤ s.size := by rw [hK]; exact runW_le (by omega)
                  have ht := nextT_word HS.out hlt' (by rw [list_at s q hlt]; exact hlet)
                  rw [HL.out, ← hK] at ht
                  have HT := hid ht
                  have hlen : ((s.data.toList.take K).drop q).length = K - q := by simp; omega
                  have HWD := hid (word_of ((s.data.toList.take K).drop q) q (by omega) (fun e => by rw [e] at hlen; simp at hlen; omega) (by omega))
                  have HK0 := hid hK
                  obtain ⟨tk, htk⟩ : ∃ tk, tk = wordT ((s.data.toList.take K).drop q) q := ⟨_, rfl⟩
                  rw [← htk] at HT HWD
                  clear hlet ht hlen hK HS hle HDT htk
                  go_wp2_with (go_at_call 57; refine (HLT.out _).mono ?_; rintro e w' ⟨rfl, rfl⟩)
                  go_loop [5] (fun v => ∃ y : Nat, q ≤ y ∧ y ≤ s.size ∧ v = .int .i64 y ∧ Hid (runW alnB s.data.toList y s.size = K)) (fun v => s.size - (intOf v).toNat)
                  case atStart => exact ⟨q, Nat.le_refl _, hq, rfl, HK0.out.symm⟩
                  case round =>
                    obtain ⟨y, hqy, hys, rfl, HY⟩ := hrel
                    clear b1 b2 b3 b4 b5
                    by_cases hyl : y < s.size
                    · have hle : s.size ≤ s.data.toList.length := Nat.le_of_eq HL.out.symm
                      have HLy := hid (fun W => letter_any s[y] W)
                      have HDy := hid (fun W => digit_any s[y] W)
                      cases ha : alnB s[y] with
                      | true =>
                        have HY1 : Hid (runW alnB s.data.toList (y + 1) s.size = K) := by
                          show _ = _
                          rw [← runW_on hyl hle (by rw [list_at s y hyl]; exact ha)]; exact HY.out
                        cases hl : letB s[y] with
                        | true =>
                          rw [hl] at HLy
                          clear hl ha hle HY HLT HDy
                          go_wp2_with (go_at_call 57; refine (HLy.out _).mono ?_; rintro e w' ⟨rfl, rfl⟩)
                          exact ⟨⟨y + 1, by omega, hyl, by go_num, HY1.out⟩, by simp [intOf]; omega⟩
                        | false =>
                          have hd : digB s[y] = true := by simpa [alnB, hl] using ha
                          rw [hl] at HLy
                          rw [hd] at HDy
                          clear hl hd ha hle HY HLT
                          go_wp2_with (first | (go_at_call 57; refine (HLy.out _).mono ?_; rintro e w' ⟨rfl, rfl⟩) | (go_at_call 58; refine (HDy.out _).mono ?_; rintro e w' ⟨rfl, rfl⟩))
                          exact ⟨⟨y + 1, by omega, hyl, by go_num, HY1.out⟩, by simp [intOf]; omega⟩
                      | false =>
                        have e2 : y = K := by
                          rw [← HY.out]
                          exact (runW_off hyl hle (by rw [list_at s y hyl]; exact ha)).symm
                        subst e2
                        have hl : letB s[y] = false := by simp [alnB] at ha; exact ha.1
                        have hd : digB s[y] = false := by simp [alnB] at ha; exact ha.2
                        rw [hl] at HLy
                        rw [hd] at HDy
                        clear hl hd ha hle HY HLT
                        go_wp2_with (first | (go_at_call 57; refine (HLy.out _).mono ?_; rintro e w' ⟨rfl, rfl⟩) | (go_at_call 58; refine (HDy.out _).mono ?_; rintro e w' ⟨rfl, rfl⟩))
                        refine (HWD.out _ _ (extract_str _ _ _)).mono ?_
                        rintro e w1 ⟨rfl, hb1⟩
                        have r0 : w1.heap[w.heap.size]? = some (.cells #[.int .i64 0, .int .i64 0, .int .i64 0, .int .i64 0] 76 (0, 0)) := (hb1.block _ (by simp)).trans (heap_alloc_new w _)
                        have c0 := fun j => cell_row r0 j
                        have f0 := fun j => unfrozen_row r0 j
                        have HB1 := hid hb1
                        clear hb1 HWD
                        go_wp2
                        rw [HT.out]
                        exact bodyPost_ret (v := tokV tk) (by simp [results, Tryz.results32, go_sem, c0]) rfl ⟨rfl, below_boxed HB1.out _ _ _ _⟩
                    · have e2 : y = K := by
                        rw [← HY.out]
                        exact (runW_end (by omega)).symm
                      subst e2
                      clear HLT
                      go_wp2_with fail
                      refine (HWD.out _ _ (extract_str _ _ _)).mono ?_
                      rintro e w1 ⟨rfl, hb1⟩
                      have r0 : w1.heap[w.heap.size]? = some (.cells #[.int .i64 0, .int .i64 0, .int .i64 0, .int .i64 0] 76 (0, 0)) := (hb1.block _ (by simp)).trans (heap_alloc_new w _)
                      have c0 := fun j => cell_row r0 j
                      have f0 := fun j => unfrozen_row r0 j
                      have HB1 := hid hb1
                      clear hb1 HWD
                      go_wp2
                      rw [HT.out]
                      exact bodyPost_ret (v := tokV tk) (by simp [results, Tryz.results32, go_sem, c0]) rfl ⟨rfl, below_boxed HB1.out _ _ _ _⟩
                | false =>
                  rw [hlet] at HLT
                  cases hdig : digB s[q] with
                  | true =>
                    rw [hdig] at HDT
                    obtain ⟨K, hK⟩ : ∃ K, K = runW digB s.data.toList q s.size := ⟨_, rfl⟩
                    have k1 : q < K := by
                      rw [hK, runW_on hlt hle (by rw [list_at s q hlt]; exact hdig)]
                      have := runW_ge digB s.data.toList (q + 1) s.size
                      omega
                    have k2 : K ≤ s.size := by rw [hK]; exact runW_le (by omega)
                    have HT : Hid (∀ tk, (K = q + 1 ∧ s[q].toNat ≤ 49 → tk = ⟨2, s[q].toNat - 48, q, q + 1⟩) → (¬ (K = q + 1 ∧ s[q].toNat ≤ 49) → tk = ⟨1, 133, q, K⟩) → nextT s.data.toList i = tk) := by
                      intro tk t1 t2
                      by_cases h : K = q + 1 ∧ s[q].toNat ≤ 49
                      · rw [t1 h, ← list_at s q hlt]
                        exact nextT_bit HS.out hlt' (by rw [list_at s q hlt]; exact hlet) (by rw [list_at s q hlt]; exact hdig) (by rw [HL.out, ← hK, list_at s q hlt]; exact h)
                      · rw [t2 h]
                        have := nextT_num HS.out hlt' (by rw [list_at s q hlt]; exact hlet) (by rw [list_at s q hlt]; exact hdig) (by rw [HL.out, ← hK, list_at s q hlt]; exact h)
                        rw [HL.out, ← hK] at this
                        exact this
                    have HK0 := hid hK
                    have hdr : 48 ≤ s[q].toNat ∧ s[q].toNat ≤ 57 := by simpa [digB] using hdig
                    clear hlet hdig hK HS hle
                    go_wp2_with (first | (go_at_call 57; refine (HLT.out _).mono ?_; rintro e w' ⟨rfl, rfl⟩) | (go_at_call 58; refine (HDT.out _).mono ?_; rintro e w' ⟨rfl, rfl⟩))
                    go_loop [5] (fun v => ∃ y : Nat, q ≤ y ∧ y ≤ s.size ∧ v = .int .i64 y ∧ Hid (runW digB s.data.toList y s.size = K)) (fun v => s.size - (intOf v).toNat)
                    case atStart => exact ⟨q, Nat.le_refl _, hq, rfl, HK0.out.symm⟩
                    case round =>
                      obtain ⟨y, hqy, hys, rfl, HY⟩ := hrel
                      clear b1 b2 b3 b4 b5
                      by_cases hyl : y < s.size
                      · have hle : s.size ≤ s.data.toList.length := Nat.le_of_eq HL.out.symm
                        have HDy := hid (fun W => digit_any s[y] W)
                        cases ha : digB s[y] with
                        | true =>
                          have HY1 : Hid (runW digB s.data.toList (y + 1) s.size = K) := by
                            show _ = _
                            rw [← runW_on hyl hle (by rw [list_at s y hyl]; exact ha)]; exact HY.out
                          rw [ha] at HDy
                          clear ha hle HY HLT HDT HT
                          go_wp2_with (go_at_call 58; refine (HDy.out _).mono ?_; rintro e w' ⟨rfl, rfl⟩)
                          exact ⟨⟨y + 1, by omega, hyl, by go_num, HY1.out⟩, by simp [intOf]; omega⟩
                        | false =>
                          have e2 : y = K := by
                            rw [← HY.out]
                            exact (runW_off hyl hle (by rw [list_at s y hyl]; exact ha)).symm
                          subst e2
                          rw [ha] at HDy
                          clear ha hle HY HLT HDT
                          have hd2 : (48 : Int) ≤ (s[q].toNat : Int) := by omega
                          have hd3 : (s[q].toNat : Int) ≤ 57 := by omega
                          by_cases hk : (y : Int) = (q : Int) + 1
                          · obtain rfl : y = q + 1 := by omega
                            clear hk
                            by_cases h1 : (s[q].toNat : Int) ≤ 49
                            · have HT2 := hid (HT.out _ (fun _ => rfl) (fun h => absurd ⟨by omega, by omega⟩ h))
                              clear HT
                              go_wp2_with (go_at_call 58; refine (HDy.out _).mono ?_; rintro e w' ⟨rfl, rfl⟩)
                              rw [HT2.out]
                              exact bodyPost_ret (v := tokV ⟨2, s[q].toNat - 48, q, q + 1⟩) (by simp [results, Tryz.results32, go_sem]; omega) rfl ⟨rfl, ((Below.refl _ _).alloc (Nat.le_refl _) _)⟩
                            · have HT2 := hid (HT.out _ (fun h => absurd h.2 (by omega)) (fun _ => rfl))
                              clear HT
                              go_wp2_with (go_at_call 58; refine (HDy.out _).mono ?_; rintro e w' ⟨rfl, rfl⟩)
                              rw [HT2.out]
                              exact bodyPost_ret (v := tokV ⟨1, 133, q, q + 1⟩) (by simp [results, Tryz.results32, go_sem]) rfl ⟨rfl, ((Below.refl _ _).alloc (Nat.le_refl _) _)⟩
                          · have HT2 := hid (HT.out _ (fun h => absurd h.1 (by omega)) (fun _ => rfl))
                            have hkb : ((y : Int) == (q : Int) + 1) = false := by rw [beq_eq_false_iff_ne]; exact hk
                            clear HT
                            go_wp2_with (go_at_call 58; refine (HDy.out _).mono ?_; rintro e w' ⟨rfl, rfl⟩)
                            rw [HT2.out]
                            exact bodyPost_ret (v := tokV ⟨1, 133, q, y⟩) (by simp [results, Tryz.results32, go_sem]) rfl ⟨rfl, ((Below.refl _ _).alloc (Nat.le_refl _) _)⟩
                      · have e2 : y = K := by
                          rw [← HY.out]
                          exact (runW_end (by omega)).symm
                        subst e2
                        clear HY HLT HDT
                        have hd2 : (48 : Int) ≤ (s[q].toNat : Int) := by omega
                        have hd3 : (s[q].toNat : Int) ≤ 57 := by omega
                        by_cases hk : (y : Int) = (q : Int) + 1
                        · obtain rfl : y = q + 1 := by omega
                          clear hk
                          by_cases h1 : (s[q].toNat : Int) ≤ 49
                          · have HT2 := hid (HT.out _ (fun _ => rfl) (fun h => absurd ⟨by omega, by omega⟩ h))
                            clear HT
                            go_wp2
                            rw [HT2.out]
                            exact bodyPost_ret (v := tokV ⟨2, s[q].toNat - 48, q, q + 1⟩) (by simp [results, Tryz.results32, go_sem]; omega) rfl ⟨rfl, ((Below.refl _ _).alloc (Nat.le_refl _) _)⟩
                          · have HT2 := hid (HT.out _ (fun h => absurd h.2 (by omega)) (fun _ => rfl))
                            clear HT
                            go_wp2
                            rw [HT2.out]
                            exact bodyPost_ret (v := tokV ⟨1, 133, q, q + 1⟩) (by simp [results, Tryz.results32, go_sem]) rfl ⟨rfl, ((Below.refl _ _).alloc (Nat.le_refl _) _)⟩
                        · have HT2 := hid (HT.out _ (fun h => absurd h.1 (by omega)) (fun _ => rfl))
                          have hkb : ((y : Int) == (q : Int) + 1) = false := by rw [beq_eq_false_iff_ne]; exact hk
                          clear HT
                          go_wp2
                          rw [HT2.out]
                          exact bodyPost_ret (v := tokV ⟨1, 133, q, y⟩) (by simp [results, Tryz.results32, go_sem]) rfl ⟨rfl, ((Below.refl _ _).alloc (Nat.le_refl _) _)⟩
                  | false =>
                    rw [hdig] at HDT
                    have HT := hid (nextT_sign HS.out hlt' (by rw [list_at s q hlt]; exact hlet) (by rw [list_at s q hlt]; exact hdig))
                    clear hlet hdig HS hle
                    have hsg := HSG.out.below ((Below.refl _ _).alloc (Nat.le_refl _) (.cells #[.int .i64 0, .int .i64 0, .int .i64 0, .int .i64 0] 76 (0, 0)))
                    have cv := hsg.var
                    have HSW := hid hsg
                    clear hsg
                    go_wp2_with (first | (go_at_call 57; refine (HLT.out _).mono ?_; rintro e w' ⟨rfl, rfl⟩) | (go_at_call 58; refine (HDT.out _).mono ?_; rintro e w' ⟨rfl, rfl⟩))
                    clear cv
                    go_loopw [6] (fun v W => ∃ y : Nat, y ≤ 21 ∧ v = .int .i64 y ∧ Hid (PureForm.signT s.data.toList q (signs.drop y) = PureForm.signT s.data.toList q signs) ∧ Hid (Below (w.alloc (.cells #[.int .i64 0, .int .i64 0, .int .i64 0, .int .i64 0] 76 (0, 0))).heap.size (w.alloc (.cells #[.int .i64 0, .int .i64 0, .int .i64 0, .int .i64 0] 76 (0, 0))) W)) (fun v _ => 21 - (intOf v).toNat)
                    case atStart => exact ⟨0, by omega, rfl, rfl, Below.refl _ _⟩
                    case round =>
                      obtain ⟨y, hy, rfl, HY, HBW⟩ := hrel
                      clear b1 b2 b3 b4 b5 HLT HDT
                      have hsg := HSW.out.below HBW.out
                      have cv := hsg.var
                      have r0 := (HBW.out.block w.heap.size (by simp)).trans (heap_alloc_new w _)
                      have c0 := fun j => cell_row r0 j
                      have f0 := fun j => unfrozen_row r0 j
                      by_cases hyl : y < 21
                      · obtain ⟨e0, e1, e2⟩ := hsg.at_ y hyl
                        have hn := sg_len y
                        obtain ⟨n1, n2⟩ := sg_num y
                        have hst : PureForm.signT s.data.toList q (signs.drop y) = if (s.data.toList.drop q).take (sg y).1.length = (sg y).1 then ⟨(sg y).2.1, (sg y).2.2, q, q + (sg y).1.length⟩ else PureForm.signT s.data.toList q (signs.drop (y + 1)) := by rw [signs_drop hyl, PureForm.signT]
                        have HST := hid hst
                        have hex : s.extract q (q + (sg y).1.length) = ⟨((s.data.toList.drop q).take (sg y).1.length).toArray⟩ := by
                          rw [extract_str, List.drop_take, Nat.add_sub_cancel_left]
                        clear hst hsg
                        by_cases hfit : q + (sg y).1.length ≤ s.size
                        · have hfI : (q : Int) + ((sg y).1.length : Int) ≤ (s.size : Int) := by omega
                          by_cases heq : (s.data.toList.drop q).take (sg y).1.length = (sg y).1
                          · rw [heq] at hex
                            have HT2 : Hid (nextT s.data.toList i = ⟨(sg y).2.1, (sg y).2.2, q, q + (sg y).1.length⟩) := by
                              show _ = _
                              rw [HT.out, ← HY.out, HST.out, if_pos heq]
                            clear heq
                            obtain ⟨L, hL⟩ : ∃ L, L = (sg y).1.length := ⟨_, rfl⟩
                            go_wp2
                            go_quiet (fail)
                            go_wp2
                            go_region
                            have c0 := fun j => cell_row r0 j
                            go_wp2
                            rw [HT2.out]
                            exact bodyPost_ret (v := tokV ⟨(sg y).2.1, (sg y).2.2, q, q + (sg y).1.length⟩) (by simp [results, Tryz.results32, go_sem, c0]) rfl ⟨rfl, below_boxed (below_drewN HBW.out _) _ _ _ _⟩
                          · have hne : ((s.extract q (q + (sg y).1.length)).toList == (sg y).1) = false := by
                              rw [hex, ByteArray_toList]
                              simpa using heq
                            have HY1 : Hid (PureForm.signT s.data.toList q (signs.drop (y + 1)) = PureForm.signT s.data.toList q signs) := by
                              show _ = _
                              rw [← HY.out, HST.out, if_neg heq]
                            clear heq hex
                            go_wp2
                            go_quiet (fail)
                            go_wp2
                            exact ⟨⟨y + 1, hyl, by go_num, HY1.out, below_drewN HBW.out _⟩, by simp [intOf]; omega⟩
                        · have hfI : ¬ (q : Int) + ((sg y).1.length : Int) ≤ (s.size : Int) := by omega
                          have HY1 : Hid (PureForm.signT s.data.toList q (signs.drop (y + 1)) = PureForm.signT s.data.toList q signs) := by
                            show _ = _
                            rw [← HY.out, HST.out, if_neg]
                            intro e
                            have := congrArg List.length e
                            simp [HL.out] at this
                            omega
                          have hfD : decide ((q : Int) + ((sg y).1.length : Int) ≤ (s.size : Int)) = false := decide_eq_false hfI
                          have hwr : IntKind.i64.wrap ((q : Int) + ((sg y).1.length : Int)) = (q : Int) + ((sg y).1.length : Int) := wrap_i64 _ (by omega) (by omega)
                          go_wp2
                          go_quiet (fail)
                          go_wp2
                          exact ⟨⟨y + 1, hyl, by go_num, HY1.out, below_drewN HBW.out _⟩, by simp [intOf]; omega⟩
                      · have HT2 : Hid (nextT s.data.toList i = ⟨1, 130, q, q + 1⟩) := by
                          show _ = _
                          have e : y = 21 := by omega
                          rw [HT.out, ← HY.out, e]; rfl
                        go_wp2
                        rw [HT2.out]
                        exact bodyPost_ret (v := tokV ⟨1, 130, q, q + 1⟩) (by simp [results, Tryz.results32, go_sem, c0]) rfl ⟨rfl, below_boxed HBW.out _ _ _ _⟩
    · have e : skipB s.data.toList i = q := by rw [← HK.out]; exact skipB_end (by rw [HL.out]; exact hlt)
      have HT : Hid (nextT s.data.toList i = ⟨0, 0, s.size, s.size⟩) := by
        show _ = _
        unfold nextT
        rw [dif_neg (by rw [e, HL.out]; exact hlt), HL.out]
      clear e HK
      go_wp2
      rw [HT.out]
      exact bodyPost_ret (v := tokV ⟨0, 0, s.size, s.size⟩) (by simp [results, Tryz.results32, go_sem, tokV]) rfl ⟨rfl, ((Below.refl _ _).alloc (Nat.le_refl _) _)⟩
end Go.Proofs.YtdkboifpdodonabGreatDoor.Ref
