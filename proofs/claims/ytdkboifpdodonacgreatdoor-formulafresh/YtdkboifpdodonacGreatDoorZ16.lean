import Derived.Test.YtdkboifpdodonacGreatDoorZ15
set_option linter.unusedSimpArgs false
/-
 The document's own word.
-/
namespace Go.Proofs.YtdkboifpdodonacGreatDoor.Ref
open Go.RowKit Go.Deep PureCnf PureForm
set_option maxRecDepth 100000

theorem str_size (l : List UInt8) : (⟨l.toArray⟩ : ByteArray).size = l.length := by simp [ByteArray.size]
theorem two_allocs (w : World) (a b : Obj) : Below w.heap.size w ((w.alloc a).alloc b) := ((Below.refl _ _).alloc (Nat.le_refl _) _).alloc (by simp) _

set_option maxHeartbeats 1000000 in
theorem word_key (l : List UInt8) (k n : Nat) (at_ : Nat) (w : World) (ha : at_ ≤ 1048576)
  (h : (l = [116, 114, 117, 101] ∧ k = 2 ∧ n = 1) ∨ (l = [102, 97, 108, 115, 101] ∧ k = 2 ∧ n = 0) ∨ (l = [101, 120, 105, 115, 116, 115] ∧ k = 5 ∧ n = 4) ∨ (l = [102, 111, 114, 97, 108, 108] ∧ k = 5 ∧ n = 5) ∨ (l = [105, 116, 101] ∧ k = 6 ∧ n = 131)) :
  Calls Tryz.prog 44 #[str l, .int .i64 (at_ : Int)] w fun e w' => e = .returned (tokV ⟨k, n, at_, at_ + l.length⟩) ∧ Below w.heap.size w w' := by
 rcases h with ⟨rfl, rfl, rfl⟩ | ⟨rfl, rfl, rfl⟩ | ⟨rfl, rfl, rfl⟩ | ⟨rfl, rfl, rfl⟩ | ⟨rfl, rfl, rfl⟩
 all_goals
  go_enter Tryz.func44, Tryz.ntmps44
  go_wp2
  exact bodyPost_ret (v := tokV ⟨_, _, at_, at_ + _⟩) (by simp [results, Tryz.results44, go_sem, tokV]) rfl ⟨rfl, two_allocs _ _ _⟩

set_option maxHeartbeats 1000000 in
/-- a word that is none of these. -/
theorem word_other (c : UInt8) (t : List UInt8) (at_ : Nat) (w : World) (ha : at_ ≤ 1048576) (hl : t.length ≤ 1048576)
  (n1 : ((c :: t) == [116, 114, 117, 101]) = false) (n2 : ((c :: t) == [102, 97, 108, 115, 101]) = false) (n3 : ((c :: t) == [101, 120, 105, 115, 116, 115]) = false) (n4 : ((c :: t) == [102, 111, 114, 97, 108, 108]) = false) (n5 : ((c :: t) == [105, 116, 101]) = false)
  (hx : ((c.toNat : Int) == 120) = false) :
  Calls Tryz.prog 44 #[str (c :: t), .int .i64 (at_ : Int)] w fun e w' => e = .returned (tokV ⟨1, 131, at_, at_ + (c :: t).length⟩) ∧ Below w.heap.size w w' := by
 have hs : (⟨(c :: t).toArray⟩ : ByteArray).size = t.length + 1 := str_size _
 have hc0 : ((⟨(c :: t).toArray⟩ : ByteArray)[0]'(by rw [hs]; omega)) = c := rfl
 go_enter Tryz.func44, Tryz.ntmps44
 go_wp2
 exact bodyPost_ret (v := tokV ⟨_, _, at_, at_ + _⟩) (by simp [results, Tryz.results44, go_sem, tokV]) rfl ⟨rfl, two_allocs _ _ _⟩

/-- number, of a string that is these bytes. -/
theorem number_of (l : List UInt8) (n : Int) (hl : l.length ≤ 1048576) (hn : numB l 65535 = n) : ∀ (W : World) (s : ByteArray), s = ⟨l.toArray⟩ → Calls Tryz.prog 48 #[.string s, .int .i64 65535] W fun e w' => e = .returned (.int .i64 n) ∧ w' = W := by
 rintro W s rfl
 have := number_any ⟨l.toArray⟩ 65535 W (by rw [str_size]; omega) (by omega)
 simpa [hn] using this

set_option maxHeartbeats 1000000 in
theorem word_x0 (at_ : Nat) (w : World) (ha : at_ ≤ 1048576) :
  Calls Tryz.prog 44 #[str [120], .int .i64 (at_ : Int)] w fun e w' => e = .returned (tokV ⟨1, 133, at_, at_ + 1⟩) ∧ Below w.heap.size w w' := by
 have HN := hid (number_of [] (-1) (by simp) (by decide))
 go_enter Tryz.func44, Tryz.ntmps44
 go_wp2_with fail
 refine (HN.out _ _ rfl).mono ?_
 rintro e w' ⟨rfl, rfl⟩
 go_wp2
 exact bodyPost_ret (v := tokV ⟨_, _, at_, at_ + _⟩) (by simp [results, Tryz.results44, go_sem, tokV]) rfl ⟨rfl, two_allocs _ _ _⟩

theorem tail_str (c : UInt8) (l : List UInt8) (n : Nat) (hn : n = l.length + 1) : (⟨(c :: l).toArray⟩ : ByteArray).extract 1 n = ⟨l.toArray⟩ := by
 subst hn
 rw [extract_str]
 simp

set_option maxHeartbeats 1000000 in
theorem word_xd (d : UInt8) (t : List UInt8) (at_ : Nat) (w : World) (ha : at_ ≤ 1048576) (hl : t.length ≤ 1048574) :
  Calls Tryz.prog 44 #[str (120 :: d :: t), .int .i64 (at_ : Int)] w fun e w' => e = .returned (tokV (wordT (120 :: d :: t) at_)) ∧ Below w.heap.size w w' := by
 have hs : (⟨(120 :: d :: t).toArray⟩ : ByteArray).size = t.length + 2 := str_size _
 have hc0 : ((⟨(120 :: d :: t).toArray⟩ : ByteArray)[0]'(by rw [hs]; omega)) = 120 := rfl
 have hc1 : ((⟨(120 :: d :: t).toArray⟩ : ByteArray)[1]'(by rw [hs]; omega)) = d := rfl
 have HDG := hid (fun W => digit_any d W)
 cases hd : digB d with
 | false =>
  have HW : Hid (wordT (120 :: d :: t) at_ = ⟨1, 131, at_, at_ + (t.length + 2)⟩) := by show _ = _; simp [wordT, hd]
  rw [hd] at HDG
  clear hd
  go_enter Tryz.func44, Tryz.ntmps44
  go_wp2_with (go_at_call 43; refine (HDG.out _).mono ?_; rintro e w' ⟨rfl, rfl⟩)
  rw [HW.out]
  exact bodyPost_ret (v := tokV ⟨_, _, at_, at_ + _⟩) (by simp [results, Tryz.results44, go_sem, tokV]) rfl ⟨rfl, two_allocs _ _ _⟩
 | true =>
  obtain ⟨n, hn⟩ : ∃ n, n = numB (d :: t) 65535 := ⟨_, rfl⟩
  have hr := numB_range (d :: t) 65535
  rw [← hn] at hr
  obtain ⟨r1, r2⟩ := hr
  have HN := hid (number_of (d :: t) n (by simp; omega) hn.symm)
  rw [hd] at HDG
  by_cases h0 : 0 ≤ n
  ·have HW : Hid (wordT (120 :: d :: t) at_ = ⟨3, n.toNat, at_, at_ + (t.length + 2)⟩) := by show _ = _; simp [wordT, hd, ← hn, h0]
   obtain ⟨m, rfl⟩ : ∃ m : Nat, n = m := ⟨n.toNat, by omega⟩
   clear hd hn
   go_enter Tryz.func44, Tryz.ntmps44
   go_wp2_with (first | (go_at_call 43; refine (HDG.out _).mono ?_; rintro e w' ⟨rfl, rfl⟩) | (go_at_call 48; refine (HN.out _ _ (tail_str _ _ _ (by simp))).mono ?_; rintro e w' ⟨rfl, rfl⟩))
   rw [HW.out]
   exact bodyPost_ret (v := tokV ⟨_, _, at_, at_ + _⟩) (by simp [results, Tryz.results44, go_sem, tokV]) rfl ⟨rfl, two_allocs _ _ _⟩
  ·have HW : Hid (wordT (120 :: d :: t) at_ = ⟨1, 133, at_, at_ + (t.length + 2)⟩) := by show _ = _; simp [wordT, hd, ← hn, h0]
   clear hd hn
   go_enter Tryz.func44, Tryz.ntmps44
   go_wp2_with (first | (go_at_call 43; refine (HDG.out _).mono ?_; rintro e w' ⟨rfl, rfl⟩) | (go_at_call 48; refine (HN.out _ _ (tail_str _ _ _ (by simp))).mono ?_; rintro e w' ⟨rfl, rfl⟩))
   rw [HW.out]
   exact bodyPost_ret (v := tokV ⟨_, _, at_, at_ + _⟩) (by simp [results, Tryz.results44, go_sem, tokV]) rfl ⟨rfl, two_allocs _ _ _⟩

/-- the token of a word. -/
theorem word_any (l : List UInt8) (at_ : Nat) (w : World) (ha : at_ ≤ 1048576) (h0 : l ≠ []) (hl : l.length ≤ 1048576) :
  Calls Tryz.prog 44 #[str l, .int .i64 (at_ : Int)] w fun e w' => e = .returned (tokV (wordT l at_)) ∧ Below w.heap.size w w' := by
 by_cases h1 : l = [116, 114, 117, 101]
 ·have := word_key l 2 1 at_ w ha (.inl ⟨h1, rfl, rfl⟩)
  rwa [show wordT l at_ = ⟨2, 1, at_, at_ + l.length⟩ by simp [wordT, h1]]
 ·by_cases h2 : l = [102, 97, 108, 115, 101]
  ·have := word_key l 2 0 at_ w ha (.inr (.inl ⟨h2, rfl, rfl⟩))
   rwa [show wordT l at_ = ⟨2, 0, at_, at_ + l.length⟩ by simp [wordT, h2]]
  ·by_cases h3 : l = [101, 120, 105, 115, 116, 115]
   ·have := word_key l 5 4 at_ w ha (.inr (.inr (.inl ⟨h3, rfl, rfl⟩)))
    rwa [show wordT l at_ = ⟨5, 4, at_, at_ + l.length⟩ by simp [wordT, h3]]
   ·by_cases h4 : l = [102, 111, 114, 97, 108, 108]
    ·have := word_key l 5 5 at_ w ha (.inr (.inr (.inr (.inl ⟨h4, rfl, rfl⟩))))
     rwa [show wordT l at_ = ⟨5, 5, at_, at_ + l.length⟩ by simp [wordT, h4]]
    ·by_cases h5 : l = [105, 116, 101]
     ·have := word_key l 6 131 at_ w ha (.inr (.inr (.inr (.inr ⟨h5, rfl, rfl⟩))))
      rwa [show wordT l at_ = ⟨6, 131, at_, at_ + l.length⟩ by simp [wordT, h5]]
     ·obtain ⟨c, t, rfl⟩ := List.exists_cons_of_ne_nil h0
      by_cases h6 : c = 120
      ·subst h6
       cases t with
       | nil =>
        have := word_x0 at_ w ha
        rwa [show wordT [120] at_ = ⟨1, 133, at_, at_ + 1⟩ by simp [wordT, numB, numOk, plainB]]
       | cons d t => exact word_xd d t at_ w ha (by simp at hl; omega)
      ·have hx : ((c.toNat : Int) == 120) = false := by
        rw [beq_eq_false_iff_ne]
        intro e
        exact h6 (UInt8.toNat_inj.1 (show c.toNat = (120 : UInt8).toNat by have : (120 : UInt8).toNat = 120 := rfl; omega))
       have := word_other c t at_ w ha (by simp at hl; omega) (by rw [beq_eq_false_iff_ne]; exact h1) (by rw [beq_eq_false_iff_ne]; exact h2) (by rw [beq_eq_false_iff_ne]; exact h3) (by rw [beq_eq_false_iff_ne]; exact h4) (by rw [beq_eq_false_iff_ne]; exact h5) hx
       rwa [show wordT (c :: t) at_ = ⟨1, 131, at_, at_ + (c :: t).length⟩ by
        unfold wordT
        rw [if_neg h1, if_neg h2, if_neg h3, if_neg h4, if_neg h5, if_neg (by simp [h6])]]
end Go.Proofs.YtdkboifpdodonacGreatDoor.Ref
/-
 The document's own next: blanks, words, digits, signs.
-/
namespace Go.Proofs.YtdkboifpdodonacGreatDoor.Ref
open Go.RowKit Go.Deep PureCnf PureForm
set_option maxRecDepth 100000

theorem skipB_end {l : List UInt8} {q : Nat} (h : ¬ q < l.length) : skipB l q = q := by rw [skipB_eq, dif_neg h]
theorem skipB_bl1 {l : List UInt8} {q : Nat} (h : q < l.length) (hb : blankB l[q] = true) : skipB l q = skipB l (q + 1) := by
 have h35 : l[q].toNat ≠ 35 := by simp [blankB] at hb; omega
 rw [skipB_eq, dif_pos h, if_neg h35, if_pos hb]
theorem skipB_stop {l : List UInt8} {q : Nat} (h : q < l.length) (hb : blankB l[q] = false) (h35 : l[q].toNat ≠ 35) : skipB l q = q := by
 rw [skipB_eq, dif_pos h, if_neg h35, hb]; simp
theorem skipB_rem {l : List UInt8} {q : Nat} (h : q < l.length) (h35 : l[q].toNat = 35) : skipB l q = skipB l (runW lineB l q l.length) ∧ q < runW lineB l q l.length := by
 have h1 : lineB l[q] = true := by simp [lineB, h35]
 have h2 : q < runW lineB l q l.length := by
  rw [runW_on h (Nat.le_refl _) h1]
  have := runW_ge lineB l (q + 1) l.length
  omega
 refine ⟨?_, h2⟩
 rw [skipB_eq, dif_pos h, if_pos h35, dif_pos h2]

theorem nextT_word {l : List UInt8} {i q : Nat} (hs : skipB l i = q) (h : q < l.length) (hl : letB l[q] = true) : nextT l i = wordT ((l.take (runW alnB l q l.length)).drop q) q := by
 subst hs
 unfold nextT
 rw [dif_pos h, if_pos hl]
theorem nextT_bit {l : List UInt8} {i q : Nat} (hs : skipB l i = q) (h : q < l.length) (hl : letB l[q] = false) (hd : digB l[q] = true) (hr : runW digB l q l.length = q + 1 ∧ l[q].toNat ≤ 49) : nextT l i = ⟨2, l[q].toNat - 48, q, q + 1⟩ := by
 subst hs
 unfold nextT
 rw [dif_pos h, if_neg (by rw [hl]; decide), if_pos hd, if_pos hr]
theorem nextT_num {l : List UInt8} {i q : Nat} (hs : skipB l i = q) (h : q < l.length) (hl : letB l[q] = false) (hd : digB l[q] = true) (hr : ¬ (runW digB l q l.length = q + 1 ∧ l[q].toNat ≤ 49)) : nextT l i = ⟨1, 133, q, runW digB l q l.length⟩ := by
 subst hs
 unfold nextT
 rw [dif_pos h, if_neg (by rw [hl]; decide), if_pos hd, if_neg hr]
theorem nextT_sign {l : List UInt8} {i q : Nat} (hs : skipB l i = q) (h : q < l.length) (hl : letB l[q] = false) (hd : digB l[q] = false) : nextT l i = PureForm.signT l q signs := by
 subst hs
 unfold nextT
 rw [dif_pos h, if_neg (by rw [hl]; decide), if_neg (by rw [hd]; decide)]

theorem word_of (l : List UInt8) (at_ : Nat) (ha : at_ ≤ 1048576) (h0 : l ≠ []) (hl : l.length ≤ 1048576) : ∀ (W : World) (s : ByteArray), s = ⟨l.toArray⟩ → Calls Tryz.prog 44 #[.string s, .int .i64 (at_ : Int)] W fun e w' => e = .returned (tokV (wordT l at_)) ∧ Below W.heap.size W w' := by
 rintro W s rfl
 exact word_any l at_ W ha h0 hl

theorem wrap_i64 (x : Int) (h1 : -9223372036854775808 ≤ x) (h2 : x ≤ 9223372036854775807) : IntKind.i64.wrap x = x := by
 simp [IntKind.wrap, IntKind.signed, IntKind.bits]
 omega
theorem ByteArray_toList (l : List UInt8) : (⟨l.toArray⟩ : ByteArray).toList = l := by
 simp
theorem below_boxed {w w1 : World} {o : Obj} (h : Below (w.alloc o).heap.size (w.alloc o) w1) (a b c d : Value) : Below w.heap.size w ((((w1.setCell ⟨w.heap.size, 0, none⟩ a).setCell ⟨w.heap.size, 1, none⟩ b).setCell ⟨w.heap.size, 2, none⟩ c).setCell ⟨w.heap.size, 3, none⟩ d) := by
 have h1 : Below w.heap.size w w1 := ((Below.refl _ _).alloc (Nat.le_refl _) _).trans (h.mono (by simp))
 exact (((h1.setCell (by simp) _).setCell (by simp) _).setCell (by simp) _).setCell (by simp) _

/-- a spelling of the table. -/
def sg (k : Nat) : List UInt8 × Nat × Nat := signs.getD k ([], 0, 0)
theorem sg_len (k : Nat) : (sg k).1.length ≤ 3 := by
 unfold sg
 by_cases h : k < 21
 ·have : ∀ j : Fin 21, (signs.getD j.val ([], 0, 0)).1.length ≤ 3 := by decide
  exact this ⟨k, h⟩
 ·have : signs[k]? = none := List.getElem?_eq_none (by show 21 ≤ k; omega)
  simp [List.getD, this]
theorem sg_num (k : Nat) : (sg k).2.1 ≤ 11 ∧ (sg k).2.2 ≤ 11 := by
 unfold sg
 by_cases h : k < 21
 ·have : ∀ j : Fin 21, (signs.getD j.val ([], 0, 0)).2.1 ≤ 11 ∧ (signs.getD j.val ([], 0, 0)).2.2 ≤ 11 := by decide
  exact this ⟨k, h⟩
 ·have : signs[k]? = none := List.getElem?_eq_none (by show 21 ≤ k; omega)
  simp [List.getD, this]
theorem signs_drop {k : Nat} (h : k < 21) : signs.drop k = sg k :: signs.drop (k + 1) := by
 have hl : k < signs.length := h
 rw [List.drop_eq_getElem_cons hl, sg]
 simp [List.getD, List.getElem?_eq_getElem hl]

/-- the table of signs, where the package's variable has it. -/
structure SignsAt (W : World) (g o c : Nat) : Prop where
 lt : g < W.heap.size
 lt1 : 0 < W.heap.size
 var : W.cell? ⟨0, 0, none⟩ = some (.slice (some ⟨g, o, none⟩) 21 c)
 at_ : ∀ k, k < 21 → W.cell? ⟨g, o + k * 3, none⟩ = some (str (sg k).1) ∧ W.cell? ⟨g, o + k * 3 + 1, none⟩ = some (.int .i64 (sg k).2.1) ∧ W.cell? ⟨g, o + k * 3 + 2, none⟩ = some (.int .i64 (sg k).2.2)
theorem SignsAt.below {W W' : World} {g o c : Nat} (h : SignsAt W g o c) (hb : Below W.heap.size W W') : SignsAt W' g o c :=
 ⟨Nat.lt_of_lt_of_le h.lt hb.size, Nat.lt_of_lt_of_le h.lt1 hb.size, below_cell hb h.lt1 h.var, fun k hk => ⟨below_cell hb h.lt (h.at_ k hk).1, below_cell hb h.lt (h.at_ k hk).2.1, below_cell hb h.lt (h.at_ k hk).2.2⟩⟩

set_option maxHeartbeats 4000000 in
set_option maxRecDepth 100000 in
theorem next_any (s : ByteArray) (i : Nat) (w : World) (g o c : Nat) (hsg : SignsAt w g o c) (hs : s.size ≤ 1048576) (hi : i ≤ s.size) :
  Calls Tryz.prog 17 #[.string s, .int .i64 (i : Int)] w fun e w' => e = .returned (tokV (nextT s.data.toList i)) ∧ Below w.heap.size w w' := by
 have HL : Hid (s.data.toList.length = s.size) := by show _ = _; simp
 have HSG := hid hsg
 clear hsg
 go_enter Tryz.func17, Tryz.ntmps17
 go_wp2
 go_loop [1] (fun v => ∃ q : Nat, q ≤ s.size ∧ v = .int .i64 q ∧ Hid (skipB s.data.toList q = skipB s.data.toList i)) (fun v => s.size - (intOf v).toNat)
 case atStart => exact ⟨i, hi, rfl, rfl⟩
 case round =>
  obtain ⟨q, hq, rfl, HK⟩ := hrel
  by_cases hlt : q < s.size
  ·have hlt' : q < s.data.toList.length := by rw [HL.out]; exact hlt
   have blank : (s[q].toNat = 32 ∨ s[q].toNat = 9 ∨ s[q].toNat = 10 ∨ s[q].toNat = 13) → Hid (skipB s.data.toList (q + 1) = skipB s.data.toList i) := fun h => by
    show _ = _
    rw [← HK.out, skipB_bl1 hlt' (by rw [list_at s q hlt]; simp [blankB]; exact h)]
   by_cases c1 : (s[q].toNat : Int) = 32
   ·have HB := blank (by omega)
    clear blank
    go_wp2
    exact ⟨⟨q + 1, hlt, by go_num, HB.out⟩, by simp [intOf]; omega⟩
   ·by_cases c2 : (s[q].toNat : Int) = 9
    ·have HB := blank (by omega)
     clear blank
     go_wp2
     exact ⟨⟨q + 1, hlt, by go_num, HB.out⟩, by simp [intOf]; omega⟩
    ·by_cases c3 : (s[q].toNat : Int) = 10
     ·have HB := blank (by omega)
      clear blank
      go_wp2
      exact ⟨⟨q + 1, hlt, by go_num, HB.out⟩, by simp [intOf]; omega⟩
     ·by_cases c4 : (s[q].toNat : Int) = 13
      ·have HB := blank (by omega)
       clear blank
       go_wp2
       exact ⟨⟨q + 1, hlt, by go_num, HB.out⟩, by simp [intOf]; omega⟩
      ·by_cases c5 : (s[q].toNat : Int) = 35
       ·clear blank c1 c2 c3 c4
        obtain ⟨E, hE⟩ : ∃ E, E = runW lineB s.data.toList q s.size := ⟨_, rfl⟩
        have h0 := skipB_rem hlt' (by rw [list_at s q hlt]; omega)
        rw [HL.out, ← hE] at h0
        obtain ⟨h1, h2⟩ := h0
        have HB : Hid (skipB s.data.toList E = skipB s.data.toList i) := by show _ = _; rw [← h1]; exact HK.out
        have HE := hid hE
        clear h1 hE HK
        go_wp2
        go_loop [1] (fun v => ∃ y : Nat, q ≤ y ∧ y ≤ s.size ∧ v = .int .i64 y ∧ Hid (runW lineB s.data.toList y s.size = E)) (fun v => s.size - (intOf v).toNat)
        case atStart => exact ⟨q, Nat.le_refl _, hq, rfl, HE.out.symm⟩
        case round =>
         obtain ⟨y, hqy, hys, rfl, HY⟩ := hrel
         by_cases hyl : y < s.size
         ·have hyl' : y < s.data.toList.length := by rw [HL.out]; exact hyl
          by_cases d : (s[y].toNat : Int) = 10
          ·have e : runW lineB s.data.toList y s.size = y := runW_off hyl (Nat.le_of_eq HL.out.symm) (by rw [list_at s y hyl]; simp [lineB]; omega)
           have e2 : y = E := by rw [← e]; exact HY.out
           subst e2
           clear e c5
           go_wp2
           exact ⟨⟨y, hys, rfl, HB.out⟩, by simp [intOf]; omega⟩
          ·have e : runW lineB s.data.toList y s.size = runW lineB s.data.toList (y + 1) s.size := runW_on hyl (Nat.le_of_eq HL.out.symm) (by rw [list_at s y hyl]; simp [lineB]; omega)
           have HY1 : Hid (runW lineB s.data.toList (y + 1) s.size = E) := by show _ = _; rw [← e]; exact HY.out
           have d1 : ((s[y].toNat : Int) == 10) = false := by rw [beq_eq_false_iff_ne]; exact d
           have d2 : ((s[y].toNat : Int) != 10) = true := by rw [bne, d1]; rfl
           clear e d c5 HY
           go_wp2
           exact ⟨⟨y + 1, by omega, hyl, by go_num, HY1.out⟩, by simp [intOf]; omega⟩
         ·have e2 : y = E := by
           rw [← HY.out]
           exact (runW_end (by omega)).symm
          subst e2
          clear c5
          go_wp2
          exact ⟨⟨y, hys, rfl, HB.out⟩, by simp [intOf]; omega⟩
       ·have e : skipB s.data.toList i = q := by
         rw [← HK.out]
         exact skipB_stop hlt' (by rw [list_at s q hlt]; simp [blankB]; omega) (by rw [list_at s q hlt]; omega)
        have HS := hid e
        have b1 : ((s[q].toNat : Int) == 32) = false := by rw [beq_eq_false_iff_ne]; exact c1
        have b2 : ((s[q].toNat : Int) == 9) = false := by rw [beq_eq_false_iff_ne]; exact c2
        have b3 : ((s[q].toNat : Int) == 10) = false := by rw [beq_eq_false_iff_ne]; exact c3
        have b4 : ((s[q].toNat : Int) == 13) = false := by rw [beq_eq_false_iff_ne]; exact c4
        have b5 : ((s[q].toNat : Int) == 35) = false := by rw [beq_eq_false_iff_ne]; exact c5
        clear e blank c1 c2 c3 c4 c5 HK
        have HLT := hid (fun W => letter_any s[q] W)
        have HDT := hid (fun W => digit_any s[q] W)
        have hle : s.size ≤ s.data.toList.length := Nat.le_of_eq HL.out.symm
        cases hlet : letB s[q] with
        | true =>
         rw [hlet] at HLT
         obtain ⟨K, hK⟩ : ∃ K, K = runW alnB s.data.toList q s.size := ⟨_, rfl⟩
         have k1 : q < K := by
          rw [hK, runW_on hlt hle (by rw [list_at s q hlt]; simp [alnB, hlet])]
          have := runW_ge alnB s.data.toList (q + 1) s.size
          omega
         have k2 : K ≤ s.size := by rw [hK]; exact runW_le (by omega)
         have ht := nextT_word HS.out hlt' (by rw [list_at s q hlt]; exact hlet)
         rw [HL.out, ← hK] at ht
         have HT := hid ht
         have hlen : ((s.data.toList.take K).drop q).length = K - q := by simp; omega
         have HWD := hid (word_of ((s.data.toList.take K).drop q) q (by omega) (fun e => by rw [e] at hlen; simp at hlen; omega) (by omega))
         have HK0 := hid hK
         obtain ⟨tk, htk⟩ : ∃ tk, tk = wordT ((s.data.toList.take K).drop q) q := ⟨_, rfl⟩
         rw [← htk] at HT HWD
         clear hlet ht hlen hK HS hle HDT htk
         go_wp2_with (go_at_call 42; refine (HLT.out _).mono ?_; rintro e w' ⟨rfl, rfl⟩)
         go_loop [5] (fun v => ∃ y : Nat, q ≤ y ∧ y ≤ s.size ∧ v = .int .i64 y ∧ Hid (runW alnB s.data.toList y s.size = K)) (fun v => s.size - (intOf v).toNat)
         case atStart => exact ⟨q, Nat.le_refl _, hq, rfl, HK0.out.symm⟩
         case round =>
          obtain ⟨y, hqy, hys, rfl, HY⟩ := hrel
          clear b1 b2 b3 b4 b5
          by_cases hyl : y < s.size
          ·have hle : s.size ≤ s.data.toList.length := Nat.le_of_eq HL.out.symm
           have HLy := hid (fun W => letter_any s[y] W)
           have HDy := hid (fun W => digit_any s[y] W)
           cases ha : alnB s[y] with
           | true =>
            have HY1 : Hid (runW alnB s.data.toList (y + 1) s.size = K) := by
             show _ = _
             rw [← runW_on hyl hle (by rw [list_at s y hyl]; exact ha)]; exact HY.out
            cases hl : letB s[y] with
            | true =>
             rw [hl] at HLy
             clear hl ha hle HY HLT HDy
             go_wp2_with (go_at_call 42; refine (HLy.out _).mono ?_; rintro e w' ⟨rfl, rfl⟩)
             exact ⟨⟨y + 1, by omega, hyl, by go_num, HY1.out⟩, by simp [intOf]; omega⟩
            | false =>
             have hd : digB s[y] = true := by simpa [alnB, hl] using ha
             rw [hl] at HLy
             rw [hd] at HDy
             clear hl hd ha hle HY HLT
             go_wp2_with (first | (go_at_call 42; refine (HLy.out _).mono ?_; rintro e w' ⟨rfl, rfl⟩) | (go_at_call 43; refine (HDy.out _).mono ?_; rintro e w' ⟨rfl, rfl⟩))
             exact ⟨⟨y + 1, by omega, hyl, by go_num, HY1.out⟩, by simp [intOf]; omega⟩
           | false =>
            have e2 : y = K := by
             rw [← HY.out]
             exact (runW_off hyl hle (by rw [list_at s y hyl]; exact ha)).symm
            subst e2
            have hl : letB s[y] = false := by simp [alnB] at ha; exact ha.1
            have hd : digB s[y] = false := by simp [alnB] at ha; exact ha.2
            rw [hl] at HLy
            rw [hd] at HDy
            clear hl hd ha hle HY HLT
            go_wp2_with (first | (go_at_call 42; refine (HLy.out _).mono ?_; rintro e w' ⟨rfl, rfl⟩) | (go_at_call 43; refine (HDy.out _).mono ?_; rintro e w' ⟨rfl, rfl⟩))
            refine (HWD.out _ _ (extract_str _ _ _)).mono ?_
            rintro e w1 ⟨rfl, hb1⟩
            have r0 : w1.heap[w.heap.size]? = some (.cells #[.int .i64 0, .int .i64 0, .int .i64 0, .int .i64 0] 57 (0, 0)) := (hb1.block _ (by simp)).trans (heap_alloc_new w _)
            have c0 := fun j => cell_row r0 j
            have f0 := fun j => unfrozen_row r0 j
            have HB1 := hid hb1
            clear hb1 HWD
            go_wp2
            rw [HT.out]
            exact bodyPost_ret (v := tokV tk) (by simp [results, Tryz.results17, go_sem, c0]) rfl ⟨rfl, below_boxed HB1.out _ _ _ _⟩
          ·have e2 : y = K := by
            rw [← HY.out]
            exact (runW_end (by omega)).symm
           subst e2
           clear HLT
           go_wp2_with fail
           refine (HWD.out _ _ (extract_str _ _ _)).mono ?_
           rintro e w1 ⟨rfl, hb1⟩
           have r0 : w1.heap[w.heap.size]? = some (.cells #[.int .i64 0, .int .i64 0, .int .i64 0, .int .i64 0] 57 (0, 0)) := (hb1.block _ (by simp)).trans (heap_alloc_new w _)
           have c0 := fun j => cell_row r0 j
           have f0 := fun j => unfrozen_row r0 j
           have HB1 := hid hb1
           clear hb1 HWD
           go_wp2
           rw [HT.out]
           exact bodyPost_ret (v := tokV tk) (by simp [results, Tryz.results17, go_sem, c0]) rfl ⟨rfl, below_boxed HB1.out _ _ _ _⟩
        | false =>
         rw [hlet] at HLT
         cases hdig : digB s[q] with
         | true =>
          rw [hdig] at HDT
          obtain ⟨K, hK⟩ : ∃ K, K = runW digB s.data.toList q s.size := ⟨_, rfl⟩
          have k1 : q < K := by
           rw [hK, runW_on hlt hle (by rw [list_at s q hlt]; exact hdig)]
           have := runW_ge digB s.data.toList (q + 1) s.size
           omega
          have k2 : K ≤ s.size := by rw [hK]; exact runW_le (by omega)
          have HT : Hid (∀ tk, (K = q + 1 ∧ s[q].toNat ≤ 49 → tk = ⟨2, s[q].toNat - 48, q, q + 1⟩) → (¬ (K = q + 1 ∧ s[q].toNat ≤ 49) → tk = ⟨1, 133, q, K⟩) → nextT s.data.toList i = tk) := by
           intro tk t1 t2
           by_cases h : K = q + 1 ∧ s[q].toNat ≤ 49
           ·rw [t1 h, ← list_at s q hlt]
            exact nextT_bit HS.out hlt' (by rw [list_at s q hlt]; exact hlet) (by rw [list_at s q hlt]; exact hdig) (by rw [HL.out, ← hK, list_at s q hlt]; exact h)
           ·rw [t2 h]
            have := nextT_num HS.out hlt' (by rw [list_at s q hlt]; exact hlet) (by rw [list_at s q hlt]; exact hdig) (by rw [HL.out, ← hK, list_at s q hlt]; exact h)
            rw [HL.out, ← hK] at this
            exact this
          have HK0 := hid hK
          have hdr : 48 ≤ s[q].toNat ∧ s[q].toNat ≤ 57 := by simpa [digB] using hdig
          clear hlet hdig hK HS hle
          go_wp2_with (first | (go_at_call 42; refine (HLT.out _).mono ?_; rintro e w' ⟨rfl, rfl⟩) | (go_at_call 43; refine (HDT.out _).mono ?_; rintro e w' ⟨rfl, rfl⟩))
          go_loop [5] (fun v => ∃ y : Nat, q ≤ y ∧ y ≤ s.size ∧ v = .int .i64 y ∧ Hid (runW digB s.data.toList y s.size = K)) (fun v => s.size - (intOf v).toNat)
          case atStart => exact ⟨q, Nat.le_refl _, hq, rfl, HK0.out.symm⟩
          case round =>
           obtain ⟨y, hqy, hys, rfl, HY⟩ := hrel
           clear b1 b2 b3 b4 b5
           by_cases hyl : y < s.size
           ·have hle : s.size ≤ s.data.toList.length := Nat.le_of_eq HL.out.symm
            have HDy := hid (fun W => digit_any s[y] W)
            cases ha : digB s[y] with
            | true =>
             have HY1 : Hid (runW digB s.data.toList (y + 1) s.size = K) := by
              show _ = _
              rw [← runW_on hyl hle (by rw [list_at s y hyl]; exact ha)]; exact HY.out
             rw [ha] at HDy
             clear ha hle HY HLT HDT HT
             go_wp2_with (go_at_call 43; refine (HDy.out _).mono ?_; rintro e w' ⟨rfl, rfl⟩)
             exact ⟨⟨y + 1, by omega, hyl, by go_num, HY1.out⟩, by simp [intOf]; omega⟩
            | false =>
             have e2 : y = K := by
              rw [← HY.out]
              exact (runW_off hyl hle (by rw [list_at s y hyl]; exact ha)).symm
             subst e2
             rw [ha] at HDy
             clear ha hle HY HLT HDT
             have hd2 : (48 : Int) ≤ (s[q].toNat : Int) := by omega
             have hd3 : (s[q].toNat : Int) ≤ 57 := by omega
             by_cases hk : (y : Int) = (q : Int) + 1
             ·obtain rfl : y = q + 1 := by omega
              clear hk
              by_cases h1 : (s[q].toNat : Int) ≤ 49
              ·have HT2 := hid (HT.out _ (fun _ => rfl) (fun h => absurd ⟨by omega, by omega⟩ h))
               clear HT
               go_wp2_with (go_at_call 43; refine (HDy.out _).mono ?_; rintro e w' ⟨rfl, rfl⟩)
               rw [HT2.out]
               exact bodyPost_ret (v := tokV ⟨2, s[q].toNat - 48, q, q + 1⟩) (by simp [results, Tryz.results17, go_sem]; omega) rfl ⟨rfl, ((Below.refl _ _).alloc (Nat.le_refl _) _)⟩
              ·have HT2 := hid (HT.out _ (fun h => absurd h.2 (by omega)) (fun _ => rfl))
               clear HT
               go_wp2_with (go_at_call 43; refine (HDy.out _).mono ?_; rintro e w' ⟨rfl, rfl⟩)
               rw [HT2.out]
               exact bodyPost_ret (v := tokV ⟨1, 133, q, q + 1⟩) (by simp [results, Tryz.results17, go_sem]) rfl ⟨rfl, ((Below.refl _ _).alloc (Nat.le_refl _) _)⟩
             ·have HT2 := hid (HT.out _ (fun h => absurd h.1 (by omega)) (fun _ => rfl))
              have hkb : ((y : Int) == (q : Int) + 1) = false := by rw [beq_eq_false_iff_ne]; exact hk
              clear HT
              go_wp2_with (go_at_call 43; refine (HDy.out _).mono ?_; rintro e w' ⟨rfl, rfl⟩)
              rw [HT2.out]
              exact bodyPost_ret (v := tokV ⟨1, 133, q, y⟩) (by simp [results, Tryz.results17, go_sem]) rfl ⟨rfl, ((Below.refl _ _).alloc (Nat.le_refl _) _)⟩
           ·have e2 : y = K := by
             rw [← HY.out]
             exact (runW_end (by omega)).symm
            subst e2
            clear HY HLT HDT
            have hd2 : (48 : Int) ≤ (s[q].toNat : Int) := by omega
            have hd3 : (s[q].toNat : Int) ≤ 57 := by omega
            by_cases hk : (y : Int) = (q : Int) + 1
            ·obtain rfl : y = q + 1 := by omega
             clear hk
             by_cases h1 : (s[q].toNat : Int) ≤ 49
             ·have HT2 := hid (HT.out _ (fun _ => rfl) (fun h => absurd ⟨by omega, by omega⟩ h))
              clear HT
              go_wp2
              rw [HT2.out]
              exact bodyPost_ret (v := tokV ⟨2, s[q].toNat - 48, q, q + 1⟩) (by simp [results, Tryz.results17, go_sem]; omega) rfl ⟨rfl, ((Below.refl _ _).alloc (Nat.le_refl _) _)⟩
             ·have HT2 := hid (HT.out _ (fun h => absurd h.2 (by omega)) (fun _ => rfl))
              clear HT
              go_wp2
              rw [HT2.out]
              exact bodyPost_ret (v := tokV ⟨1, 133, q, q + 1⟩) (by simp [results, Tryz.results17, go_sem]) rfl ⟨rfl, ((Below.refl _ _).alloc (Nat.le_refl _) _)⟩
            ·have HT2 := hid (HT.out _ (fun h => absurd h.1 (by omega)) (fun _ => rfl))
             have hkb : ((y : Int) == (q : Int) + 1) = false := by rw [beq_eq_false_iff_ne]; exact hk
             clear HT
             go_wp2
             rw [HT2.out]
             exact bodyPost_ret (v := tokV ⟨1, 133, q, y⟩) (by simp [results, Tryz.results17, go_sem]) rfl ⟨rfl, ((Below.refl _ _).alloc (Nat.le_refl _) _)⟩
         | false =>
          rw [hdig] at HDT
          have HT := hid (nextT_sign HS.out hlt' (by rw [list_at s q hlt]; exact hlet) (by rw [list_at s q hlt]; exact hdig))
          clear hlet hdig HS hle
          have hsg := HSG.out.below ((Below.refl _ _).alloc (Nat.le_refl _) (.cells #[.int .i64 0, .int .i64 0, .int .i64 0, .int .i64 0] 57 (0, 0)))
          have cv := hsg.var
          have HSW := hid hsg
          clear hsg
          go_wp2_with (first | (go_at_call 42; refine (HLT.out _).mono ?_; rintro e w' ⟨rfl, rfl⟩) | (go_at_call 43; refine (HDT.out _).mono ?_; rintro e w' ⟨rfl, rfl⟩))
          clear cv
          go_loopw [6] (fun v W => ∃ y : Nat, y ≤ 21 ∧ v = .int .i64 y ∧ Hid (PureForm.signT s.data.toList q (signs.drop y) = PureForm.signT s.data.toList q signs) ∧ Hid (Below (w.alloc (.cells #[.int .i64 0, .int .i64 0, .int .i64 0, .int .i64 0] 57 (0, 0))).heap.size (w.alloc (.cells #[.int .i64 0, .int .i64 0, .int .i64 0, .int .i64 0] 57 (0, 0))) W)) (fun v _ => 21 - (intOf v).toNat)
          case atStart => exact ⟨0, by omega, rfl, rfl, Below.refl _ _⟩
          case round =>
           obtain ⟨y, hy, rfl, HY, HBW⟩ := hrel
           clear b1 b2 b3 b4 b5 HLT HDT
           have hsg := HSW.out.below HBW.out
           have cv := hsg.var
           have r0 := (HBW.out.block w.heap.size (by simp)).trans (heap_alloc_new w _)
           have c0 := fun j => cell_row r0 j
           have f0 := fun j => unfrozen_row r0 j
           by_cases hyl : y < 21
           ·obtain ⟨e0, e1, e2⟩ := hsg.at_ y hyl
            have hn := sg_len y
            obtain ⟨n1, n2⟩ := sg_num y
            have hst : PureForm.signT s.data.toList q (signs.drop y) = if (s.data.toList.drop q).take (sg y).1.length = (sg y).1 then ⟨(sg y).2.1, (sg y).2.2, q, q + (sg y).1.length⟩ else PureForm.signT s.data.toList q (signs.drop (y + 1)) := by rw [signs_drop hyl, PureForm.signT]
            have HST := hid hst
            have hex : s.extract q (q + (sg y).1.length) = ⟨((s.data.toList.drop q).take (sg y).1.length).toArray⟩ := by
             rw [extract_str, List.drop_take, Nat.add_sub_cancel_left]
            clear hst hsg
            by_cases hfit : q + (sg y).1.length ≤ s.size
            ·have hfI : (q : Int) + ((sg y).1.length : Int) ≤ (s.size : Int) := by omega
             by_cases heq : (s.data.toList.drop q).take (sg y).1.length = (sg y).1
             ·rw [heq] at hex
              have HT2 : Hid (nextT s.data.toList i = ⟨(sg y).2.1, (sg y).2.2, q, q + (sg y).1.length⟩) := by
               show _ = _
               rw [HT.out, ← HY.out, HST.out, if_pos heq]
              clear heq
              obtain ⟨L, hL⟩ : ∃ L, L = (sg y).1.length := ⟨_, rfl⟩
              go_wp2
              go_quiet (fail)
              go_wp2
              go_region
              have c0 := fun j => cell_row r0 j
              go_wp2
              rw [HT2.out]
              exact bodyPost_ret (v := tokV ⟨(sg y).2.1, (sg y).2.2, q, q + (sg y).1.length⟩) (by simp [results, Tryz.results17, go_sem, c0]) rfl ⟨rfl, below_boxed (below_drewN HBW.out _) _ _ _ _⟩
             ·have hne : ((s.extract q (q + (sg y).1.length)).toList == (sg y).1) = false := by
               rw [hex, ByteArray_toList]
               simpa using heq
              have HY1 : Hid (PureForm.signT s.data.toList q (signs.drop (y + 1)) = PureForm.signT s.data.toList q signs) := by
               show _ = _
               rw [← HY.out, HST.out, if_neg heq]
              clear heq hex
              go_wp2
              go_quiet (fail)
              go_wp2
              exact ⟨⟨y + 1, hyl, by go_num, HY1.out, below_drewN HBW.out _⟩, by simp [intOf]; omega⟩
            ·have hfI : ¬ (q : Int) + ((sg y).1.length : Int) ≤ (s.size : Int) := by omega
             have HY1 : Hid (PureForm.signT s.data.toList q (signs.drop (y + 1)) = PureForm.signT s.data.toList q signs) := by
              show _ = _
              rw [← HY.out, HST.out, if_neg]
              intro e
              have := congrArg List.length e
              simp [HL.out] at this
              omega
             have hfD : decide ((q : Int) + ((sg y).1.length : Int) ≤ (s.size : Int)) = false := decide_eq_false hfI
             have hwr : IntKind.i64.wrap ((q : Int) + ((sg y).1.length : Int)) = (q : Int) + ((sg y).1.length : Int) := wrap_i64 _ (by omega) (by omega)
             go_wp2
             go_quiet (fail)
             go_wp2
             exact ⟨⟨y + 1, hyl, by go_num, HY1.out, below_drewN HBW.out _⟩, by simp [intOf]; omega⟩
           ·have HT2 : Hid (nextT s.data.toList i = ⟨1, 130, q, q + 1⟩) := by
             show _ = _
             have e : y = 21 := by omega
             rw [HT.out, ← HY.out, e]; rfl
            go_wp2
            rw [HT2.out]
            exact bodyPost_ret (v := tokV ⟨1, 130, q, q + 1⟩) (by simp [results, Tryz.results17, go_sem, c0]) rfl ⟨rfl, below_boxed HBW.out _ _ _ _⟩
  ·have e : skipB s.data.toList i = q := by rw [← HK.out]; exact skipB_end (by rw [HL.out]; exact hlt)
   have HT : Hid (nextT s.data.toList i = ⟨0, 0, s.size, s.size⟩) := by
    show _ = _
    unfold nextT
    rw [dif_neg (by rw [e, HL.out]; exact hlt), HL.out]
   clear e HK
   go_wp2
   rw [HT.out]
   exact bodyPost_ret (v := tokV ⟨0, 0, s.size, s.size⟩) (by simp [results, Tryz.results17, go_sem, tokV]) rfl ⟨rfl, ((Below.refl _ _).alloc (Nat.le_refl _) _)⟩
end Go.Proofs.YtdkboifpdodonacGreatDoor.Ref
/-
 The document's machine: what waits, and the nodes so far.
-/
namespace Go.Proofs.YtdkboifpdodonacGreatDoor.Ref
open Go.RowKit Go.Deep PureCnf PureForm
set_option maxRecDepth 100000

theorem info68 : (Tryz.prog.info? 63).map (fun i => (i.zero, i.size, i.bytes)) = some (some (.agg #[.int .i64 0, .int .i64 0, .int .i64 0]), 3, 24) := by kernel_rfl
theorem info51 : (Tryz.prog.info? 44).map (fun i => (i.zero, i.size, i.bytes)) = some (some (.agg #[.int .i64 0, .int .i64 0]), 2, 16) := by kernel_rfl

def wt (w : Wt) : List Value := [.int .i64 w.kind, .int .i64 w.op, .int .i64 w.n]
def wts (l : List Wt) : List Value := l.flatMap wt
def nd (x : Nd) : List Value := [.int .i64 x.1, .int .i64 x.2]
def nds (l : List Nd) : List Value := l.flatMap nd
theorem wts_length (l : List Wt) : (wts l).length = l.length * 3 := by
 induction l with
 | nil => rfl
 | cons p t ih => simp only [wts, List.flatMap_cons, List.length_append, List.length_cons] at ih ⊢; simp only [wt, List.length_cons, List.length_nil]; omega

/-- what is kept beside the machine: the world at its making, a token's box. -/
structure Ref where
 w : World
 tk : Option (Nat × Array Value)

/-- the machine at b: its row, what waits (the last on top), the nodes so far; since w0 nothing below B has turned. -/
structure MacR (w0 : Ref) (W : World) (B b : Nat) (st : List Wt) (out : List Nd) (k made : Int) (sv ov : Value) : Prop where
 row : W.heap[b]? = some (.cells #[sv, ov, .int .i64 k, .int .i64 made] 55 (0, 0))
 ost : W.ownsRow B 63 3 sv st.length (wts st.reverse)
 oout : W.ownsRow B 44 2 ov out.length (nds out)
 hB : B ≤ b
 below : Below B w0.w W
 tok : ∀ tb cs, w0.tk = some (tb, cs) → W.heap[tb]? = some (.cells cs 57 (0, 0))

section
variable {w0 : Ref} {W W' : World} {B b : Nat} {st : List Wt} {out : List Nd} {k made : Int} {sv ov : Value}
/-- some machine. -/
def MacE (w0 : Ref) (W : World) (B b : Nat) : Prop := ∃ st out k made sv ov, MacR w0 W B b st out k made sv ov
theorem MacR.asE (h : MacR w0 W B b st out k made sv ov) : MacE w0 W B b := ⟨_, _, _, _, _, _, h⟩
theorem MacR.size (h : MacR w0 W B b st out k made sv ov) : b < W.heap.size := (Array.getElem?_eq_some_iff.1 h.row).1
theorem ownsRow_below {w W : World} {base e size n : Nat} {v : Value} {xs : List Value} (h : w.ownsRow base e size v n xs) (hb : Below w.heap.size w W) : W.ownsRow base e size v n xs := by
 refine ⟨h.1, ?_⟩
 rcases h.2 with hn | ⟨g, cap, cur, hv, hB, hg, rest⟩
 ·exact .inl hn
 ·exact .inr ⟨g, cap, cur, hv, hB, (hb.block g (Array.getElem?_eq_some_iff.1 hg).1).trans hg, rest⟩
theorem MacR.on (h : MacR w0 W B b st out k made sv ov) (hb : Below W.heap.size W W') : MacR w0 W' B b st out k made sv ov :=
 ⟨(hb.block _ h.size).trans h.row, ownsRow_below h.ost hb, ownsRow_below h.oout hb, h.hB, h.below.trans (hb.mono (by have := h.size; have := h.hB; omega)), fun tb cs e => (hb.block _ (Array.getElem?_eq_some_iff.1 (h.tok tb cs e)).1).trans (h.tok tb cs e)⟩
/-- another token's box. -/
theorem MacR.retok (h : MacR w0 W B b st out k made sv ov) {tb : Nat} {cs : Array Value} (ht : W.heap[tb]? = some (.cells cs 57 (0, 0))) : MacR ⟨w0.w, some (tb, cs)⟩ W B b st out k made sv ov :=
 ⟨h.row, h.ost, h.oout, h.hB, h.below, fun tb' cs' e => by simp only [Option.some.injEq, Prod.mk.injEq] at e; rw [← e.1, ← e.2]; exact ht⟩
theorem MacR.alloc (h : MacR w0 W B b st out k made sv ov) (o : Obj) : MacR w0 (W.alloc o) B b st out k made sv ov := h.on ((Below.refl _ _).alloc (Nat.le_refl _) o)
theorem MacR.drewN (h : MacR w0 W B b st out k made sv ov) (n : Nat) : MacR w0 (W.drewN n) B b st out k made sv ov := h.on (below_drewN (Below.refl _ _) n)
theorem MacR.drew (h : MacR w0 W B b st out k made sv ov) : MacR w0 W.drew B b st out k made sv ov := h.on (Below.refl _ _).drew

/-- an owned row of another type than b's row lies elsewhere. -/
theorem own_ne {e size n t : Nat} {v : Value} {xs : List Value} {cs : Array Value} {fz : Nat × Nat} (h : W.ownsRow B e size v n xs) (hr : W.heap[b]? = some (.cells cs t fz)) (hte : t ≠ e) : v.ownBlock ≠ some b := by
 intro hv
 obtain ⟨c, f, hk⟩ := Lib.ownsRow_kind h b hv
 rw [hr] at hk
 simp only [Option.some.injEq, Obj.cells.injEq] at hk
 exact hte hk.2.1
theorem ownsRow_store {e size n t i : Nat} {v u : Value} {xs : List Value} {cs : Array Value} {fz : Nat × Nat} (h : W.ownsRow B e size v n xs) (hr : W.heap[b]? = some (.cells cs t fz)) (hte : t ≠ e) : (W.setCell ⟨b, i, none⟩ u).ownsRow B e size v n xs := by
 have hne := own_ne h hr hte
 refine ⟨h.1, ?_⟩
 rcases h.2 with hn | ⟨g, cap, cur, hv, hB, hg, rest⟩
 ·exact .inl hn
 ·refine .inr ⟨g, cap, cur, hv, hB, (Below.heap_setCell W _ _ _ ?_).trans hg, rest⟩
  intro e
  exact hne (by rw [hv]; simp [Value.ownBlock]; exact e)
theorem row_set {cs : Array Value} {t i : Nat} {u : Value} (hr : W.heap[b]? = some (.cells cs t (0, 0))) : (W.setCell ⟨b, i, none⟩ u).heap[b]? = some (.cells (cs.setIfInBounds i u) t (0, 0)) := by
 have hb := (Array.getElem?_eq_some_iff.1 hr).1
 simp [World.setCell, Array.getElem?_modify, hr]

theorem tok_store {tb t i : Nat} {u : Value} {cs ds : Array Value} {fz : Nat × Nat} (ht : W.heap[tb]? = some (.cells cs 57 (0, 0))) (hr : W.heap[b]? = some (.cells ds t fz)) (hte : t ≠ 57) : (W.setCell ⟨b, i, none⟩ u).heap[tb]? = some (.cells cs 57 (0, 0)) := by
 refine (Below.heap_setCell W _ _ _ ?_).trans ht
 intro e
 have e2 : tb = b := e
 rw [e2, hr] at ht
 simp only [Option.some.injEq, Obj.cells.injEq] at ht
 exact hte ht.2.1
theorem tok_grown {tb e size n : Nat} {v : Value} {xs : List Value} {cs : Array Value} (ht : W.heap[tb]? = some (.cells cs 57 (0, 0))) (ho : W.ownsRow B e size v n xs) (hte : (57 : Nat) ≠ e) (hg : W.grownBy W' v.ownBlock) : W'.heap[tb]? = some (.cells cs 57 (0, 0)) :=
 (hg.block tb (Array.getElem?_eq_some_iff.1 ht).1 (Ne.symm (own_ne ho ht hte))).trans ht
theorem MacR.setK (h : MacR w0 W B b st out k made sv ov) (k' : Int) : MacR w0 (W.setCell ⟨b, 2, none⟩ (.int .i64 k')) B b st out k' made sv ov :=
 ⟨by have := row_set (i := 2) (u := .int .i64 k') h.row; simpa using this, ownsRow_store h.ost h.row (by decide), ownsRow_store h.oout h.row (by decide), h.hB, h.below.setCell h.hB _, fun tb cs e => tok_store (h.tok tb cs e) h.row (by decide)⟩
theorem MacR.setMade (h : MacR w0 W B b st out k made sv ov) (m' : Int) : MacR w0 (W.setCell ⟨b, 3, none⟩ (.int .i64 m')) B b st out k m' sv ov :=
 ⟨by have := row_set (i := 3) (u := .int .i64 m') h.row; simpa using this, ownsRow_store h.ost h.row (by decide), ownsRow_store h.oout h.row (by decide), h.hB, h.below.setCell h.hB _, fun tb cs e => tok_store (h.tok tb cs e) h.row (by decide)⟩

theorem wts_snoc (l : List Wt) (x : Wt) : wts (l ++ [x]) = wts l ++ wt x := by simp [wts]
theorem nds_snoc (l : List Nd) (x : Nd) : nds (l ++ [x]) = nds l ++ nd x := by simp [nds]

/-- one waits more. -/
theorem MacR.push (h : MacR w0 W B b st out k made sv ov) {x : Wt} {sv' : Value} (ho : W'.ownsRow B 63 3 sv' (st.length + 1) (wts st.reverse ++ wt x)) (hg : W.grownBy W' sv.ownBlock) :
  W'.heap[b]? = some (.cells #[sv, ov, .int .i64 k, .int .i64 made] 55 (0, 0)) ∧ MacR w0 (W'.setCell ⟨b, 0, none⟩ sv') B b (x :: st) out k made sv' ov := by
 have hne := own_ne h.ost h.row (by decide)
 have hrow : W'.heap[b]? = some (.cells #[sv, ov, .int .i64 k, .int .i64 made] 55 (0, 0)) := (hg.block b h.size (Ne.symm hne)).trans h.row
 have hout : W'.ownsRow B 44 2 ov out.length (nds out) := h.oout.kept hg (by
  cases hv : ov.ownBlock with
  | none => exact .inl rfl
  | some g =>
   right
   intro e
   obtain ⟨c1, f1, k1⟩ := Lib.ownsRow_kind h.oout g hv
   exact own_ne h.ost k1 (by decide) e.symm)
 refine ⟨hrow, ⟨by have := row_set (i := 0) (u := sv') hrow; simpa using this, ?_, ownsRow_store hout hrow (by decide), h.hB, ?_, fun tb cs e => tok_store (tok_grown (h.tok tb cs e) h.ost (by decide) hg) hrow (by decide)⟩⟩
 ·have := ownsRow_store (i := 0) (u := sv') ho hrow (by decide)
  rw [List.reverse_cons, wts_snoc]
  exact this
 ·exact (h.below.grown hg (by have := h.size; have := h.hB; omega) (fun j hj => (h.ost.lt j hj).1)).setCell h.hB _
/-- one node more. -/
theorem MacR.node (h : MacR w0 W B b st out k made sv ov) {x : Nd} {ov' : Value} (ho : W'.ownsRow B 44 2 ov' (out.length + 1) (nds out ++ nd x)) (hg : W.grownBy W' ov.ownBlock) :
  W'.heap[b]? = some (.cells #[sv, ov, .int .i64 k, .int .i64 made] 55 (0, 0)) ∧ MacR w0 (W'.setCell ⟨b, 1, none⟩ ov') B b st (out ++ [x]) k made sv ov' := by
 have hne := own_ne h.oout h.row (by decide)
 have hrow : W'.heap[b]? = some (.cells #[sv, ov, .int .i64 k, .int .i64 made] 55 (0, 0)) := (hg.block b h.size (Ne.symm hne)).trans h.row
 have hst : W'.ownsRow B 63 3 sv st.length (wts st.reverse) := h.ost.kept hg (by
  cases hv : sv.ownBlock with
  | none => exact .inl rfl
  | some g =>
   right
   intro e
   obtain ⟨c1, f1, k1⟩ := Lib.ownsRow_kind h.ost g hv
   exact own_ne h.oout k1 (by decide) e.symm)
 refine ⟨hrow, ⟨by have := row_set (i := 1) (u := ov') hrow; simpa using this, ownsRow_store hst hrow (by decide), ?_, h.hB, ?_, fun tb cs e => tok_store (tok_grown (h.tok tb cs e) h.oout (by decide) hg) hrow (by decide)⟩⟩
 ·have := ownsRow_store (i := 1) (u := ov') ho hrow (by decide)
  rw [nds_snoc, List.length_append]
  exact this
 ·exact (h.below.grown hg (by have := h.size; have := h.hB; omega) (fun j hj => (h.oout.lt j hj).1)).setCell h.hB _

theorem wts_at (l : List Wt) (x : Wt) (j : Nat) (hj : j < 3) : (wts (l ++ [x]))[l.length * 3 + j]? = (wt x)[j]? := by
 rw [wts_snoc, List.getElem?_append_right (by rw [wts_length]; omega), wts_length]
 congr 1
 omega
/-- what waits on top, and what is left without it. -/
theorem MacR.top {x : Wt} (h : MacR w0 W B b (x :: st) out k made sv ov) : ∃ g cap, sv = .slice (some ⟨g, 0, none⟩) (st.length + 1) cap ∧ st.length + 1 ≤ cap ∧ g < W.heap.size ∧
  W.cell? ⟨g, st.length * 3, none⟩ = some (.int .i64 x.kind) ∧ W.cell? ⟨g, st.length * 3 + 1, none⟩ = some (.int .i64 x.op) ∧ W.cell? ⟨g, st.length * 3 + 2, none⟩ = some (.int .i64 x.n) ∧
  (∀ o, W.frozen? ⟨g, o, none⟩ = false) ∧
  MacR w0 (W.setCell ⟨b, 0, none⟩ (.slice (some ⟨g, 0, none⟩) st.length cap)) B b st out k made (.slice (some ⟨g, 0, none⟩) st.length cap) ov ∧
  ∀ m : Nat, MacR w0 (W.setCell ⟨g, st.length * 3 + 2, none⟩ (.int .i64 (m : Int))) B b (⟨x.kind, x.op, m⟩ :: st) out k made sv ov := by
 rcases h.ost.2 with ⟨_, h0⟩ | ⟨g, cap, cur, hv, hb, hg, hn, hm, hsz, ht⟩
 ·simp at h0
 ·have one : ∀ j, j < 3 → cur[st.length * 3 + j]? = (wt x)[j]? := fun j hj => by
   have e := wts_at st.reverse x j hj
   rw [List.length_reverse, ← List.reverse_cons, ← ht, List.getElem?_take_of_lt (by simp; omega)] at e
   simpa using e
  have hlen : (x :: st).length = st.length + 1 := rfl
  rw [hlen] at hv hn ht
  refine ⟨g, cap, hv, hn, (Array.getElem?_eq_some_iff.1 hg).1, ?_, ?_, ?_, fun o => unfrozen_row hg o, ⟨?_, ?_, ownsRow_store h.oout h.row (by decide), h.hB, h.below.setCell h.hB _, fun tb cs e => tok_store (h.tok tb cs e) h.row (by decide)⟩, fun m => ?_⟩
  ·rw [cell_row hg]; exact one 0 (by omega)
  ·rw [cell_row hg]; exact one 1 (by omega)
  ·rw [cell_row hg]; exact one 2 (by omega)
  ·have := row_set (i := 0) (u := .slice (some ⟨g, 0, none⟩) st.length cap) h.row; simpa using this
  ·refine ⟨by rw [wts_length, List.length_reverse], .inr ⟨g, cap, cur, rfl, hb, ?_, by omega, hm, hsz, ?_⟩⟩
   ·refine (Below.heap_setCell W _ _ _ ?_).trans hg
    intro e
    have e2 : g = b := e
    have r := h.row
    rw [← e2, hg] at r
    simp at r
   ·have e := congrArg (List.take (st.length * 3)) ht
    have e3 : (wts (st.reverse ++ [x])).take (st.length * 3) = wts st.reverse := by
     rw [wts_snoc, List.take_append_of_le_length (by rw [wts_length, List.length_reverse]; exact Nat.le_refl _), List.take_of_length_le (by rw [wts_length, List.length_reverse]; exact Nat.le_refl _)]
    rw [List.take_take, Nat.min_eq_left (by omega), List.reverse_cons, e3] at e
    exact e
  ·have hgb : g ≠ b := fun e2 => by
    have r := h.row
    rw [← e2, hg] at r
    simp at r
   refine ⟨(Below.heap_setCell W _ _ _ (Ne.symm hgb)).trans h.row, ⟨by rw [wts_length, List.length_reverse], .inr ⟨g, cap, cur.setIfInBounds (st.length * 3 + 2) (.int .i64 (m : Int)), hv, hb, row_set hg, hn, hm, by simpa using hsz, ?_⟩⟩, ownsRow_store h.oout hg (by decide), h.hB, h.below.setCell hb _, fun tb cs e => tok_store (h.tok tb cs e) hg (by decide)⟩
   have e : (cur.setIfInBounds (st.length * 3 + 2) (.int .i64 (m : Int))).toList = cur.toList.set (st.length * 3 + 2) (.int .i64 (m : Int)) := by simp
   rw [e, List.take_set, show (⟨x.kind, x.op, m⟩ :: st : List Wt).length = st.length + 1 from rfl, ht, List.reverse_cons, List.reverse_cons, wts_snoc, wts_snoc, List.set_append_right _ _ (by rw [wts_length, List.length_reverse]; omega), wts_length, List.length_reverse, Nat.add_sub_cancel_left]
   rfl
end
end Go.Proofs.YtdkboifpdodonacGreatDoor.Ref
