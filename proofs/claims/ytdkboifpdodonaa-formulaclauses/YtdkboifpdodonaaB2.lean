/-
  The document's own spot, literal.
-/
import Derived.Test.YtdkboifpdodonaaB1
import Derived.Test.YtdkboifpdodonaaA0
namespace Go.Proofs.Ytdkboifpdodonaa
open Go.RowKit Go.Deep PureCnf

/-- the place behind these bytes: line and column. -/
def spotN (l : List UInt8) : Nat × Nat := l.foldl (fun p c => if c.toNat = 10 then (p.1 + 1, 1) else (p.1, p.2 + 1)) (1, 1)
theorem spotN_snoc (l : List UInt8) (c : UInt8) : spotN (l ++ [c]) = if c.toNat = 10 then ((spotN l).1 + 1, 1) else ((spotN l).1, (spotN l).2 + 1) := by simp [spotN, List.foldl_append]
theorem spotN_le (l : List UInt8) : (spotN l).1 ≤ l.length + 1 ∧ (spotN l).2 ≤ l.length + 1 := by
  have e : ∀ m : List UInt8, (spotN m.reverse).1 ≤ m.length + 1 ∧ (spotN m.reverse).2 ≤ m.length + 1 := by
    intro m
    induction m with
    | nil => simp [spotN]
    | cons c t ih =>
      rw [List.reverse_cons, spotN_snoc]
      split <;> simp <;> omega
  have := e l.reverse
  simpa using this

/-- one box of two numbers, and the place of the result. -/
structure PosBox (w W : World) (line col : Nat) : Prop where
  r0 : W.heap[w.heap.size]? = some (.cells #[.int .i64 0, .int .i64 0] 27 (0, 0))
  r1 : W.heap[w.heap.size + 1]? = some (.cells #[.int .i64 line, .int .i64 col] 27 (0, 0))
  below : Below w.heap.size w W

theorem PosBox.store {w W : World} {line col : Nat} (h : PosBox w W line col) (a b : Nat) : PosBox w ((W.setCell ⟨w.heap.size + 1, 0, none⟩ (.int .i64 a)).setCell ⟨w.heap.size + 1, 1, none⟩ (.int .i64 b)) a b := by
  refine ⟨?_, ?_, (h.below.setCell (by simp) _).setCell (by simp) _⟩
  · rw [Below.heap_setCell _ _ _ _ (by simp), Below.heap_setCell _ _ _ _ (by simp)]; exact h.r0
  · have hb := (Array.getElem?_eq_some_iff.1 h.r1).1
    simp [World.setCell, Array.getElem?_modify, h.r1]
theorem PosBox.store1 {w W : World} {line col : Nat} (h : PosBox w W line col) (b : Nat) : PosBox w (W.setCell ⟨w.heap.size + 1, 1, none⟩ (.int .i64 b)) line b := by
  refine ⟨?_, ?_, h.below.setCell (by simp) _⟩
  · rw [Below.heap_setCell _ _ _ _ (by simp)]; exact h.r0
  · have hb := (Array.getElem?_eq_some_iff.1 h.r1).1
    simp [World.setCell, Array.getElem?_modify, h.r1]

set_option maxHeartbeats 1000000 in
theorem spot_any (s : ByteArray) (i : Nat) (w : World) (hs : s.size ≤ 1099511627776) (hi : i ≤ s.size) :
    Calls Try.prog 19 #[.string s, .int .i64 (i : Int)] w fun e w' => e = .returned (.agg #[.int .i64 ((spotN (s.data.toList.take i)).1 : Int), .int .i64 ((spotN (s.data.toList.take i)).2 : Int)]) ∧ Below w.heap.size w w' := by
  go_enter Try.func19, Try.ntmps19
  go_wp2
  go_loopw [6] (fun q W => ∃ k : Nat, k ≤ i ∧ q = .int .i64 k ∧ Hid (PosBox w W (spotN (s.data.toList.take k)).1 (spotN (s.data.toList.take k)).2)) (fun q _ => i - (intOf q).toNat)
  case atStart =>
    refine ⟨0, Nat.zero_le _, rfl, ?_⟩
    show PosBox _ _ _ _
    refine ⟨?_, ?_, ((Below.refl _ _).alloc (Nat.le_refl _) _).alloc (by simp) _⟩
    · exact (Below.heap_alloc _ _ _ (by simp)).trans (heap_alloc_new w _)
    · have := heap_alloc_new (w.alloc (Obj.cells #[.int .i64 0, .int .i64 0] 27 (0, 0))) (Obj.cells #[.int .i64 1, .int .i64 1] 27 (0, 0))
      simpa [spotN] using this
  case round =>
    obtain ⟨k, hk, rfl, HB⟩ := hrel
    have c0 := fun j => cell_row HB.out.r1 j
    have f0 := fun j => unfrozen_row HB.out.r1 j
    have hle := spotN_le (s.data.toList.take k)
    have hl : (s.data.toList.take k).length ≤ k := List.length_take_le _ _
    by_cases hlt : k < i
    · have hks : k < s.size := by omega
      have HSN : Hid (spotN (s.data.toList.take (k + 1)) = if s[k].toNat = 10 then ((spotN (s.data.toList.take k)).1 + 1, 1) else ((spotN (s.data.toList.take k)).1, (spotN (s.data.toList.take k)).2 + 1)) := by
        show _ = _
        rw [take_snoc _ k (by simpa using hks), spotN_snoc, list_at s k hks]
      obtain ⟨line, hline⟩ : ∃ x, x = (spotN (s.data.toList.take k)).1 := ⟨_, rfl⟩
      obtain ⟨col, hcol⟩ : ∃ x, x = (spotN (s.data.toList.take k)).2 := ⟨_, rfl⟩
      rw [← hline, ← hcol] at HB HSN c0 hle
      clear hline hcol
      obtain ⟨l1, l2⟩ := hle
      by_cases h10 : (s[k].toNat : Int) = 10
      · have e : s[k].toNat = 10 := by omega
        have HR : Hid (spotN (s.data.toList.take (k + 1)) = (line + 1, 1)) := by show _ = _; rw [HSN.out, if_pos e]
        clear e HSN
        go_wp2
        refine ⟨⟨k + 1, hlt, by go_num, ?_⟩, by simp [intOf]; omega⟩
        show PosBox _ _ _ _
        rw [HR.out]
        exact HB.out.store (line + 1) 1
      · have h10b : ((s[k].toNat : Int) == 10) = false := by rw [beq_eq_false_iff_ne]; omega
        have HR : Hid (spotN (s.data.toList.take (k + 1)) = (line, col + 1)) := by show _ = _; rw [HSN.out, if_neg (by omega)]
        clear HSN h10
        go_wp2
        refine ⟨⟨k + 1, hlt, by go_num, ?_⟩, by simp [intOf]; omega⟩
        show PosBox _ _ _ _
        rw [HR.out]
        exact HB.out.store1 (col + 1)
    · have hkk : k = i := by omega
      subst hkk
      have c1 := fun j => cell_row HB.out.r0 j
      have f1 := fun j => unfrozen_row HB.out.r0 j
      go_wp2
      exact bodyPost_ret (v := .agg #[.int .i64 ((spotN (s.data.toList.take k)).1 : Int), .int .i64 ((spotN (s.data.toList.take k)).2 : Int)]) (by simp [results, Try.results19, go_sem, c1]) rfl ⟨rfl, (HB.out.below.setCell (by simp) _).setCell (by simp) _⟩

/-- of a word: the literal, 0 if it is none. -/
def litN (l : List UInt8) : Int := if l.head? = some 45 then (if 0 < numB l.tail 2147483647 then -numB l.tail 2147483647 else 0) else (if 0 ≤ numB l 2147483647 then numB l 2147483647 else 0)
def litOk (l : List UInt8) : Bool := if l.head? = some 45 then decide (0 < numB l.tail 2147483647) else decide (0 ≤ numB l 2147483647)

theorem extract_list (s : ByteArray) (i j : Nat) : (s.extract i j).data.toList = (s.data.toList.drop i).take (j - i) := by
  rw [ByteArray.data_extract, Array.toList_extract]

theorem head_at (s : ByteArray) (h : 0 < s.size) : s.data.toList.head? = some s[0] := by
  rw [List.head?_eq_getElem?, List.getElem?_eq_getElem (by simpa using h), list_at s 0 h]

set_option maxHeartbeats 1000000 in
theorem literal_any (s : ByteArray) (w : World) (hs : s.size ≤ 1099511627776) :
    Calls Try.prog 11 #[.string s] w fun e w' => e = .returned (.tuple #[.int .i64 (litN s.data.toList), .bool (litOk s.data.toList)]) ∧ w' = w := by
  by_cases hm : s.data.toList.head? = some 45
  · have h0 : 0 < s.size := by
      rcases Nat.eq_zero_or_pos s.size with h | h
      · have : s.data.toList = [] := List.eq_nil_of_length_eq_zero (by simpa using h)
        rw [this] at hm; cases hm
      · exact h
    have h1 : (s[0].toNat : Int) = 45 := by
      rw [head_at s h0] at hm
      rw [Option.some.inj hm]; rfl
    have htl : (s.extract 1 s.size).data.toList = s.data.toList.tail := by
      rw [extract_list, List.take_of_length_le (by simp), List.drop_one]
    have hn0 := number_any (s.extract 1 s.size) 2147483647 w (by rw [ByteArray.size_extract]; omega) (by omega)
    rw [htl] at hn0
    have hr := numB_range s.data.toList.tail 2147483647
    have HL : Hid (litN s.data.toList = if 0 < numB s.data.toList.tail 2147483647 then -numB s.data.toList.tail 2147483647 else 0) := by show _ = _; unfold litN; rw [if_pos hm]
    have HO : Hid (litOk s.data.toList = decide (0 < numB s.data.toList.tail 2147483647)) := by show _ = _; unfold litOk; rw [if_pos hm]
    obtain ⟨n, hn⟩ : ∃ n, n = numB s.data.toList.tail 2147483647 := ⟨_, rfl⟩
    rw [← hn] at hn0 hr HL HO
    have HN : Hid (Calls Try.prog 18 #[.string (s.extract 1 s.size), .int .i64 2147483647] w fun e w' => e = .returned (.int .i64 n) ∧ w' = w) := hn0
    clear hm hn htl hn0
    obtain ⟨r1, r2⟩ := hr
    have r3 : n ≤ 2147483647 := by omega
    clear r2
    by_cases hp : 0 < n
    · have a1 : ¬ n < 0 := by omega
      have a2 : (n == 0) = false := by rw [beq_eq_false_iff_ne]; omega
      go_enter Try.func11, Try.ntmps11
      go_wp2_with (go_at_call 18; refine HN.out.mono ?_; rintro e w' ⟨rfl, rfl⟩)
      go_ret2
      rw [HL.out, HO.out, if_pos hp, decide_eq_true hp]
      exact ⟨rfl, rfl⟩
    · by_cases hz : n = 0
      · subst hz
        go_enter Try.func11, Try.ntmps11
        go_wp2_with (go_at_call 18; refine HN.out.mono ?_; rintro e w' ⟨rfl, rfl⟩)
        go_ret2
        rw [HL.out, HO.out]
        exact ⟨rfl, rfl⟩
      · have a1 : n < 0 := by omega
        go_enter Try.func11, Try.ntmps11
        go_wp2_with (go_at_call 18; refine HN.out.mono ?_; rintro e w' ⟨rfl, rfl⟩)
        go_ret2
        rw [HL.out, HO.out, if_neg (by omega), decide_eq_false (by omega)]
        exact ⟨rfl, rfl⟩
  · have hr := numB_range s.data.toList 2147483647
    have hn0 := number_any s 2147483647 w hs (by omega)
    have HL : Hid (litN s.data.toList = if 0 ≤ numB s.data.toList 2147483647 then numB s.data.toList 2147483647 else 0) := by show _ = _; unfold litN; rw [if_neg hm]
    have HO : Hid (litOk s.data.toList = decide (0 ≤ numB s.data.toList 2147483647)) := by show _ = _; unfold litOk; rw [if_neg hm]
    have hq : s.size = 0 ∨ (0 < s.size ∧ ∀ h : 0 < s.size, ((s[0].toNat : Int) == 45) = false) := by
      rcases Nat.eq_zero_or_pos s.size with h | h
      · exact .inl h
      · refine .inr ⟨h, fun _ => ?_⟩
        rw [head_at s h] at hm
        rw [beq_eq_false_iff_ne]
        intro e
        exact hm (by rw [UInt8.toNat_inj.1 (show s[0].toNat = (45 : UInt8).toNat by have : (45 : UInt8).toNat = 45 := rfl; omega)])
    obtain ⟨n, hn⟩ : ∃ n, n = numB s.data.toList 2147483647 := ⟨_, rfl⟩
    rw [← hn] at hn0 hr HL HO
    have HN : Hid (Calls Try.prog 18 #[.string s, .int .i64 2147483647] w fun e w' => e = .returned (.int .i64 n) ∧ w' = w) := hn0
    clear hm hn hn0
    obtain ⟨r1, r2⟩ := hr
    have r3 : n ≤ 2147483647 := by omega
    clear r2
    rcases hq with hq | ⟨hq, hq2⟩
    · by_cases hp : 0 ≤ n
      · have a1 : ¬ n < 0 := by omega
        have a2 : ¬ (0 : Int) < (s.size : Int) := by omega
        go_enter Try.func11, Try.ntmps11
        go_wp2_with (go_at_call 18; refine HN.out.mono ?_; rintro e w' ⟨rfl, rfl⟩)
        go_ret2
        rw [HL.out, HO.out, if_pos hp, decide_eq_true hp]
        exact ⟨rfl, rfl⟩
      · have a1 : n < 0 := by omega
        have a2 : ¬ (0 : Int) < (s.size : Int) := by omega
        go_enter Try.func11, Try.ntmps11
        go_wp2_with (go_at_call 18; refine HN.out.mono ?_; rintro e w' ⟨rfl, rfl⟩)
        go_ret2
        rw [HL.out, HO.out, if_neg (by omega), decide_eq_false (by omega)]
        exact ⟨rfl, rfl⟩
    · have q2 := hq2 hq
      clear hq2
      by_cases hp : 0 ≤ n
      · have a1 : ¬ n < 0 := by omega
        go_enter Try.func11, Try.ntmps11
        go_wp2_with (go_at_call 18; refine HN.out.mono ?_; rintro e w' ⟨rfl, rfl⟩)
        go_ret2
        rw [HL.out, HO.out, if_pos hp, decide_eq_true hp]
        exact ⟨rfl, rfl⟩
      · have a1 : n < 0 := by omega
        go_enter Try.func11, Try.ntmps11
        go_wp2_with (go_at_call 18; refine HN.out.mono ?_; rintro e w' ⟨rfl, rfl⟩)
        go_ret2
        rw [HL.out, HO.out, if_neg (by omega), decide_eq_false (by omega)]
        exact ⟨rfl, rfl⟩
end Go.Proofs.Ytdkboifpdodonaa
