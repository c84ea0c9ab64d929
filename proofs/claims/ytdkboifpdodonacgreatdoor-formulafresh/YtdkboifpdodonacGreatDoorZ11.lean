import Derived.Test.YtdkboifpdodonacGreatDoorZ10
set_option linter.unusedSimpArgs false
/-
 The landed program's amount; the library's HasPrefix, CutPrefix, Count, LastIndex, Cut, each at a text of one byte.
-/
namespace Go.Proofs.YtdkboifpdodonacGreatDoor
open Go.RowKit Go.Deep PureCnf
set_option maxRecDepth 100000

def amtV (l : List UInt8) (most : Nat) : Int := if numB l 2147483647 < 0 then 0 else if (most : Int) < numB l 2147483647 then 0 else numB l 2147483647
def amtE (l : List UInt8) (most : Nat) : Int := if numB l 2147483647 < 0 then 133 else if (most : Int) < numB l 2147483647 then 8 else 0

set_option maxHeartbeats 1000000 in
theorem amount_any (s : ByteArray) (most : Nat) (w : World) (hs : s.size ≤ 1099511627776) :
  Calls Tryz.prog 106 #[.string s, .int .i64 (most : Int)] w fun e w' => e = .returned (.tuple #[.int .i64 (amtV s.data.toList most), .int .i64 (amtE s.data.toList most)]) ∧ Below w.heap.size w w' := by
 have HN := hid (number33_any s 2147483647 w hs (by omega))
 have hr := numB_range s.data.toList 2147483647
 by_cases h0 : numB s.data.toList 2147483647 < 0
 ·have e1 : numV s.data.toList 2147483647 = 0 ∧ numY s.data.toList 2147483647 = false := num_no (by omega)
  have HA : Hid (amtV s.data.toList most = 0 ∧ amtE s.data.toList most = 133) := by
   unfold amtV amtE; rw [if_pos h0, if_pos h0]; exact ⟨rfl, rfl⟩
  rw [e1.1, e1.2] at HN
  clear e1 hr h0
  go_enter Tryz.func106, Tryz.ntmps106
  go_wp2_with fail
  refine HN.out.mono ?_
  rintro e w1 ⟨rfl, b1⟩
  have HB := hid b1
  clear b1
  go_wp2
  go_ret2
  rw [HA.out.1, HA.out.2]
  exact ⟨rfl, HB.out⟩
 ·obtain ⟨v, hv⟩ : ∃ v : Nat, numB s.data.toList 2147483647 = v := ⟨(numB s.data.toList 2147483647).toNat, by omega⟩
  have e1 := num_yes hv
  rw [e1.1, e1.2] at HN
  by_cases h1 : (most : Int) < v
  ·have HA : Hid (amtV s.data.toList most = 0 ∧ amtE s.data.toList most = 8) := by
    unfold amtV amtE; rw [if_neg h0, if_neg h0, hv, if_pos h1, if_pos h1]; exact ⟨rfl, rfl⟩
   clear e1 hr h0 hv
   go_enter Tryz.func106, Tryz.ntmps106
   go_wp2_with fail
   refine HN.out.mono ?_
   rintro e w1 ⟨rfl, b1⟩
   have HB := hid b1
   clear b1
   go_wp2
   go_ret2
   rw [HA.out.1, HA.out.2]
   exact ⟨rfl, HB.out⟩
  ·have HA : Hid (amtV s.data.toList most = v ∧ amtE s.data.toList most = 0) := by
    unfold amtV amtE; rw [if_neg h0, if_neg h0, hv, if_neg h1, if_neg h1]; exact ⟨rfl, rfl⟩
   clear e1 hr h0 hv
   go_enter Tryz.func106, Tryz.ntmps106
   go_wp2_with fail
   refine HN.out.mono ?_
   rintro e w1 ⟨rfl, b1⟩
   have HB := hid b1
   clear b1
   go_wp2
   go_ret2
   rw [HA.out.1, HA.out.2]
   exact ⟨rfl, HB.out⟩

theorem hasPrefix_one (l : List UInt8) (c : UInt8) : Lib.hasPrefix l [c] = decide (l.head? = some c) := by
 cases l with
 | nil => rfl
 | cons a t =>
  simp [Lib.hasPrefix, List.isPrefixOf]
  by_cases h : c = a
  ·subst h; simp
  ·have h2 : ¬ a = c := fun e => h e.symm
   simp [h, h2]
theorem prefix25 (s : ByteArray) (c : UInt8) (w : World) : Calls Tryz.prog 63 #[.string s, .string ⟨#[c]⟩] w fun e w' => e = .returned (.bool (decide (s.data.toList.head? = some c))) ∧ w' = w := by
 rw [← hasPrefix_one]
 exact Tryz.strings_HasPrefix s ⟨#[c]⟩ w
/-- a text without the minus in front. -/
def bare (l : List UInt8) : List UInt8 := if l.head? = some 45 then l.tail else l
theorem cutPrefix32 (s : ByteArray) (w : World) : Calls Tryz.prog 78 #[.string s, .string ⟨#[45]⟩] w fun e w' => e = .returned (.tuple #[str (bare s.data.toList), .bool (decide (s.data.toList.head? = some 45))]) ∧ w' = w := by
 have h := Tryz.strings_CutPrefix s ⟨#[45]⟩ w
 have e1 : Lib.hasPrefix s.data.toList [45] = decide (s.data.toList.head? = some 45) := hasPrefix_one _ _
 have e2 : Lib.trimPrefix s.data.toList [45] = bare s.data.toList := by
  unfold Lib.trimPrefix bare
  rw [e1]
  by_cases hh : s.data.toList.head? = some 45
  ·rw [if_pos hh, if_pos (by simpa using hh)]; simp
  ·rw [if_neg hh, if_neg (by simpa using hh)]
 rw [← e1, ← e2]
 exact h

/-! ### a line is cut off -/
theorem index_line : ∀ (l : List UInt8), (Lib.indexByte l 10 = -1 ∧ l.takeWhile lineB = l) ∨ ∃ k : Nat, Lib.indexByte l 10 = k ∧ k + 1 ≤ l.length ∧ l.takeWhile lineB = l.take k
 | [] => .inl ⟨rfl, rfl⟩
 | c :: t => by
  by_cases h : c = 10
  ·subst h
   refine .inr ⟨0, rfl, by simp, ?_⟩
   rw [List.takeWhile_cons, if_neg (by decide)]
   rfl
  ·have h1 : (c == 10) = false := by simpa using h
   have h2 : lineB c = true := by
    have : c.toNat ≠ 10 := fun e => h (UInt8.toNat_inj.1 e)
    simp [lineB, this]
   rcases index_line t with ⟨a, b⟩ | ⟨k, a, b, d⟩
   ·refine .inl ⟨?_, ?_⟩
    ·rw [Lib.indexByte, h1, a]; rfl
    ·rw [List.takeWhile_cons, if_pos h2, b]
   ·refine .inr ⟨k + 1, ?_, by simpa using b, ?_⟩
    ·rw [Lib.indexByte, h1, a]
     have : ((k : Int) == -1) = false := by simp
     rw [this]; simp
    ·rw [List.takeWhile_cons, if_pos h2, d]; rfl

set_option maxHeartbeats 1000000 in
theorem cut20 (s : ByteArray) (w : World) (hs : s.size ≤ 1099511627776) : Calls Tryz.prog 58 #[.string s, .string ⟨#[10]⟩] w fun e w' => (∃ x y, e = .returned (.tuple #[str (s.data.toList.takeWhile lineB), .string x, .bool y])) ∧ ∃ n, w' = w.drewN n := by
 have hlen : s.data.toList.length = s.size := by simp
 have hi := Tryz.stringslite_Index_one s 10
 rcases index_line s.data.toList with ⟨h1, h2⟩ | ⟨k, h1, hk, h2⟩
 ·have HI := fun W => hid (hi W)
  simp only [h1] at HI
  have HT := hid h2
  clear h1 h2 hlen hi
  go_enter Tryz.func58, Tryz.ntmps58
  go_wp2_with (go_at_call 76; refine (HI _).out.mono ?_; rintro e w' ⟨rfl, rfl⟩)
  go_ret3
  rw [HT.out]
  refine ⟨⟨⟨#[]⟩, false, ?_⟩, 0, rfl⟩
  show _ = Ending.returned (.tuple #[.string ⟨s.data.toList.toArray⟩, _, _])
  rw [Lib.mk_data]
  rfl
 ·have HI := fun W => hid (hi W)
  simp only [h1] at HI
  have HT := hid h2
  rw [hlen] at hk
  have c1 : (0 : Int) ≤ ↑k := by omega
  have c2 : (↑k : Int) ≤ ↑s.size := by omega
  have c3 : (0 : Int) ≤ ↑k + 1 := by omega
  have c4 : (↑k + 1 : Int) ≤ ↑s.size := by omega
  have c5 : IntKind.i64.wrap ((k : Int) + 1) = (k : Int) + 1 := (IntWalk.i64_left _).trans <| IntWalk.wrap64_in _ ⟨by omega, by omega⟩
  have mixed := Tryz.lays103.mixed
  clear h1 h2 hlen hi
  go_enter Tryz.func58, Tryz.ntmps58
  go_wp2_with (go_at_call 76; refine (HI _).out.mono ?_; rintro e w' ⟨rfl, rfl⟩)
  go_region_o
  go_wp2
  go_ret3
  rw [HT.out]
  refine ⟨⟨s.extract (k + 1) s.size, true, ?_⟩, 1, rfl⟩
  have e1 : s.extract 0 k = ⟨(s.data.toList.take k).toArray⟩ := by rw [Lib.extract_eq]; simp
  show Ending.returned (.tuple #[.string (s.extract 0 k), .string (s.extract (k + 1) s.size), .bool true]) = _
  rw [e1]
set_option maxHeartbeats 1000000 in
theorem cut13 (s : ByteArray) (w : World) (hs : s.size ≤ 1099511627776) : Calls Tryz.prog 38 #[.string s, .string ⟨#[10]⟩] w fun e w' => (∃ x y, e = .returned (.tuple #[str (s.data.toList.takeWhile lineB), .string x, .bool y])) ∧ Below w.heap.size w w' := by
 have HC := hid (cut20 s w hs)
 go_enter Tryz.func38, Tryz.ntmps38
 go_wp2_with (go_at_call 58; refine HC.out.mono ?_; rintro e w' ⟨⟨x, y, rfl⟩, n, rfl⟩)
 go_ret3
 exact ⟨⟨x, y, rfl⟩, Below.drewN' (Below.refl _ _) n⟩

/-! ### a place -/
theorem line_spot (l : List UInt8) : ((spotN l).1 : Int) = 1 + (l.count 10 : Nat) := by
 have e : ∀ m : List UInt8, ((spotN m.reverse).1 : Int) = 1 + (m.count 10 : Nat) := by
  intro m
  induction m with
  | nil => rfl
  | cons c t ih =>
   rw [List.reverse_cons, spotN_snoc, List.count_cons]
   by_cases h : c = 10
   ·subst h
    rw [if_pos (by decide)]
    simp
    omega
   ·have h1 : c.toNat ≠ 10 := fun e => h (UInt8.toNat_inj.1 e)
    rw [if_neg h1]
    simp [h]
    omega
 have := e l.reverse
 rwa [List.reverse_reverse, List.count_reverse] at this
theorem col_spot (s : ByteArray) : ∀ k, k ≤ s.size → (k : Int) - Lib.lastIdx s 10 k = ((spotN (s.data.toList.take k)).2 : Int) := by
 intro k
 induction k with
 | zero => intro _; rfl
 | succ k ih =>
  intro hk
  have hl : k < s.data.toList.length := by rw [show s.data.toList.length = s.size by simp]; omega
  have hg : s.data[k]! = s[k] := Go.Proofs.LastIndex.byteBang s k hk
  rw [take_snoc _ k hl, spotN_snoc, list_at s k hk]
  by_cases h : s[k].toNat = 10
  ·rw [if_pos h, Lib.lastIdx_hit s 10 k (by rw [hg, h]; rfl)]
   simp
   omega
  ·rw [if_neg h, Lib.lastIdx_miss s 10 k (by rw [hg]; omega)]
   have := ih (by omega)
   simp
   omega
theorem last28 (s : ByteArray) (w : World) (hs : s.size ≤ 1099511627776) : Calls Tryz.prog 66 #[.string s, .string ⟨#[10]⟩] w fun e w' => e = .returned (.int .i64 (s.size - ((spotN s.data.toList).2 : Int))) ∧ w' = w := by
 have h := Tryz.strings_LastIndex_one s ⟨#[10]⟩ rfl (by omega) w
 have e : Lib.lastIndexByte s 10 = (s.size - ((spotN s.data.toList).2 : Int)) := by
  have := col_spot s s.size (Nat.le_refl _)
  rw [List.take_of_length_le (by simp)] at this
  unfold Lib.lastIndexByte
  omega
 rw [← e]
 exact h
theorem count27 (s : ByteArray) (w : World) : Calls Tryz.prog 65 #[.string s, .string ⟨#[10]⟩] w fun e w' => e = .returned (.int .i64 (((spotN s.data.toList).1 : Int) - 1)) ∧ w' = w := by
 have h := Tryz.strings_Count_one s 10 w
 have e : ((Lib.countByte s.data.toList 10 : Nat) : Int) = ((spotN s.data.toList).1 : Int) - 1 := by
  have := line_spot s.data.toList
  unfold Lib.countByte
  omega
 rw [← e]
 exact h

theorem extract_take (s : ByteArray) (k : Nat) : s.extract 0 k = ⟨(s.data.toList.take k).toArray⟩ := by rw [Lib.extract_eq]; simp
set_option maxHeartbeats 1000000 in
theorem place16 (s : ByteArray) (i : Nat) (w : World) (hs : s.size ≤ 1099511627776) (hi : i ≤ s.size) :
  Calls Tryz.prog 41 #[.string s, .int .i64 (i : Int)] w fun e w' => e = .returned (.agg #[.int .i64 ((spotN (s.data.toList.take i)).1 : Int), .int .i64 ((spotN (s.data.toList.take i)).2 : Int)]) ∧ Below w.heap.size w w' := by
 have hz : (s.extract 0 i).size = i := by rw [extract_take]; show ((s.data.toList.take i).toArray).size = i; simp; omega
 have hd : (s.extract 0 i).data.toList = s.data.toList.take i := by rw [extract_take]
 have HC := fun W => hid (count27 (s.extract 0 i) W)
 have HL := fun W => hid (last28 (s.extract 0 i) W (by omega))
 simp only [hd, hz] at HC HL
 have hle := spotN_le (s.data.toList.take i)
 have hll : (s.data.toList.take i).length ≤ i := List.length_take_le _ _
 obtain ⟨a, ha⟩ : ∃ x, x = (spotN (s.data.toList.take i)).1 := ⟨_, rfl⟩
 obtain ⟨b, hb⟩ : ∃ x, x = (spotN (s.data.toList.take i)).2 := ⟨_, rfl⟩
 simp only [← ha, ← hb] at hle HC HL ⊢
 have a0 : a ≤ i + 1 := by omega
 have b0 : b ≤ i + 1 := by omega
 have HW := hid ha
 clear hle hll ha hb hz hd
 go_enter Tryz.func41, Tryz.ntmps41
 go_wp2_with (first | (go_at_call 65; refine (HC _).out.mono ?_; rintro e w' ⟨rfl, rfl⟩) | (go_at_call 66; refine (HL _).out.mono ?_; rintro e w' ⟨rfl, rfl⟩))
 rw [show (1 : Int) + ((a : Int) - 1) = a by omega, show (i : Int) - ((i : Int) - (b : Int)) = b by omega]
 have c1 := fun j => cell_row (heap_alloc_new w (Obj.cells #[.int .i64 a, .int .i64 b] 26)) j
 exact bodyPost_ret (v := .agg #[.int .i64 a, .int .i64 b]) (by simp [results, Tryz.results41, go_sem, c1]) rfl ⟨rfl, (Below.refl _ _).alloc (Nat.le_refl _) _⟩
end Go.Proofs.YtdkboifpdodonacGreatDoor
/-
 The landed scanner: tokens of words; blanks and remarks.
-/
namespace Go.Proofs.YtdkboifpdodonacGreatDoor
open Go.RowKit Go.Deep PureCnf PureForm PureRd
set_option maxRecDepth 100000

/-! ### words -/
abbrev tokT (T : PureForm.Tok) (a : Int) : Value := tokV (kindL T) (numL T) (codeL T) a
theorem word_rest {X : List UInt8} (a : Nat) (h1 : X ≠ [116, 114, 117, 101]) (h2 : X ≠ [102, 97, 108, 115, 101]) (h3 : X ≠ [101, 120, 105, 115, 116, 115]) (h4 : X ≠ [102, 111, 114, 97, 108, 108]) (h5 : X ≠ [105, 116, 101]) :
  wordT X a = if X.head? = some 120 ∧ (X.length = 1 ∨ ∃ c, X[1]? = some c ∧ digB c = true) then
   (if 0 ≤ numB X.tail 65535 then ⟨3, (numB X.tail 65535).toNat, a, a + X.length⟩ else ⟨1, 133, a, a + X.length⟩) else ⟨1, 131, a, a + X.length⟩ := by
 unfold wordT
 rw [if_neg h1, if_neg h2, if_neg h3, if_neg h4, if_neg h5]
theorem tokT_bad (n a e : Nat) (b : Int) : tokT ⟨1, n, a, e⟩ b = tokV 17 0 n b := rfl
theorem tokT_var (n a e : Nat) (b : Int) : tokT ⟨3, n, a, e⟩ b = tokV 2 n 0 b := rfl

theorem letB_not_dig {c : UInt8} (h : letB c = true) : digB c = false := by
 simp [letB, digB] at h ⊢
 omega

theorem w4 (X : List UInt8) : (ByteArray.mk X.toArray).data.toList = X := rfl

set_option maxHeartbeats 2000000 in
theorem ofWord_other (X : List UInt8) (a : Nat) (ha : X.all alnB = true) (hl : X.length ≤ 1099511627776) (w : World)
  (h1 : X ≠ [116, 114, 117, 101]) (h2 : X ≠ [102, 97, 108, 115, 101]) (h3 : X ≠ [101, 120, 105, 115, 116, 115]) (h4 : X ≠ [102, 111, 114, 97, 108, 108]) (h5 : X ≠ [105, 116, 101]) :
  Calls Tryz.prog 97 #[str X] w fun e w' => e = .returned (tokT (wordT X a) 0) ∧ Below w.heap.size w w' := by
 obtain ⟨WA, hWA⟩ : ∃ WA, WA = w.alloc (Obj.cells #[.int .i64 0, .int .i64 0, .int .i64 0, .int .i64 0] 84) := ⟨_, rfl⟩
 have hB : Below w.heap.size w WA := by rw [hWA]; exact below_box _ _
 have r0 : WA.heap[w.heap.size]? = some (.cells #[.int .i64 0, .int .i64 0, .int .i64 0, .int .i64 0] 84 (0, 0)) := by rw [hWA]; exact heap_alloc_new w _
 have HR0 := hid r0
 have HB := hid hB
 have HWA := hid hWA
 have HWT := hid (word_rest a h1 h2 h3 h4 h5)
 have b1 : (X == [116, 114, 117, 101]) = false := by simpa using h1
 have b2 : (X == [102, 97, 108, 115, 101]) = false := by simpa using h2
 have b3 : (X == [101, 120, 105, 115, 116, 115]) = false := by simpa using h3
 have b4 : (X == [102, 111, 114, 97, 108, 108]) = false := by simpa using h4
 have b5 : (X == [105, 116, 101]) = false := by simpa using h5
 have hcp := Tryz.strings_CutPrefix ⟨X.toArray⟩ ⟨#[120]⟩ WA
 have e1 : Lib.hasPrefix X [120] = decide (X.head? = some 120) := hasPrefix_one _ _
 rw [show (ByteArray.mk #[120]).data.toList = [120] from rfl, w4, e1] at hcp
 by_cases hx : X.head? = some 120
 ·obtain ⟨D, rfl⟩ : ∃ D, X = 120 :: D := by
   cases X with
   | nil => simp at hx
   | cons c t => simp at hx; exact ⟨t, by rw [hx]⟩
  have e2 : Lib.trimPrefix (120 :: D) [120] = D := by unfold Lib.trimPrefix; rw [e1, if_pos (by simp)]; rfl
  rw [e2, decide_eq_true hx] at hcp
  have HC := hid hcp
  have hDl : D.length ≤ 1099511627776 := by simp at hl; omega
  have HRL := hid (runL_any ⟨D.toArray⟩ WA)
  have hD0 : D.takeWhile letB = [] ↔ ∀ c t, D = c :: t → letB c = false := by
   cases D with
   | nil => simp
   | cons c t =>
    rw [List.takeWhile_cons]
    constructor
    ·intro h c' t' e
     simp at e
     obtain ⟨rfl, rfl⟩ := e
     split at h
     ·cases h
     ·next hc => simpa using hc
    ·intro h
     rw [if_neg (by rw [h c t rfl]; simp)]
  by_cases hD : D.takeWhile letB = []
  ·have HT : Hid (tokT (wordT (120 :: D) a) 0 = if 0 ≤ numB D 65535 then tokV 2 (numB D 65535) 0 0 else tokV 17 0 133 0) := by
    show _ = _
    rw [HWT.out, if_pos]
    ·by_cases h0 : 0 ≤ numB D 65535
     ·rw [if_pos (show 0 ≤ numB (120 :: D).tail 65535 from h0), if_pos h0, tokT_var, Int.toNat_of_nonneg (show 0 ≤ numB (120 :: D).tail 65535 from h0)]
      rfl
     ·rw [if_neg (show ¬ 0 ≤ numB (120 :: D).tail 65535 from h0), if_neg h0, tokT_bad]
      rfl
    ·refine ⟨rfl, ?_⟩
     cases D with
     | nil => exact .inl rfl
     | cons c t =>
      refine .inr ⟨c, rfl, ?_⟩
      have hc := hD0.1 hD c t rfl
      have hal : alnB c = true := by simp at ha; exact ha.2.1
      simpa [alnB, hc] using hal
   have HNU := fun W => hid (ofNumber_any 2 ⟨D.toArray⟩ 65535 W (by rw [size_str]; exact hDl) (by decide))
   simp only at HNU
   have e5 : (ByteArray.mk D.toArray).data.toList.takeWhile letB = [] := hD
   rw [e5] at HRL
   rw [HT.out]
   obtain ⟨kk, nn, cc, hv⟩ : ∃ kk nn cc, (if 0 ≤ numB D 65535 then tokV 2 (numB D 65535) 0 0 else tokV 17 0 133 0) = tokV kk nn cc 0 := by
    split
    ·exact ⟨_, _, _, rfl⟩
    ·exact ⟨_, _, _, rfl⟩
   simp only [hv] at HNU ⊢
   clear hv e5 hD hD0 HT hx e1 e2 hcp ha hl HWT h1 h2 h3 h4 h5 hWA hB r0
   go_enter Tryz.func97, Tryz.ntmps97
   go_wp2_with (first | (rw [← HWA.out]) | (go_at_call 78; refine HC.out.mono ?_; rintro e w' ⟨rfl, rfl⟩) | (go_at_call 61; refine HRL.out.mono ?_; rintro e w1 ⟨rfl, k1⟩; have HB1 := hid (HB.out.trans (k1.mono HB.out.size)); have r1 := (k1.block _ (Array.getElem?_eq_some_iff.1 HR0.out).1).trans HR0.out; have c1 := fun j => cell_row r1 j; have f1 := fun j => unfrozen_row r1 j; have HR1 := hid r1; clear k1 r1) | (go_at_call 99; refine (HNU _).out.mono ?_; rintro e w2 ⟨rfl, k2⟩; have HB2 := hid (HB1.out.trans (k2.mono HB1.out.size)); have r2 := (k2.block _ (Array.getElem?_eq_some_iff.1 HR1.out).1).trans HR1.out; have c2 := fun j => cell_row r2 j; have f2 := fun j => unfrozen_row r2 j; clear k2 r2 c1 f1))
   exact bodyPost_ret (v := tokV kk nn cc 0) (by simp [results, Tryz.results97, go_sem, c2]) rfl ⟨rfl, below4 HB2.out _ _ _ _⟩
  ·have HT : Hid (tokT (wordT (120 :: D) a) 0 = tokV 17 0 131 0) := by
    show _ = _
    rw [HWT.out, if_neg]
    ·rfl
    ·rintro ⟨_, h⟩
     cases D with
     | nil => exact hD rfl
     | cons c t =>
      rcases h with h | ⟨c', h, h'⟩
      ·simp at h
      ·simp at h
       subst h
       have hc : letB c = false := by
        cases hc : letB c with
        | false => rfl
        | true => rw [letB_not_dig hc] at h'; cases h'
       exact hD (by rw [List.takeWhile_cons, if_neg (by rw [hc]; simp)])
   have e5 : (ByteArray.mk D.toArray).data.toList.takeWhile letB = D.takeWhile letB := rfl
   rw [e5] at HRL
   obtain ⟨L, hL⟩ : ∃ L, L = D.takeWhile letB := ⟨_, rfl⟩
   rw [← hL] at HRL hD
   have h6 : L.isEmpty = false := by cases L with | nil => exact absurd rfl hD | cons _ _ => rfl
   rw [HT.out]
   clear hL e5 hD hD0 HT hx e1 e2 hcp ha hl HWT h1 h2 h3 h4 h5 hWA hB r0
   go_enter Tryz.func97, Tryz.ntmps97
   go_wp2_with (first | (rw [← HWA.out]) | (go_at_call 78; refine HC.out.mono ?_; rintro e w' ⟨rfl, rfl⟩) | (go_at_call 61; refine HRL.out.mono ?_; rintro e w1 ⟨rfl, k1⟩; have HB1 := hid (HB.out.trans (k1.mono HB.out.size)); have r1 := (k1.block _ (Array.getElem?_eq_some_iff.1 HR0.out).1).trans HR0.out; have c1 := fun j => cell_row r1 j; have f1 := fun j => unfrozen_row r1 j; have HR1 := hid r1; clear k1 r1))
   exact bodyPost_ret (v := tokV 17 0 131 0) (by simp [results, Tryz.results97, go_sem, c1]) rfl ⟨rfl, below4 HB1.out _ _ _ _⟩
 ·have e2 : Lib.trimPrefix X [120] = X := by unfold Lib.trimPrefix; rw [e1, if_neg (by simpa using hx)]
  rw [e2, decide_eq_false hx] at hcp
  have HC := hid hcp
  have HT : Hid (tokT (wordT X a) 0 = tokV 17 0 131 0) := by
   show _ = _
   rw [HWT.out, if_neg (fun h => hx h.1)]
   rfl
  have c1 := fun j => cell_row r0 j
  have f1 := fun j => unfrozen_row r0 j
  rw [HT.out]
  clear HT hx e1 e2 hcp ha hl HWT h1 h2 h3 h4 h5 hWA hB r0
  go_enter Tryz.func97, Tryz.ntmps97
  go_wp2_with (first | (rw [← HWA.out]) | (go_at_call 78; refine HC.out.mono ?_; rintro e w' ⟨rfl, rfl⟩))
  exact bodyPost_ret (v := tokV 17 0 131 0) (by simp [results, Tryz.results97, go_sem, c1]) rfl ⟨rfl, below4 HB.out _ _ _ _⟩

set_option maxHeartbeats 400000 in
theorem ofWord_0 (w : World) : Calls Tryz.prog 97 #[str [116, 114, 117, 101]] w fun e w' => e = .returned (tokV 1 1 0 0) ∧ Below w.heap.size w w' := by
 obtain ⟨WA, hWA⟩ : ∃ WA, WA = w.alloc (Obj.cells #[.int .i64 0, .int .i64 0, .int .i64 0, .int .i64 0] 84) := ⟨_, rfl⟩
 have hB : Below w.heap.size w WA := by rw [hWA]; exact below_box _ _
 have r0 : WA.heap[w.heap.size]? = some (.cells #[.int .i64 0, .int .i64 0, .int .i64 0, .int .i64 0] 84 (0, 0)) := by rw [hWA]; exact heap_alloc_new w _
 have HB := hid hB
 have HWA := hid hWA
 have c0 := fun j => cell_row r0 j
 have f0 := fun j => unfrozen_row r0 j
 clear hWA hB r0
 go_enter Tryz.func97, Tryz.ntmps97
 go_wp2_with (rw [← HWA.out])
 exact bodyPost_ret (v := tokV 1 1 0 0) (by simp [results, Tryz.results97, go_sem, c0]) rfl ⟨rfl, below4 HB.out _ _ _ _⟩
set_option maxHeartbeats 400000 in
theorem ofWord_1 (w : World) : Calls Tryz.prog 97 #[str [102, 97, 108, 115, 101]] w fun e w' => e = .returned (tokV 1 0 0 0) ∧ Below w.heap.size w w' := by
 obtain ⟨WA, hWA⟩ : ∃ WA, WA = w.alloc (Obj.cells #[.int .i64 0, .int .i64 0, .int .i64 0, .int .i64 0] 84) := ⟨_, rfl⟩
 have hB : Below w.heap.size w WA := by rw [hWA]; exact below_box _ _
 have r0 : WA.heap[w.heap.size]? = some (.cells #[.int .i64 0, .int .i64 0, .int .i64 0, .int .i64 0] 84 (0, 0)) := by rw [hWA]; exact heap_alloc_new w _
 have HB := hid hB
 have HWA := hid hWA
 have c0 := fun j => cell_row r0 j
 have f0 := fun j => unfrozen_row r0 j
 clear hWA hB r0
 go_enter Tryz.func97, Tryz.ntmps97
 go_wp2_with (rw [← HWA.out])
 exact bodyPost_ret (v := tokV 1 0 0 0) (by simp [results, Tryz.results97, go_sem, c0]) rfl ⟨rfl, below4 HB.out _ _ _ _⟩
set_option maxHeartbeats 400000 in
theorem ofWord_2 (w : World) : Calls Tryz.prog 97 #[str [101, 120, 105, 115, 116, 115]] w fun e w' => e = .returned (tokV 4 0 0 0) ∧ Below w.heap.size w w' := by
 obtain ⟨WA, hWA⟩ : ∃ WA, WA = w.alloc (Obj.cells #[.int .i64 0, .int .i64 0, .int .i64 0, .int .i64 0] 84) := ⟨_, rfl⟩
 have hB : Below w.heap.size w WA := by rw [hWA]; exact below_box _ _
 have r0 : WA.heap[w.heap.size]? = some (.cells #[.int .i64 0, .int .i64 0, .int .i64 0, .int .i64 0] 84 (0, 0)) := by rw [hWA]; exact heap_alloc_new w _
 have HB := hid hB
 have HWA := hid hWA
 have c0 := fun j => cell_row r0 j
 have f0 := fun j => unfrozen_row r0 j
 clear hWA hB r0
 go_enter Tryz.func97, Tryz.ntmps97
 go_wp2_with (rw [← HWA.out])
 exact bodyPost_ret (v := tokV 4 0 0 0) (by simp [results, Tryz.results97, go_sem, c0]) rfl ⟨rfl, below4 HB.out _ _ _ _⟩
set_option maxHeartbeats 400000 in
theorem ofWord_3 (w : World) : Calls Tryz.prog 97 #[str [102, 111, 114, 97, 108, 108]] w fun e w' => e = .returned (tokV 5 0 0 0) ∧ Below w.heap.size w w' := by
 obtain ⟨WA, hWA⟩ : ∃ WA, WA = w.alloc (Obj.cells #[.int .i64 0, .int .i64 0, .int .i64 0, .int .i64 0] 84) := ⟨_, rfl⟩
 have hB : Below w.heap.size w WA := by rw [hWA]; exact below_box _ _
 have r0 : WA.heap[w.heap.size]? = some (.cells #[.int .i64 0, .int .i64 0, .int .i64 0, .int .i64 0] 84 (0, 0)) := by rw [hWA]; exact heap_alloc_new w _
 have HB := hid hB
 have HWA := hid hWA
 have c0 := fun j => cell_row r0 j
 have f0 := fun j => unfrozen_row r0 j
 clear hWA hB r0
 go_enter Tryz.func97, Tryz.ntmps97
 go_wp2_with (rw [← HWA.out])
 exact bodyPost_ret (v := tokV 5 0 0 0) (by simp [results, Tryz.results97, go_sem, c0]) rfl ⟨rfl, below4 HB.out _ _ _ _⟩
set_option maxHeartbeats 400000 in
theorem ofWord_4 (w : World) : Calls Tryz.prog 97 #[str [105, 116, 101]] w fun e w' => e = .returned (tokV 11 0 0 0) ∧ Below w.heap.size w w' := by
 obtain ⟨WA, hWA⟩ : ∃ WA, WA = w.alloc (Obj.cells #[.int .i64 0, .int .i64 0, .int .i64 0, .int .i64 0] 84) := ⟨_, rfl⟩
 have hB : Below w.heap.size w WA := by rw [hWA]; exact below_box _ _
 have r0 : WA.heap[w.heap.size]? = some (.cells #[.int .i64 0, .int .i64 0, .int .i64 0, .int .i64 0] 84 (0, 0)) := by rw [hWA]; exact heap_alloc_new w _
 have HB := hid hB
 have HWA := hid hWA
 have c0 := fun j => cell_row r0 j
 have f0 := fun j => unfrozen_row r0 j
 clear hWA hB r0
 go_enter Tryz.func97, Tryz.ntmps97
 go_wp2_with (rw [← HWA.out])
 exact bodyPost_ret (v := tokV 11 0 0 0) (by simp [results, Tryz.results97, go_sem, c0]) rfl ⟨rfl, below4 HB.out _ _ _ _⟩
theorem ofWord_any (X : List UInt8) (a : Nat) (ha : X.all alnB = true) (hl : X.length ≤ 1099511627776) (w : World) :
  Calls Tryz.prog 97 #[str X] w fun e w' => e = .returned (tokT (wordT X a) 0) ∧ Below w.heap.size w w' := by
 by_cases h0 : X = [116, 114, 117, 101]
 ·subst h0
  exact ofWord_0 w
 by_cases h1 : X = [102, 97, 108, 115, 101]
 ·subst h1
  exact ofWord_1 w
 by_cases h2 : X = [101, 120, 105, 115, 116, 115]
 ·subst h2
  exact ofWord_2 w
 by_cases h3 : X = [102, 111, 114, 97, 108, 108]
 ·subst h3
  exact ofWord_3 w
 by_cases h4 : X = [105, 116, 101]
 ·subst h4
  exact ofWord_4 w
 exact ofWord_other X a ha hl w h0 h1 h2 h3 h4

/-! ### blanks and remarks -/
/-- how many bytes of blanks and remarks a text begins with; within a remark or not. -/
def blk : Bool → List UInt8 → Nat
 | _, [] => 0
 | rem, c :: t => if c = 10 then blk false t + 1 else if c = 35 then blk true t + 1 else if (!rem && !whB c) = true then 0 else blk rem t + 1
theorem blk_line : ∀ X : List UInt8, blk true X = (X.takeWhile lineB).length + blk false (X.drop (X.takeWhile lineB).length)
 | [] => rfl
 | c :: t => by
  by_cases h : c = 10
  ·subst h
   rw [List.takeWhile_cons, if_neg (by decide)]
   simp [blk]
  ·have hl : lineB c = true := by
    have : c.toNat ≠ 10 := fun e => h (UInt8.toNat_inj.1 e)
    simp [lineB, this]
   have e : blk true (c :: t) = blk true t + 1 := by
    rw [blk, if_neg h]
    split
    ·rfl
    ·rw [if_neg (by simp)]
   rw [e, blk_line t, List.takeWhile_cons, if_pos hl]
   simp
   omega
theorem whB_ten {c : UInt8} (h10 : c ≠ 10) : blankB c = whB c := by
 have : c.toNat ≠ 10 := fun e => h10 (UInt8.toNat_inj.1 e)
 simp [blankB, whB, this]
theorem skip_blk (l : List UInt8) : ∀ (d i : Nat), l.length - i = d → i ≤ l.length → skipB l i = i + blk false (l.drop i) := by
 intro d
 induction d using Nat.strongRecOn with
 | _ d ih =>
  intro i hd hi
  rw [skipB_eq]
  split
  ·next h =>
   have hdr : l.drop i = l[i] :: l.drop (i + 1) := List.drop_eq_getElem_cons h
   rw [hdr]
   split
   ·next h35 =>
    have e35 : l[i] = 35 := UInt8.toNat_inj.1 h35
    have hrun : runW lineB l i l.length = i + ((l.drop i).takeWhile lineB).length := by unfold runW; rw [List.take_length]
    have h1 : i < runW lineB l i l.length := by
     rw [runW_on h (Nat.le_refl _) (by rw [e35]; decide)]
     have := runW_ge lineB l (i + 1) l.length
     omega
    have h2 : runW lineB l i l.length ≤ l.length := runW_le (by omega)
    rw [dif_pos h1, ih _ (by omega) _ rfl h2]
    rw [blk, if_neg (by rw [e35]; decide), if_pos e35]
    have hb := blk_line (l.drop i)
    rw [hdr, blk, if_neg (by rw [e35]; decide), if_pos e35, ← hdr] at hb
    rw [hb, hrun, List.drop_drop]
    omega
   ·next h35 =>
    have n35 : l[i] ≠ 35 := fun e => h35 (by rw [e]; rfl)
    split
    ·next hb =>
     rw [ih _ (by omega) (i + 1) rfl (by omega)]
     by_cases h10 : l[i] = 10
     ·rw [blk, if_pos h10]; omega
     ·have hw : whB l[i] = true := by rw [← whB_ten h10]; exact hb
      rw [blk, if_neg h10, if_neg n35, if_neg (by simp [hw])]; omega
    ·next hb =>
     have h10 : l[i] ≠ 10 := fun e => hb (by rw [e]; decide)
     have hw : whB l[i] = false := by rw [← whB_ten h10]; simpa using hb
     rw [blk, if_neg h10, if_neg n35, if_pos (by simp [hw])]
     rfl
  ·next h =>
   have : i = l.length := by omega
   subst this
   simp [blk]

end Go.Proofs.YtdkboifpdodonacGreatDoor
/-
 The landed scanner: the blanks in front of a text.
-/
namespace Go.Proofs.YtdkboifpdodonacGreatDoor
open Go.RowKit Go.Deep PureCnf PureForm PureRd
set_option maxRecDepth 100000

theorem blk_rem {X : List UInt8} : ∀ (n : Nat), n ≤ X.length → (∀ j (hj : j < X.length), j < n → 128 ≤ X[j].toNat) → blk true X = n + blk true (X.drop n) := by
 intro n
 induction n generalizing X with
 | zero => intro _ _; simp
 | succ n ih =>
  intro hn h
  cases X with
  | nil => simp at hn
  | cons c t =>
   have hc : 128 ≤ c.toNat := h 0 (by simp) (by omega)
   have h10 : c ≠ 10 := fun e => by rw [e] at hc; exact absurd hc (by decide)
   have h35 : c ≠ 35 := fun e => by rw [e] at hc; exact absurd hc (by decide)
   rw [blk, if_neg h10, if_neg h35, if_neg (by simp), ih (X := t) (by simpa using hn) (fun j hj hjn => h (j + 1) (by simpa using hj) (by omega))]
   simp
   omega
theorem blk_at {s : ByteArray} {k : Nat} (h : k < s.size) : s.data.toList.drop k = s[k] :: s.data.toList.drop (k + 1) := by
 have h' : k < s.data.toList.length := by simpa using h
 rw [List.drop_eq_getElem_cons h', list_at s k h]

set_option maxHeartbeats 2000000 in
theorem blanks_any (s : ByteArray) (w : World) :
  Calls Tryz.prog 72 #[.string s] w fun e w' => e = .returned (.int .i64 (blk false s.data.toList : Nat)) ∧ Below w.heap.size w w' := by
 have HL : Hid (s.data.toList.length = s.size) := by show _ = _; simp
 have HC := fun r W => hid (isBlank_any r W)
 go_enter Tryz.func72, Tryz.ntmps72
 go_wp2
 go_loopw [3] (fun f w' => ∃ (k : Nat) (b : Bool), w' = w.iter s k ∧ k ≤ s.size ∧ f = .bool b ∧ Hid (blk false s.data.toList = k + blk b (s.data.toList.drop k))) (fun _ w' => s.size - w'.iterPos w.heap.size)
 case atStart => exact ⟨0, false, rfl, Nat.zero_le _, rfl, by show _ = _; simp⟩
 case round =>
  obtain ⟨k, b, rfl, hk, rfl, HA⟩ := hrel
  by_cases hlt : k < s.size
  ·have hdr := blk_at hlt
   by_cases hasc : s[k].toNat < 128
   ·have hnx : ∀ ty, (Instr.next (.pointer (some ⟨w.heap.size, 0, none⟩)) true ty).run Tryz.prog (w.iter s k) = _ := fun ty => run_next_ascii w s k ty hlt hasc
    have hB := HC s[k].toNat (w.iter s (k + 1))
    by_cases h10 : s[k] = 10
    ·have e10 : (s[k].toNat : Int) = 10 := by rw [h10]; rfl
     have HA1 : Hid (blk false s.data.toList = (k + 1) + blk false (s.data.toList.drop (k + 1))) := by
      show _ = _
      rw [HA.out, hdr, blk, if_pos h10]; omega
     clear hdr h10 hasc hB
     go_wp2
     go_roundw
     case rel => exact ⟨k + 1, false, rfl, hlt, rfl, HA1.out⟩
     case measure => simp; omega
    ·have n10 : ((s[k].toNat : Int) == 10) = false := by
      have : s[k].toNat ≠ 10 := fun e => h10 (UInt8.toNat_inj.1 e)
      simp; omega
     by_cases h35 : s[k] = 35
     ·have e35 : (s[k].toNat : Int) = 35 := by rw [h35]; rfl
      have HA1 : Hid (blk false s.data.toList = (k + 1) + blk true (s.data.toList.drop (k + 1))) := by
       show _ = _
       rw [HA.out, hdr, blk, if_neg h10, if_pos h35]; omega
      clear hdr h10 h35 hasc hB n10
      go_wp2
      go_roundw
      case rel => exact ⟨k + 1, true, rfl, hlt, rfl, HA1.out⟩
      case measure => simp; omega
     ·have n35 : ((s[k].toNat : Int) == 35) = false := by
       have : s[k].toNat ≠ 35 := fun e => h35 (UInt8.toNat_inj.1 e)
       simp; omega
      cases b with
      | true =>
       have HA1 : Hid (blk false s.data.toList = (k + 1) + blk true (s.data.toList.drop (k + 1))) := by
        show _ = _
        rw [HA.out, hdr, blk, if_neg h10, if_neg h35, if_neg (by simp)]; omega
       clear hdr h10 h35 hasc hB
       go_wp2
       go_roundw
       case rel => exact ⟨k + 1, true, rfl, hlt, rfl, HA1.out⟩
       case measure => simp; omega
      | false =>
       rw [whR_byte] at hB
       cases hw : whB s[k] with
       | true =>
        rw [hw] at hB
        have HA1 : Hid (blk false s.data.toList = (k + 1) + blk false (s.data.toList.drop (k + 1))) := by
         show _ = _
         rw [HA.out, hdr, blk, if_neg h10, if_neg h35, if_neg (by simp [hw])]; omega
        clear hdr h10 h35 hasc hw
        go_wp2_with (go_at_call 62; refine hB.out.mono ?_; rintro e w' ⟨rfl, rfl⟩)
        go_roundw
        case rel => exact ⟨k + 1, false, rfl, hlt, rfl, HA1.out⟩
        case measure => simp; omega
       | false =>
        rw [hw] at hB
        have HE : Hid (blk false s.data.toList = k) := by
         show _ = _
         rw [HA.out, hdr, blk, if_neg h10, if_neg h35, if_pos (by simp [hw])]; omega
        clear hdr h10 h35 hasc hw
        go_wp2_with (go_at_call 62; refine hB.out.mono ?_; rintro e w' ⟨rfl, rfl⟩)
        go_ret
        rw [HE.out]
        exact ⟨rfl, below_iter _ _ _⟩
   ·have hnx : ∀ ty, (Instr.next (.pointer (some ⟨w.heap.size, 0, none⟩)) true ty).run Tryz.prog (w.iter s k) = _ := fun ty => run_next_any w s k ty hlt
    obtain ⟨d1, d2, d3⟩ := decode_span s k hlt (by omega)
    have d4 := (decode_high s k hlt (by omega)).1
    have hB := HC (Utf8.decode s k).1 (w.iter s (k + (Utf8.decode s k).2))
    have hwR : whR (Utf8.decode s k).1 = false := by unfold whR; simp; omega
    rw [hwR] at hB
    have n10 : (((Utf8.decode s k).1 : Int) == 10) = false := by simp; omega
    have n35 : (((Utf8.decode s k).1 : Int) == 35) = false := by simp; omega
    cases b with
    | true =>
     have HA1 : Hid (blk false s.data.toList = (k + (Utf8.decode s k).2) + blk true (s.data.toList.drop (k + (Utf8.decode s k).2))) := by
      show _ = _
      rw [HA.out, blk_rem (X := s.data.toList.drop k) (Utf8.decode s k).2 (by rw [List.length_drop, HL.out]; omega) (fun j hj hjn => by
       rw [List.getElem_drop, list_at s (k + j) (by omega)]
       exact d3 (k + j) (by omega) (by omega) (by omega)), List.drop_drop]
      omega
     have HD3 := hid d3
     clear hdr hasc hB hwR d3
     go_wp2
     go_roundw
     case rel => exact ⟨_, true, rfl, d2, rfl, HA1.out⟩
     case measure => simp; omega
    | false =>
     have HE : Hid (blk false s.data.toList = k) := by
      show _ = _
      have h10 : s[k] ≠ 10 := fun e => hasc (by rw [e]; decide)
      have h35 : s[k] ≠ 35 := fun e => hasc (by rw [e]; decide)
      have hw : whB s[k] = false := by unfold whB; simp; omega
      rw [HA.out, hdr, blk, if_neg h10, if_neg h35, if_pos (by simp [hw])]; omega
     have HD3 := hid d3
     clear hdr hasc hwR d3
     go_wp2_with (go_at_call 62; refine hB.out.mono ?_; rintro e w' ⟨rfl, rfl⟩)
     go_ret
     rw [HE.out]
     exact ⟨rfl, below_iter _ _ _⟩
  ·have hnx : ∀ ty, (Instr.next (.pointer (some ⟨w.heap.size, 0, none⟩)) true ty).run Tryz.prog (w.iter s k) = _ := fun ty => run_next_end w s k ty hlt
   have HE : Hid (blk false s.data.toList = s.size) := by
    show _ = _
    rw [HA.out, List.drop_eq_nil_of_le (by rw [HL.out]; omega)]
    simp [blk]
    omega
   go_wp2
   go_ret
   rw [HE.out]
   exact ⟨rfl, below_iter _ _ _⟩

end Go.Proofs.YtdkboifpdodonacGreatDoor
/-
 The landed scanner: the token in front of a text.
-/
namespace Go.Proofs.YtdkboifpdodonacGreatDoor
open Go.RowKit Go.Deep PureCnf PureForm PureRd
set_option maxRecDepth 100000

/-- a token of zeros that lies behind all that was. -/
def Tk (w W : World) : Prop := Below w.heap.size w W ∧ W.heap[w.heap.size]? = some (.cells #[.int .i64 0, .int .i64 0, .int .i64 0, .int .i64 0] 84 (0, 0))
theorem Tk.step {w W W' : World} (h : Tk w W) (hb : Below W.heap.size W W') : Tk w W' :=
 ⟨h.1.trans (hb.mono h.1.size), (hb.block _ (Array.getElem?_eq_some_iff.1 h.2).1).trans h.2⟩
theorem hasPrefix_take (X p : List UInt8) : Lib.hasPrefix X p = decide (X.take p.length = p) := by
 unfold Lib.hasPrefix
 rw [Bool.eq_iff_iff, List.isPrefixOf_iff_prefix, List.prefix_iff_eq_take, decide_eq_true_iff]
 exact eq_comm
theorem decodeGo_low (c : UInt8) (t : List UInt8) (h : c.toNat < 128) : Lib.decodeGo ⟨(c :: t).toArray⟩ = (c.toNat, 1) := by
 unfold Lib.decodeGo
 rw [if_neg (by rw [size_str]; simp)]
 exact decode_ascii _ 0 (by rw [size_str]; simp) h
theorem decodeGo_cons (c : UInt8) (t : List UInt8) : Lib.decodeGo ⟨(c :: t).toArray⟩ = Utf8.decode ⟨(c :: t).toArray⟩ 0 := by
 unfold Lib.decodeGo
 rw [if_neg (by rw [size_str]; simp)]

/-! ### a word, a number, a sign -/
set_option maxHeartbeats 1000000 in
theorem first_word (X : List UInt8) (a : Nat) (hl : X.length ≤ 1099511627776) (w : World) (hT : Lib.Utf8Tabs 2 3 w) (hE : X.isEmpty = false) (r n : Nat) (hdec : Lib.decodeGo ⟨X.toArray⟩ = (r, n)) (hr : letR r = true) :
  Calls Tryz.prog 73 #[str X] w fun e w' => e = .returned (.tuple #[tokT (wordT (X.takeWhile alnB) a) 0, .int .i64 ((X.takeWhile alnB).length : Nat)]) ∧ Below w.heap.size w w' := by
 obtain ⟨WA, hWA⟩ : ∃ WA, WA = w.alloc (Obj.cells #[.int .i64 0, .int .i64 0, .int .i64 0, .int .i64 0] 84) := ⟨_, rfl⟩
 have hT0 : Tk w WA := by rw [hWA]; exact ⟨below_box _ _, heap_alloc_new w _⟩
 have T0 := hid hT0
 have HWA := hid hWA
 have HD := hid (Tryz.utf8_DecodeRuneInString ⟨X.toArray⟩ WA (Utf8Tabs_below hT hT0.1))
 rw [hdec] at HD
 clear hdec hWA hT0 hT
 have HLt := fun W => hid (isLetter_any r W)
 rw [hr] at HLt
 have HR := fun W => hid (runA_any ⟨X.toArray⟩ W)
 have hle : (X.takeWhile alnB).length ≤ X.length := (List.takeWhile_prefix alnB).length_le
 have hall : (X.takeWhile alnB).all alnB = true := by simp
 have HK := fun W => hid (ofWord_any (X.takeWhile alnB) a hall (by omega) W)
 have e5 : (ByteArray.mk X.toArray).data.toList.takeWhile alnB = X.takeWhile alnB := rfl
 simp only at HR
 obtain ⟨L, hL⟩ : ∃ L, L = X.takeWhile alnB := ⟨_, rfl⟩
 rw [← hL] at hle ⊢
 simp only [← hL] at HR HK
 clear hL e5 hall hr
 go_enter Tryz.func73, Tryz.ntmps73
 go_wp2_with (first | (rw [← HWA.out]) | (go_at_call 94; refine HD.out.mono ?_; rintro e w1 ⟨rfl, b1⟩; have T1 := hid (T0.out.step b1); clear b1) | (go_at_call 95; refine (HLt _).out.mono ?_; rintro e w' ⟨rfl, rfl⟩) | (go_at_call 61; refine (HR _).out.mono ?_; rintro e w2 ⟨rfl, b2⟩; have T2 := hid (T1.out.step b2); clear b2) | (go_at_call 97; refine (HK _).out.mono ?_; rintro e w3 ⟨rfl, b3⟩; have T3 := hid (T2.out.step b3); have c3 := fun j => cell_row T3.out.2 j; have f3 := fun j => unfrozen_row T3.out.2 j; clear b3))
 exact bodyPost_ret (v := .tuple #[tokT (wordT L a) 0, .int .i64 (L.length : Nat)]) (by simp [results, Tryz.results73, go_sem, c3]) rfl ⟨rfl, below4 T3.out.1 _ _ _ _⟩

set_option maxHeartbeats 1000000 in
theorem first_digits (X : List UInt8) (hl : X.length ≤ 1099511627776) (w : World) (hT : Lib.Utf8Tabs 2 3 w) (hE : X.isEmpty = false) (r n : Nat) (hdec : Lib.decodeGo ⟨X.toArray⟩ = (r, n)) (hr : letR r = false) (hr2 : digR r = true) (kk nn cc : Int)
  (hv : (if 0 ≤ numB (X.takeWhile digB) 1 then tokV 1 (numB (X.takeWhile digB) 1) 0 0 else tokV 17 0 133 0) = tokV kk nn cc 0) :
  Calls Tryz.prog 73 #[str X] w fun e w' => e = .returned (.tuple #[tokV kk nn cc 0, .int .i64 ((X.takeWhile digB).length : Nat)]) ∧ Below w.heap.size w w' := by
 obtain ⟨WA, hWA⟩ : ∃ WA, WA = w.alloc (Obj.cells #[.int .i64 0, .int .i64 0, .int .i64 0, .int .i64 0] 84) := ⟨_, rfl⟩
 have hT0 : Tk w WA := by rw [hWA]; exact ⟨below_box _ _, heap_alloc_new w _⟩
 have T0 := hid hT0
 have HWA := hid hWA
 have HD := hid (Tryz.utf8_DecodeRuneInString ⟨X.toArray⟩ WA (Utf8Tabs_below hT hT0.1))
 rw [hdec] at HD
 clear hdec hWA hT0 hT
 have HLt := fun W => hid (isLetter_any r W)
 have HDg := fun W => hid (isDigit_any r W)
 rw [hr] at HLt
 rw [hr2] at HDg
 have HR := fun W => hid (runD_any ⟨X.toArray⟩ W)
 have hle : (X.takeWhile digB).length ≤ X.length := (List.takeWhile_prefix digB).length_le
 have HK := fun W => hid (ofNumber_any 1 ⟨(X.takeWhile digB).toArray⟩ 1 W (by rw [size_str]; omega) (by decide))
 have e5 : (ByteArray.mk X.toArray).data.toList.takeWhile digB = X.takeWhile digB := rfl
 have e6 : (ByteArray.mk (X.takeWhile digB).toArray).data.toList = X.takeWhile digB := rfl
 simp only at HR
 simp only [hv] at HK
 obtain ⟨L, hL⟩ : ∃ L, L = X.takeWhile digB := ⟨_, rfl⟩
 rw [← hL] at hle ⊢
 simp only [← hL] at HR HK
 clear hL e5 e6 hr hr2 hv
 go_enter Tryz.func73, Tryz.ntmps73
 go_wp2_with (first | (rw [← HWA.out]) | (go_at_call 94; refine HD.out.mono ?_; rintro e w1 ⟨rfl, b1⟩; have T1 := hid (T0.out.step b1); clear b1) | (go_at_call 95; refine (HLt _).out.mono ?_; rintro e w' ⟨rfl, rfl⟩) | (go_at_call 98; refine (HDg _).out.mono ?_; rintro e w' ⟨rfl, rfl⟩) | (go_at_call 61; refine (HR _).out.mono ?_; rintro e w2 ⟨rfl, b2⟩; have T2 := hid (T1.out.step b2); clear b2) | (go_at_call 99; refine (HK _).out.mono ?_; rintro e w3 ⟨rfl, b3⟩; have T3 := hid (T2.out.step b3); have c3 := fun j => cell_row T3.out.2 j; have f3 := fun j => unfrozen_row T3.out.2 j; clear b3))
 exact bodyPost_ret (v := .tuple #[tokV kk nn cc 0, .int .i64 (L.length : Nat)]) (by simp [results, Tryz.results73, go_sem, c3]) rfl ⟨rfl, below4 T3.out.1 _ _ _ _⟩

set_option maxHeartbeats 1000000 in
theorem first_iff (X : List UInt8) (w : World) (hT : Lib.Utf8Tabs 2 3 w) (hE : X.isEmpty = false) (r n : Nat) (hdec : Lib.decodeGo ⟨X.toArray⟩ = (r, n)) (hr : letR r = false) (hr2 : digR r = false) (h3 : X.take 3 = [60, 45, 62]) :
  Calls Tryz.prog 73 #[str X] w fun e w' => e = .returned (.tuple #[tokV 10 0 0 0, .int .i64 3]) ∧ Below w.heap.size w w' := by
 obtain ⟨WA, hWA⟩ : ∃ WA, WA = w.alloc (Obj.cells #[.int .i64 0, .int .i64 0, .int .i64 0, .int .i64 0] 84) := ⟨_, rfl⟩
 have hT0 : Tk w WA := by rw [hWA]; exact ⟨below_box _ _, heap_alloc_new w _⟩
 have T0 := hid hT0
 have HWA := hid hWA
 have HD := hid (Tryz.utf8_DecodeRuneInString ⟨X.toArray⟩ WA (Utf8Tabs_below hT hT0.1))
 rw [hdec] at HD
 clear hdec hWA hT0 hT
 have HLt := fun W => hid (isLetter_any r W)
 have HDg := fun W => hid (isDigit_any r W)
 rw [hr] at HLt
 rw [hr2] at HDg
 have HP3 := fun W => hid (Tryz.strings_HasPrefix ⟨X.toArray⟩ ⟨#[60, 45, 62]⟩ W)
 have e3 : Lib.hasPrefix (ByteArray.mk X.toArray).data.toList (ByteArray.mk #[60, 45, 62]).data.toList = true := by
  rw [hasPrefix_take]; exact decide_eq_true h3
 simp only [e3] at HP3
 clear e3 h3
 clear hr hr2
 go_enter Tryz.func73, Tryz.ntmps73
 go_wp2_with (first | (rw [← HWA.out]) | (go_at_call 94; refine HD.out.mono ?_; rintro e w1 ⟨rfl, b1⟩; have T1 := hid (T0.out.step b1); have c1 := fun j => cell_row T1.out.2 j; have f1 := fun j => unfrozen_row T1.out.2 j; clear b1) | (go_at_call 95; refine (HLt _).out.mono ?_; rintro e w' ⟨rfl, rfl⟩) | (go_at_call 98; refine (HDg _).out.mono ?_; rintro e w' ⟨rfl, rfl⟩) | (go_at_call 63; refine (HP3 _).out.mono ?_; rintro e w' ⟨rfl, rfl⟩; have q := HP3; clear q HP3))
 exact bodyPost_ret (v := .tuple #[tokV 10 0 0 0, .int .i64 3]) (by simp [results, Tryz.results73, go_sem, c1]) rfl ⟨rfl, below4 T1.out.1 _ _ _ _⟩

set_option maxHeartbeats 1000000 in
theorem first_imp (X : List UInt8) (w : World) (hT : Lib.Utf8Tabs 2 3 w) (hE : X.isEmpty = false) (r n : Nat) (hdec : Lib.decodeGo ⟨X.toArray⟩ = (r, n)) (hr : letR r = false) (hr2 : digR r = false) (h3 : X.take 3 ≠ [60, 45, 62]) (h2 : X.take 2 = [45, 62]) :
  Calls Tryz.prog 73 #[str X] w fun e w' => e = .returned (.tuple #[tokV 9 0 0 0, .int .i64 2]) ∧ Below w.heap.size w w' := by
 obtain ⟨WA, hWA⟩ : ∃ WA, WA = w.alloc (Obj.cells #[.int .i64 0, .int .i64 0, .int .i64 0, .int .i64 0] 84) := ⟨_, rfl⟩
 have hT0 : Tk w WA := by rw [hWA]; exact ⟨below_box _ _, heap_alloc_new w _⟩
 have T0 := hid hT0
 have HWA := hid hWA
 have HD := hid (Tryz.utf8_DecodeRuneInString ⟨X.toArray⟩ WA (Utf8Tabs_below hT hT0.1))
 rw [hdec] at HD
 clear hdec hWA hT0 hT
 have HLt := fun W => hid (isLetter_any r W)
 have HDg := fun W => hid (isDigit_any r W)
 rw [hr] at HLt
 rw [hr2] at HDg
 have HP3 := fun W => hid (Tryz.strings_HasPrefix ⟨X.toArray⟩ ⟨#[60, 45, 62]⟩ W)
 have e3 : Lib.hasPrefix (ByteArray.mk X.toArray).data.toList (ByteArray.mk #[60, 45, 62]).data.toList = false := by
  rw [hasPrefix_take]; exact decide_eq_false h3
 simp only [e3] at HP3
 have HP2 := fun W => hid (Tryz.strings_HasPrefix ⟨X.toArray⟩ ⟨#[45, 62]⟩ W)
 have e2 : Lib.hasPrefix (ByteArray.mk X.toArray).data.toList (ByteArray.mk #[45, 62]).data.toList = true := by
  rw [hasPrefix_take]; exact decide_eq_true h2
 simp only [e2] at HP2
 clear e3 h3 e2 h2
 clear hr hr2
 go_enter Tryz.func73, Tryz.ntmps73
 go_wp2_with (first | (rw [← HWA.out]) | (go_at_call 94; refine HD.out.mono ?_; rintro e w1 ⟨rfl, b1⟩; have T1 := hid (T0.out.step b1); have c1 := fun j => cell_row T1.out.2 j; have f1 := fun j => unfrozen_row T1.out.2 j; clear b1) | (go_at_call 95; refine (HLt _).out.mono ?_; rintro e w' ⟨rfl, rfl⟩) | (go_at_call 98; refine (HDg _).out.mono ?_; rintro e w' ⟨rfl, rfl⟩) | (go_at_call 63; refine (HP3 _).out.mono ?_; rintro e w' ⟨rfl, rfl⟩; have q := HP3; clear q HP3) | (go_at_call 63; refine (HP2 _).out.mono ?_; rintro e w' ⟨rfl, rfl⟩))
 exact bodyPost_ret (v := .tuple #[tokV 9 0 0 0, .int .i64 2]) (by simp [results, Tryz.results73, go_sem, c1]) rfl ⟨rfl, below4 T1.out.1 _ _ _ _⟩

set_option maxHeartbeats 1000000 in
theorem first_rune (X : List UInt8) (w : World) (hT : Lib.Utf8Tabs 2 3 w) (hE : X.isEmpty = false) (r n : Nat) (hdec : Lib.decodeGo ⟨X.toArray⟩ = (r, n)) (hr : letR r = false) (hr2 : digR r = false) (h3 : X.take 3 ≠ [60, 45, 62]) (h2 : X.take 2 ≠ [45, 62]) :
  Calls Tryz.prog 73 #[str X] w fun e w' => e = .returned (.tuple #[tokV (runeT r).1 (runeT r).2.1 (runeT r).2.2 0, .int .i64 (n : Nat)]) ∧ Below w.heap.size w w' := by
 obtain ⟨WA, hWA⟩ : ∃ WA, WA = w.alloc (Obj.cells #[.int .i64 0, .int .i64 0, .int .i64 0, .int .i64 0] 84) := ⟨_, rfl⟩
 have hT0 : Tk w WA := by rw [hWA]; exact ⟨below_box _ _, heap_alloc_new w _⟩
 have T0 := hid hT0
 have HWA := hid hWA
 have HD := hid (Tryz.utf8_DecodeRuneInString ⟨X.toArray⟩ WA (Utf8Tabs_below hT hT0.1))
 rw [hdec] at HD
 clear hdec hWA hT0 hT
 have HLt := fun W => hid (isLetter_any r W)
 have HDg := fun W => hid (isDigit_any r W)
 rw [hr] at HLt
 rw [hr2] at HDg
 have HP3 := fun W => hid (Tryz.strings_HasPrefix ⟨X.toArray⟩ ⟨#[60, 45, 62]⟩ W)
 have e3 : Lib.hasPrefix (ByteArray.mk X.toArray).data.toList (ByteArray.mk #[60, 45, 62]).data.toList = false := by
  rw [hasPrefix_take]; exact decide_eq_false h3
 simp only [e3] at HP3
 have HP2 := fun W => hid (Tryz.strings_HasPrefix ⟨X.toArray⟩ ⟨#[45, 62]⟩ W)
 have e2 : Lib.hasPrefix (ByteArray.mk X.toArray).data.toList (ByteArray.mk #[45, 62]).data.toList = false := by
  rw [hasPrefix_take]; exact decide_eq_false h2
 simp only [e2] at HP2
 have HK := fun W => hid (ofRune_any r W)
 obtain ⟨⟨x1, x2, x3⟩, hx⟩ : ∃ x, x = runeT r := ⟨_, rfl⟩
 rw [← hx] at HK ⊢
 simp only at HK ⊢
 clear e3 h3 e2 h2 hx
 clear hr hr2
 go_enter Tryz.func73, Tryz.ntmps73
 go_wp2_with (first | (rw [← HWA.out]) | (go_at_call 94; refine HD.out.mono ?_; rintro e w1 ⟨rfl, b1⟩; have T1 := hid (T0.out.step b1); clear b1) | (go_at_call 95; refine (HLt _).out.mono ?_; rintro e w' ⟨rfl, rfl⟩) | (go_at_call 98; refine (HDg _).out.mono ?_; rintro e w' ⟨rfl, rfl⟩) | (go_at_call 63; refine (HP3 _).out.mono ?_; rintro e w' ⟨rfl, rfl⟩; have q := HP3; clear q HP3) | (go_at_call 63; refine (HP2 _).out.mono ?_; rintro e w' ⟨rfl, rfl⟩) | (go_at_call 100; refine (HK _).out.mono ?_; rintro e w3 ⟨rfl, b3⟩; have T3 := hid (T1.out.step b3); have c3 := fun j => cell_row T3.out.2 j; have f3 := fun j => unfrozen_row T3.out.2 j; clear b3))
 exact bodyPost_ret (v := .tuple #[tokV x1 x2 x3 0, .int .i64 (n : Nat)]) (by simp [results, Tryz.results73, go_sem, c3]) rfl ⟨rfl, below4 T3.out.1 _ _ _ _⟩

set_option maxHeartbeats 400000 in
theorem first_end (w : World) : Calls Tryz.prog 73 #[str []] w fun e w' => e = .returned (.tuple #[tokV 16 0 0 0, .int .i64 0]) ∧ Below w.heap.size w w' := by
 obtain ⟨WA, hWA⟩ : ∃ WA, WA = w.alloc (Obj.cells #[.int .i64 0, .int .i64 0, .int .i64 0, .int .i64 0] 84) := ⟨_, rfl⟩
 have hT0 : Tk w WA := by rw [hWA]; exact ⟨below_box _ _, heap_alloc_new w _⟩
 have T0 := hid hT0
 have HWA := hid hWA
 have c1 := fun j => cell_row hT0.2 j
 have f1 := fun j => unfrozen_row hT0.2 j
 clear hWA hT0
 go_enter Tryz.func73, Tryz.ntmps73
 go_wp2_with (rw [← HWA.out])
 exact bodyPost_ret (v := .tuple #[tokV 16 0 0 0, .int .i64 0]) (by simp [results, Tryz.results73, go_sem, c1]) rfl ⟨rfl, below4 T0.out.1 _ _ _ _⟩

end Go.Proofs.YtdkboifpdodonacGreatDoor
/-
 The landed scanner: the next token.
-/
namespace Go.Proofs.YtdkboifpdodonacGreatDoor
open Go.RowKit Go.Deep PureCnf PureForm PureRd
set_option maxRecDepth 100000

theorem dig_num {c : UInt8} {D : List UInt8} (hc : digB c = true) (p e : Nat) : tokT (if (c :: D).length = 1 ∧ c.toNat ≤ 49 then ⟨2, c.toNat - 48, p, p + 1⟩ else ⟨1, 133, p, e⟩) 0 = (if 0 ≤ numB (c :: D) 1 then tokV 1 (numB (c :: D) 1) 0 0 else tokV 17 0 133 0) := by
 have hr : 48 ≤ c.toNat ∧ c.toNat ≤ 57 := by simpa [digB] using hc
 cases D with
 | nil =>
  have hv : valN [c] = c.toNat - 48 := by simp [valN]
  by_cases h : c.toNat ≤ 49
  ·have hn : numB [c] 1 = ((c.toNat - 48 : Nat) : Int) := by
    rw [numB_end (by simp [plainB]) (by simp [hc]) (by rw [hv]; omega), hv]
   rw [if_pos ⟨rfl, h⟩, hn, if_pos (by omega)]
   rfl
  ·have hn : numB [c] 1 = -1 := numB_great (k := 1) (by simp [hv]; omega)
   rw [if_neg (fun x => h x.2), hn, if_neg (by omega)]
   rfl
 | cons d D =>
  have hn : numB (c :: d :: D) 1 = -1 := by
   by_cases h0 : c.toNat = 48
   ·have e : c = 48 := UInt8.toNat_inj.1 h0
    exact numB_plain (by simp [plainB, e])
   ·exact numB_great (k := 2) (by simp [valN]; omega)
  rw [if_neg (fun x => by simp at x), hn, if_neg (by omega)]
  rfl

/-- the token in front of a text, as the document's own scanner tells it. -/
theorem next_front (l : List UInt8) (i : Nat) (hi : i ≤ l.length) :
  skipB l i ≤ l.length ∧ (nextT l i).at_ = skipB l i ∧
  ((l.drop (skipB l i) = [] ∧ nextT l i = ⟨0, 0, l.length, l.length⟩) ∨
   (∃ c t, l.drop (skipB l i) = c :: t ∧ ((letB c = true ∧ nextT l i = wordT ((c :: t).takeWhile alnB) (skipB l i)) ∨
    (letB c = false ∧ digB c = true ∧ nextT l i = if ((c :: t).takeWhile digB).length = 1 ∧ c.toNat ≤ 49 then ⟨2, c.toNat - 48, skipB l i, skipB l i + 1⟩ else ⟨1, 133, skipB l i, skipB l i + ((c :: t).takeWhile digB).length⟩) ∨
    (letB c = false ∧ digB c = false ∧ nextT l i = signX (c :: t) (skipB l i) signs)))) := by
 obtain ⟨h1, h2⟩ := skipB_ge l _ i rfl
 have h3 := h2 hi
 refine ⟨h3, ?_⟩
 have hat : ∀ (w : List UInt8) (a : Nat), (wordT w a).at_ = a := fun w a => by unfold wordT; (repeat' split) <;> rfl
 have hsg : ∀ (X : List UInt8) (a : Nat) L, (signX X a L).at_ = a := fun X a L => by
  induction L with
  | nil => rfl
  | cons x r ih =>
   rw [signX]; split; · rfl
   ·exact ih
 obtain ⟨p, hp⟩ : ∃ p, p = skipB l i := ⟨_, rfl⟩
 rw [← hp] at h3
 have hun : nextT l i = if h : p < l.length then
   if letB l[p] = true then wordT ((l.take (runW alnB l p l.length)).drop p) p
   else if digB l[p] = true then
    (if runW digB l p l.length = p + 1 ∧ l[p].toNat ≤ 49 then ⟨2, l[p].toNat - 48, p, p + 1⟩ else ⟨1, 133, p, runW digB l p l.length⟩)
   else PureForm.signT l p signs
  else ⟨0, 0, l.length, l.length⟩ := by
  subst hp
  rfl
 rw [← hp]
 clear hp h1 h2
 by_cases h : p < l.length
 ·have hdr : l.drop p = l[p] :: l.drop (p + 1) := List.drop_eq_getElem_cons h
  rw [dif_pos h] at hun
  have hrw : ∀ q : UInt8 → Bool, runW q l p l.length = p + ((l[p] :: l.drop (p + 1)).takeWhile q).length := fun q => by unfold runW; rw [List.take_length, hdr]
  by_cases hl : letB l[p] = true
  ·rw [if_pos hl] at hun
   have hw : (l.take (runW alnB l p l.length)).drop p = (l[p] :: l.drop (p + 1)).takeWhile alnB := by
    rw [hrw, List.drop_take, hdr, Nat.add_sub_cancel_left]
    exact (List.prefix_iff_eq_take.1 (List.takeWhile_prefix alnB)).symm
   rw [hw] at hun
   exact ⟨by rw [hun]; exact hat _ _, .inr ⟨_, _, hdr, .inl ⟨hl, hun⟩⟩⟩
  ·rw [if_neg hl] at hun
   by_cases hd : digB l[p] = true
   ·rw [if_pos hd, hrw] at hun
    refine ⟨by rw [hun]; split <;> rfl, .inr ⟨_, _, hdr, .inr (.inl ⟨by simpa using hl, hd, ?_⟩)⟩⟩
    rw [hun]
    by_cases hz : ((l[p] :: l.drop (p + 1)).takeWhile digB).length = 1 ∧ l[p].toNat ≤ 49
    ·rw [if_pos hz, if_pos ⟨by omega, hz.2⟩]
    ·rw [if_neg hz, if_neg (fun x => hz ⟨by omega, x.2⟩)]
   ·rw [if_neg hd, signT_X, hdr] at hun
    exact ⟨by rw [hun]; exact hsg _ _ _, .inr ⟨_, _, hdr, .inr (.inr ⟨by simpa using hl, by simpa using hd, hun⟩)⟩⟩
 ·rw [dif_neg h] at hun
  have e : p = l.length := by omega
  exact ⟨by rw [hun, e], .inl ⟨by rw [e]; simp, hun⟩⟩

/-- the token in front of a text. -/
theorem first_any (l : List UInt8) (i : Nat) (hi : i ≤ l.length) (hl : l.length ≤ 1099511627776) (w : World) (hT : Lib.Utf8Tabs 2 3 w) :
  Calls Tryz.prog 73 #[str (l.drop (skipB l i))] w fun e w' => ∃ n : Nat, e = .returned (.tuple #[tokT (nextT l i) 0, .int .i64 n]) ∧ skipB l i + n ≤ l.length ∧ ((nextT l i).kind ≠ 1 → (nextT l i).end_ = skipB l i + n) ∧ Below w.heap.size w w' := by
 obtain ⟨h1, _, h2⟩ := next_front l i hi
 have hlen : (l.drop (skipB l i)).length = l.length - skipB l i := List.length_drop
 obtain ⟨p, hp⟩ : ∃ p, p = skipB l i := ⟨_, rfl⟩
 rw [← hp] at h1 h2 hlen ⊢
 clear hp
 rcases h2 with ⟨hx, hT0⟩ | ⟨c, t, hx, h⟩
 ·have : p = l.length := by rw [hx] at hlen; simp at hlen; omega
  rw [hx]
  refine (first_end w).mono ?_
  rintro e w' ⟨rfl, hb⟩
  exact ⟨0, by rw [hT0]; rfl, by omega, fun _ => by rw [hT0]; show l.length = _; omega, hb⟩
 ·rw [hx] at hlen ⊢
  have hll : (c :: t).length ≤ 1099511627776 := by omega
  rcases h with ⟨hc, hn⟩ | ⟨hc, hd, hn⟩ | ⟨hc, hd, hn⟩
  ·have h128 : c.toNat < 128 := by simp [letB] at hc; omega
   refine (first_word (c :: t) p hll w hT rfl c.toNat 1 (decodeGo_low c t h128) ((alike_let.low c h128).trans hc)).mono ?_
   rintro e w' ⟨rfl, hb⟩
   have hle : ((c :: t).takeWhile alnB).length ≤ (c :: t).length := (List.takeWhile_prefix alnB).length_le
   refine ⟨_, by rw [hn], by omega, fun _ => ?_, hb⟩
   rw [hn]
   unfold wordT
   (repeat' split) <;> rfl
  ·have h128 : c.toNat < 128 := by simp [digB] at hd; omega
   have hcs : (c :: t).takeWhile digB = c :: t.takeWhile digB := by rw [List.takeWhile_cons, if_pos hd]
   obtain ⟨kk, nn, cc, hv⟩ : ∃ kk nn cc, (if 0 ≤ numB ((c :: t).takeWhile digB) 1 then tokV 1 (numB ((c :: t).takeWhile digB) 1) 0 0 else tokV 17 0 133 0) = tokV kk nn cc 0 := by
    split
    ·exact ⟨_, _, _, rfl⟩
    ·exact ⟨_, _, _, rfl⟩
   have htok : tokT (nextT l i) 0 = tokV kk nn cc 0 := by
    rw [← hv, hn, hcs]
    exact dig_num hd p _
   refine (first_digits (c :: t) hll w hT rfl c.toNat 1 (decodeGo_low c t h128) ((alike_let.low c h128).trans hc) ((alike_dig.low c h128).trans hd) kk nn cc hv).mono ?_
   rintro e w' ⟨rfl, hb⟩
   have hle : ((c :: t).takeWhile digB).length ≤ (c :: t).length := (List.takeWhile_prefix digB).length_le
   refine ⟨_, by rw [htok], by omega, fun hk => ?_, hb⟩
   rw [hn] at hk ⊢
   split
   ·next hz => show p + 1 = _; omega
   ·rfl
  ·have hr : letR (Lib.decodeGo ⟨(c :: t).toArray⟩).1 = false ∧ digR (Lib.decodeGo ⟨(c :: t).toArray⟩).1 = false := by
    rw [decodeGo_cons]
    have a1 := (rune_step alike_let ⟨(c :: t).toArray⟩ 0 (by rw [size_str]; simp)).2.2.1
    have a2 := (rune_step alike_dig ⟨(c :: t).toArray⟩ 0 (by rw [size_str]; simp)).2.2.1
    exact ⟨a1.trans hc, a2.trans hd⟩
   have hsp : 1 ≤ (Lib.decodeGo ⟨(c :: t).toArray⟩).2 ∧ (Lib.decodeGo ⟨(c :: t).toArray⟩).2 ≤ (c :: t).length := by
    rw [decodeGo_cons]
    have := rune_step alike_let ⟨(c :: t).toArray⟩ 0 (by rw [size_str]; simp)
    have h2 := this.2.1
    rw [size_str] at h2
    exact ⟨this.1, by omega⟩
   by_cases h3 : (c :: t).take 3 = [60, 45, 62]
   ·have hs3 : signX (c :: t) p signs = ⟨7, 10, p, p + 3⟩ := by unfold signs; rw [signX]; exact if_pos h3
    refine (first_iff (c :: t) w hT rfl _ _ rfl hr.1 hr.2 h3).mono ?_
    rintro e w' ⟨rfl, hb⟩
    have : 3 ≤ (c :: t).length := by have := congrArg List.length h3; rw [List.length_take] at this; simp at this ⊢; omega
    exact ⟨3, by rw [hn, hs3]; rfl, by omega, fun _ => by rw [hn, hs3], hb⟩
   ·by_cases h2 : (c :: t).take 2 = [45, 62]
    ·have hs2 : signX (c :: t) p signs = ⟨7, 9, p, p + 2⟩ := by unfold signs; exact (signX_no (x := ([60, 45, 62], 7, 10)) h3).trans (by rw [signX]; exact if_pos h2)
     refine (first_imp (c :: t) w hT rfl _ _ rfl hr.1 hr.2 h3 h2).mono ?_
     rintro e w' ⟨rfl, hb⟩
     have : 2 ≤ (c :: t).length := by have := congrArg List.length h2; rw [List.length_take] at this; simp at this ⊢; omega
     exact ⟨2, by rw [hn, hs2]; rfl, by omega, fun _ => by rw [hn, hs2], hb⟩
    ·have hA : Agree (signX (c :: t) p signs) p (Lib.decodeGo ⟨(c :: t).toArray⟩) := by
      by_cases h128 : c.toNat < 128
      ·rw [decodeGo_low c t h128]
       exact sign_low c t p h128 h3 h2
      ·rw [decodeGo_cons]
       exact sign_high c t p (by omega)
     obtain ⟨q1, q2, q3, q4, q5⟩ := hA
     refine (first_rune (c :: t) w hT rfl _ _ rfl hr.1 hr.2 h3 h2).mono ?_
     rintro e w' ⟨rfl, hb⟩
     refine ⟨(Lib.decodeGo ⟨(c :: t).toArray⟩).2, ?_, by omega, fun hk => by rw [hn] at hk ⊢; exact q5 hk, hb⟩
     have q6 : tokT (nextT l i) 0 = tokV (runeT (Lib.decodeGo ⟨(c :: t).toArray⟩).1).1 (runeT (Lib.decodeGo ⟨(c :: t).toArray⟩).1).2.1 (runeT (Lib.decodeGo ⟨(c :: t).toArray⟩).1).2.2 0 := by
      rw [hn]
      show tokV _ _ _ _ = _
      rw [q1, q2, q3]
     exact congrArg (fun x => Ending.returned (.tuple #[x, .int .i64 ((Lib.decodeGo ⟨(c :: t).toArray⟩).2 : Nat)])) q6.symm

end Go.Proofs.YtdkboifpdodonacGreatDoor
