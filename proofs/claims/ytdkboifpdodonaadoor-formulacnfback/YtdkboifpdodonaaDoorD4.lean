/-
  The landed program's amount; the library's HasPrefix, CutPrefix, Count, LastIndex, Cut, each at a text of one byte.
-/
import Derived.Test.YtdkboifpdodonaaDoorD3
import Derived.Test.YtdkboifpdodonaaDoorB0
import Derived.Test.YtdkboifpdodonaaDoorShelf
import Derived.Lib.IndexLaws
namespace Go.Proofs.YtdkboifpdodonaaDoor
open Go.RowKit Go.Deep PureCnf
set_option maxRecDepth 100000

def amtV (l : List UInt8) (most : Nat) : Int := if numB l 2147483647 < 0 then 0 else if (most : Int) < numB l 2147483647 then 0 else numB l 2147483647
def amtE (l : List UInt8) (most : Nat) : Int := if numB l 2147483647 < 0 then 133 else if (most : Int) < numB l 2147483647 then 8 else 0

set_option maxHeartbeats 1000000 in
theorem amount_any (s : ByteArray) (most : Nat) (w : World) (hs : s.size ≤ 1099511627776) :
    Calls Tryd.prog 132 #[.string s, .int .i64 (most : Int)] w fun e w' => e = .returned (.tuple #[.int .i64 (amtV s.data.toList most), .int .i64 (amtE s.data.toList most)]) ∧ Below w.heap.size w w' := by
  have HN := hid (number33_any s 2147483647 w hs (by omega))
  have hr := numB_range s.data.toList 2147483647
  by_cases h0 : numB s.data.toList 2147483647 < 0
  · have e1 : numV s.data.toList 2147483647 = 0 ∧ numY s.data.toList 2147483647 = false := num_no (by omega)
    have HA : Hid (amtV s.data.toList most = 0 ∧ amtE s.data.toList most = 133) := by
      unfold amtV amtE; rw [if_pos h0, if_pos h0]; exact ⟨rfl, rfl⟩
    rw [e1.1, e1.2] at HN
    clear e1 hr h0
    go_enter Tryd.func132, Tryd.ntmps132
    go_wp2_with fail
    refine HN.out.mono ?_
    rintro e w1 ⟨rfl, b1⟩
    have HB := hid b1
    clear b1
    go_wp2
    go_ret2
    rw [HA.out.1, HA.out.2]
    exact ⟨rfl, HB.out⟩
  · obtain ⟨v, hv⟩ : ∃ v : Nat, numB s.data.toList 2147483647 = v := ⟨(numB s.data.toList 2147483647).toNat, by omega⟩
    have e1 := num_yes hv
    rw [e1.1, e1.2] at HN
    by_cases h1 : (most : Int) < v
    · have HA : Hid (amtV s.data.toList most = 0 ∧ amtE s.data.toList most = 8) := by
        unfold amtV amtE; rw [if_neg h0, if_neg h0, hv, if_pos h1, if_pos h1]; exact ⟨rfl, rfl⟩
      clear e1 hr h0 hv
      go_enter Tryd.func132, Tryd.ntmps132
      go_wp2_with fail
      refine HN.out.mono ?_
      rintro e w1 ⟨rfl, b1⟩
      have HB := hid b1
      clear b1
      go_wp2
      go_ret2
      rw [HA.out.1, HA.out.2]
      exact ⟨rfl, HB.out⟩
    · have HA : Hid (amtV s.data.toList most = v ∧ amtE s.data.toList most = 0) := by
        unfold amtV amtE; rw [if_neg h0, if_neg h0, hv, if_neg h1, if_neg h1]; exact ⟨rfl, rfl⟩
      clear e1 hr h0 hv
      go_enter Tryd.func132, Tryd.ntmps132
      go_wp2_with fail
      refine HN.out.mono ?_
      rintro e w1 ⟨rfl, b1⟩
      have HB := hid b1
      clear b1
      go_wp2
      go_ret2
      rw [HA.out.1, HA.out.2]
      exact ⟨rfl, HB.out⟩

theorem hasPrefix_one (l : List UInt8) (c : UInt8) : Lib.hasPrefix l [c] = decide (l.head? = some c) := by
  cases l with
  | nil => rfl
  | cons a t =>
    simp [Lib.hasPrefix, List.isPrefixOf]
    by_cases h : c = a
    · subst h; simp
    · have h2 : ¬ a = c := fun e => h e.symm
      simp [h, h2]
theorem prefix25 (s : ByteArray) (c : UInt8) (w : World) : Calls Tryd.prog 77 #[.string s, .string ⟨#[c]⟩] w fun e w' => e = .returned (.bool (decide (s.data.toList.head? = some c))) ∧ w' = w := by
  rw [← hasPrefix_one]
  exact Tryd.strings_HasPrefix s ⟨#[c]⟩ w
/-- a text without the minus in front. -/
def bare (l : List UInt8) : List UInt8 := if l.head? = some 45 then l.tail else l
theorem cutPrefix32 (s : ByteArray) (w : World) : Calls Tryd.prog 99 #[.string s, .string ⟨#[45]⟩] w fun e w' => e = .returned (.tuple #[str (bare s.data.toList), .bool (decide (s.data.toList.head? = some 45))]) ∧ w' = w := by
  have h := Tryd.strings_CutPrefix s ⟨#[45]⟩ w
  have e1 : Lib.hasPrefix s.data.toList [45] = decide (s.data.toList.head? = some 45) := hasPrefix_one _ _
  have e2 : Lib.trimPrefix s.data.toList [45] = bare s.data.toList := by
    unfold Lib.trimPrefix bare
    rw [e1]
    by_cases hh : s.data.toList.head? = some 45
    · rw [if_pos hh, if_pos (by simpa using hh)]; simp
    · rw [if_neg hh, if_neg (by simpa using hh)]
  rw [← e1, ← e2]
  exact h

/-! ### a line is cut off -/
theorem index_line : ∀ (l : List UInt8), (Lib.indexByte l 10 = -1 ∧ l.takeWhile lineB = l) ∨ ∃ k : Nat, Lib.indexByte l 10 = k ∧ k + 1 ≤ l.length ∧ l.takeWhile lineB = l.take k
  | [] => .inl ⟨rfl, rfl⟩
  | c :: t => by
    by_cases h : c = 10
    · subst h
      refine .inr ⟨0, rfl, by simp, ?_⟩
      rw [List.takeWhile_cons, if_neg (by decide)]
      rfl
    · have h1 : (c == 10) = false := by simpa using h
      have h2 : lineB c = true := by
        have : c.toNat ≠ 10 := fun e => h (UInt8.toNat_inj.1 e)
        simp [lineB, this]
      rcases index_line t with ⟨a, b⟩ | ⟨k, a, b, d⟩
      · refine .inl ⟨?_, ?_⟩
        · rw [Lib.indexByte, h1, a]; rfl
        · rw [List.takeWhile_cons, if_pos h2, b]
      · refine .inr ⟨k + 1, ?_, by simpa using b, ?_⟩
        · rw [Lib.indexByte, h1, a]
          have : ((k : Int) == -1) = false := by simp
          rw [this]; simp
        · rw [List.takeWhile_cons, if_pos h2, d]; rfl

set_option maxHeartbeats 1000000 in
theorem cut20 (s : ByteArray) (w : World) (hs : s.size ≤ 1099511627776) : Calls Tryd.prog 72 #[.string s, .string ⟨#[10]⟩] w fun e w' => (∃ x y, e = .returned (.tuple #[str (s.data.toList.takeWhile lineB), .string x, .bool y])) ∧ ∃ n, w' = w.drewN n := by
  have hlen : s.data.toList.length = s.size := by simp
  have hi := Tryd.stringslite_Index_one s 10
  rcases index_line s.data.toList with ⟨h1, h2⟩ | ⟨k, h1, hk, h2⟩
  · have HI := fun W => hid (hi W)
    simp only [h1] at HI
    have HT := hid h2
    clear h1 h2 hlen hi
    go_enter Tryd.func72, Tryd.ntmps72
    go_wp2_with (go_at_call 97; refine (HI _).out.mono ?_; rintro e w' ⟨rfl, rfl⟩)
    go_ret3
    rw [HT.out]
    refine ⟨⟨⟨#[]⟩, false, ?_⟩, 0, rfl⟩
    show _ = Ending.returned (.tuple #[.string ⟨s.data.toList.toArray⟩, _, _])
    rw [Lib.mk_data]
    rfl
  · have HI := fun W => hid (hi W)
    simp only [h1] at HI
    have HT := hid h2
    rw [hlen] at hk
    have c1 : (0 : Int) ≤ ↑k := by omega
    have c2 : (↑k : Int) ≤ ↑s.size := by omega
    have c3 : (0 : Int) ≤ ↑k + 1 := by omega
    have c4 : (↑k + 1 : Int) ≤ ↑s.size := by omega
    have c5 : IntKind.i64.wrap ((k : Int) + 1) = (k : Int) + 1 := (IntWalk.i64_left _).trans <| IntWalk.wrap64_in _ ⟨by omega, by omega⟩
    have mixed := Tryd.lays103.mixed
    clear h1 h2 hlen hi
    go_enter Tryd.func72, Tryd.ntmps72
    go_wp2_with (go_at_call 97; refine (HI _).out.mono ?_; rintro e w' ⟨rfl, rfl⟩)
    go_region_o
    go_wp2
    go_ret3
    rw [HT.out]
    refine ⟨⟨s.extract (k + 1) s.size, true, ?_⟩, 1, rfl⟩
    have e1 : s.extract 0 k = ⟨(s.data.toList.take k).toArray⟩ := by rw [Lib.extract_eq]; simp
    show Ending.returned (.tuple #[.string (s.extract 0 k), .string (s.extract (k + 1) s.size), .bool true]) = _
    rw [e1]
set_option maxHeartbeats 1000000 in
theorem cut13 (s : ByteArray) (w : World) (hs : s.size ≤ 1099511627776) : Calls Tryd.prog 51 #[.string s, .string ⟨#[10]⟩] w fun e w' => (∃ x y, e = .returned (.tuple #[str (s.data.toList.takeWhile lineB), .string x, .bool y])) ∧ Below w.heap.size w w' := by
  have HC := hid (cut20 s w hs)
  go_enter Tryd.func51, Tryd.ntmps51
  go_wp2_with (go_at_call 72; refine HC.out.mono ?_; rintro e w' ⟨⟨x, y, rfl⟩, n, rfl⟩)
  go_ret3
  exact ⟨⟨x, y, rfl⟩, Below.drewN' (Below.refl _ _) n⟩

/-! ### a place -/
theorem line_spot (l : List UInt8) : ((spotN l).1 : Int) = 1 + (l.count 10 : Nat) := by
  have e : ∀ m : List UInt8, ((spotN m.reverse).1 : Int) = 1 + (m.count 10 : Nat) := by
    intro m
    induction m with
    | nil => rfl
    | cons c t ih =>
      rw [List.reverse_cons, spotN_snoc, List.count_cons]
      by_cases h : c = 10
      · subst h
        rw [if_pos (by decide)]
        simp
        omega
      · have h1 : c.toNat ≠ 10 := fun e => h (UInt8.toNat_inj.1 e)
        rw [if_neg h1]
        simp [h]
        omega
  have := e l.reverse
  rwa [List.reverse_reverse, List.count_reverse] at this
theorem col_spot (s : ByteArray) : ∀ k, k ≤ s.size → (k : Int) - Lib.lastIdx s 10 k = ((spotN (s.data.toList.take k)).2 : Int) := by
  intro k
  induction k with
  | zero => intro _; rfl
  | succ k ih =>
    intro hk
    have hl : k < s.data.toList.length := by rw [show s.data.toList.length = s.size by simp]; omega
    have hg : s.data[k]! = s[k] := Go.Proofs.LastIndex.byteBang s k hk
    rw [take_snoc _ k hl, spotN_snoc, list_at s k hk]
    by_cases h : s[k].toNat = 10
    · rw [if_pos h, Lib.lastIdx_hit s 10 k (by rw [hg, h]; rfl)]
      simp
      omega
    · rw [if_neg h, Lib.lastIdx_miss s 10 k (by rw [hg]; omega)]
      have := ih (by omega)
      simp
      omega
theorem last28 (s : ByteArray) (w : World) (hs : s.size ≤ 1099511627776) : Calls Tryd.prog 80 #[.string s, .string ⟨#[10]⟩] w fun e w' => e = .returned (.int .i64 (s.size - ((spotN s.data.toList).2 : Int))) ∧ w' = w := by
  have h := Tryd.strings_LastIndex_one s ⟨#[10]⟩ rfl (by omega) w
  have e : Lib.lastIndexByte s 10 = (s.size - ((spotN s.data.toList).2 : Int)) := by
    have := col_spot s s.size (Nat.le_refl _)
    rw [List.take_of_length_le (by simp)] at this
    unfold Lib.lastIndexByte
    omega
  rw [← e]
  exact h
theorem count27 (s : ByteArray) (w : World) : Calls Tryd.prog 79 #[.string s, .string ⟨#[10]⟩] w fun e w' => e = .returned (.int .i64 (((spotN s.data.toList).1 : Int) - 1)) ∧ w' = w := by
  have h := Tryd.strings_Count_one s 10 w
  have e : ((Lib.countByte s.data.toList 10 : Nat) : Int) = ((spotN s.data.toList).1 : Int) - 1 := by
    have := line_spot s.data.toList
    unfold Lib.countByte
    omega
  rw [← e]
  exact h

theorem extract_take (s : ByteArray) (k : Nat) : s.extract 0 k = ⟨(s.data.toList.take k).toArray⟩ := by rw [Lib.extract_eq]; simp
set_option maxHeartbeats 1000000 in
theorem place16 (s : ByteArray) (i : Nat) (w : World) (hs : s.size ≤ 1099511627776) (hi : i ≤ s.size) :
    Calls Tryd.prog 54 #[.string s, .int .i64 (i : Int)] w fun e w' => e = .returned (.agg #[.int .i64 ((spotN (s.data.toList.take i)).1 : Int), .int .i64 ((spotN (s.data.toList.take i)).2 : Int)]) ∧ Below w.heap.size w w' := by
  have hz : (s.extract 0 i).size = i := by rw [extract_take]; show ((s.data.toList.take i).toArray).size = i; simp; omega
  have hd : (s.extract 0 i).data.toList = s.data.toList.take i := by rw [extract_take]
  have HC := fun W => hid (count27 (s.extract 0 i) W)
  have HL := fun W => hid (last28 (s.extract 0 i) W (by omega))
  simp only [hd, hz] at HC HL
  have hle := spotN_le (s.data.toList.take i)
  have hll : (s.data.toList.take i).length ≤ i := List.length_take_le _ _
  obtain ⟨a, ha⟩ : ∃ x, x = (spotN (s.data.toList.take i)).1 := ⟨_, rfl⟩
  obtain ⟨b, hb⟩ : ∃ x, x = (spotN (s.data.toList.take i)).2 := ⟨_, rfl⟩
  simp only [← ha, ← hb] at hle HC HL ⊢
  have a0 : a ≤ i + 1 := by omega
  have b0 : b ≤ i + 1 := by omega
  have HW := hid ha
  clear hle hll ha hb hz hd
  go_enter Tryd.func54, Tryd.ntmps54
  go_wp2_with (first | (go_at_call 79; refine (HC _).out.mono ?_; rintro e w' ⟨rfl, rfl⟩) | (go_at_call 80; refine (HL _).out.mono ?_; rintro e w' ⟨rfl, rfl⟩))
  rw [show (1 : Int) + ((a : Int) - 1) = a by omega, show (i : Int) - ((i : Int) - (b : Int)) = b by omega]
  have c1 := fun j => cell_row (heap_alloc_new w (Obj.cells #[.int .i64 a, .int .i64 b] 31)) j
  exact bodyPost_ret (v := .agg #[.int .i64 a, .int .i64 b]) (by simp [results, Tryd.results54, go_sem, c1]) rfl ⟨rfl, (Below.refl _ _).alloc (Nat.le_refl _) _⟩
end Go.Proofs.YtdkboifpdodonaaDoor
