import Derived.Lib.BufSteps
import Derived.Lib.ItoaLen
import Derived.Lib.Strings
import Derived.WalkKit
import Derived.WalkSpells
import Derived.WalkLawsBesides
import Derived.Deep.QuietTactic
import Derived.Deep.RegionHeld3
import Derived.Deep.RegionWith
import Derived.Deep.OwnRows
import Derived.Laws.LoneSync
import Derived.Below
import Derived.Laws.IdiomStrings
import Derived.BigQuiet
import Derived.Deep.RegionLaw
import Derived.Lib.Builder
import Derived.Lib.FrozenHead
import Derived.Lib.OthersKept
import Derived.Lib.UnsafeStr
import Derived.Laws.Externs
import Derived.Shelf.RegionOpenPlain
import Derived.Shelf.Small.Wraps
import Derived.Shelf.LaysM
import Derived.Shelf.Strconv.Itoa3
import Derived.Shelf.Strings.Search2
import Derived.Shelf.Strings.Count
import Derived.Shelf.Strings.LastIndex
import Derived.Shelf.Strings.Prefix
import Derived.Deep.DeepCutAuto
import Derived.Lib.SmallJoins
import Derived.Lib.ItoaMem
import Derived.Lib.AppendIntMem
import Derived.Deep.DeepHandedRow
import Derived.Deep.DeepWitnessRowRef
import Derived.ChangeArms
import Derived.DataElems
import Derived.SevenTiedAt
import Derived.OpenShut
import Derived.SizedLaws
import Derived.ProofKit
import Derived.Deep.Slices
import Derived.Lib.IndexLaws
import Derived.Shelf.Unicode.DecodeAny
import Derived.Deep.LoopGhost
import Derived.Lib.OwnKind
import Derived.OwnWalk
import Derived.Deep.CutBlock
import Derived.Deep.Strs
import Derived.LaidLaws
import Derived.Lib.LaidU8
import Derived.Test.YtdkboifpdodonaaDoorRows
import Derived.Test.YtdkboifpdodonaaDoorTie
import Derived.Test.YtdkboifpdodonaaDoorCards
set_option linter.unusedSimpArgs false
/-
  The document's own decimal.
-/
namespace Go.Proofs.YtdkboifpdodonaaDoor
open Go.RowKit Go.Deep
set_option maxRecDepth 100000

theorem hid {q : Prop} (h : q) : Hid q := h

/-- a string of these bytes. -/
abbrev str (l : List UInt8) : Value := .string ⟨l.toArray⟩




end Go.Proofs.YtdkboifpdodonaaDoor
/-
  Clauses: when they are formed, and their text: plain mathematics.
-/
namespace PureCnf
open Go.Lib




theorem take_snoc {α : Type} (l : List α) (k : Nat) (h : k < l.length) : l.take (k + 1) = l.take k ++ [l[k]] := List.take_succ_eq_append_getElem h


/-! ### the text -/


end PureCnf
/-
  Bytes that a call owns: appends, and their text.
-/
namespace Go.Proofs.YtdkboifpdodonaaDoor
open Go.RowKit Go.Deep PureCnf
set_option maxRecDepth 100000


theorem add_zero_addr (g j : Nat) : (⟨g, 0, none⟩ : Addr).add j = ⟨g, j, none⟩ := by
  unfold Addr.add
  split <;> simp_all
theorem cell_row {w : World} {b : Nat} {c : Array Value} {t : TypeId} {fz : Nat × Nat} (h : w.heap[b]? = some (.cells c t fz)) (i : Nat) : w.cell? ⟨b, i, none⟩ = c[i]? := by simp [World.cell?, h]










end Go.Proofs.YtdkboifpdodonaaDoor
/-
  DERIVED: THE SHELF's CONTRACTS AT THIS DUMP, IN PLAIN WORDS (tools/lay-plain.mjs out of 'YtdkboifpdodonaaDoorShelf.lean', which tools/lay-shelf.mjs wrote): THE SAME DECLARATIONS UNDER THE SAME NAMES: 'import', 'namespace', 'open', 'def', 'theorem' AND NOTHING ELSE: no command of the shelf's: FOR A HAND-IN. Each laying: the table of numbers ('.._ren') and one theorem, a field a fact of the dump's own or the kernel's comparison; each contract: ONE APPLICATION.
-/
namespace Go.Proofs
open Go.Shelf
def Tryd.lays103_ren : Go.Shelf.Ren := ⟨fun | 103 => 99 | 210 => 133 | 206 => 101 | n => n, fun | 9 => 9 | 4 => 4 | 24 => 163 | 3 => 3 | n => n, fun | n => n⟩
theorem Tryd.lays103 : Go.Proofs.Lays.n103 Tryd.prog Tryd.lays103_ren := {
  mixed := by kernel_rfl
  f103 := Tryd.func99.trans (congrArg some (by kernel_rfl))
  f206 := Tryd.func101.trans (congrArg some (by kernel_rfl))
  f210 := Tryd.func133.trans (congrArg some (by kernel_rfl))
  t3 := Tryd.underlying3
  a3 := Tryd.isAgg3
  z3 := Tryd.sizeOf3
  v3 := Tryd.zeroValue3
  t4 := Tryd.underlying4
  a4 := Tryd.isAgg4
  z4 := Tryd.sizeOf4
  v4 := Tryd.zeroValue4
  t9 := Tryd.underlying9
  a9 := Tryd.isAgg9
  z9 := Tryd.sizeOf9
  v9 := Tryd.zeroValue9
  t24 := Tryd.underlying163
  a24 := Tryd.isAgg163
  z24 := Tryd.sizeOf163
  v24 := Tryd.zeroValue163 }
open Go.RowKit in
theorem Tryd.strings_CutPrefix (s p : ByteArray) (w : World) :
    Calls Tryd.prog 99 #[.string s, .string p] w fun e w' => e = .returned (.tuple #[.string ⟨(Lib.trimPrefix s.data.toList p.data.toList).toArray⟩, .bool (Lib.hasPrefix s.data.toList p.data.toList)]) ∧ w' = w := Any.strings_CutPrefix Tryd.lays103 s p w
def Tryd.lays138_ren : Go.Shelf.Ren := ⟨fun | 138 => 79 | 195 => 102 | 218 => 103 | 143 => 104 | 219 => 97 | 217 => 128 | 225 => 129 | 224 => 130 | 267 => 131 | 266 => 149 | 314 => 150 | n => n, fun | 9 => 9 | 3 => 3 | 4 => 4 | 5 => 5 | 0 => 0 | 46 => 184 | 146 => 187 | 51 => 186 | n => n, fun | 1 => 1 | n => n⟩
theorem Tryd.lays138 : Go.Proofs.Lays.n138 Tryd.prog Tryd.lays138_ren := {
  mixed := by kernel_rfl
  f138 := Tryd.func79.trans (congrArg some (by kernel_rfl))
  f143 := Tryd.func104.trans (congrArg some (by kernel_rfl))
  f195 := Tryd.func102.trans (congrArg some (by kernel_rfl))
  f217 := Tryd.func128.trans (congrArg some (by kernel_rfl))
  f218 := Tryd.func103.trans (congrArg some (by kernel_rfl))
  f219 := Tryd.func97.trans (congrArg some (by kernel_rfl))
  f224 := Tryd.func130.trans (congrArg some (by kernel_rfl))
  f225 := Tryd.func129.trans (congrArg some (by kernel_rfl))
  f266 := Tryd.func149.trans (congrArg some (by kernel_rfl))
  f267 := Tryd.func131.trans (congrArg some (by kernel_rfl))
  f314 := Tryd.func150.trans (congrArg some (by kernel_rfl))
  t0 := Tryd.underlying0
  a0 := Tryd.isAgg0
  z0 := Tryd.sizeOf0
  v0 := Tryd.zeroValue0
  t3 := Tryd.underlying3
  a3 := Tryd.isAgg3
  z3 := Tryd.sizeOf3
  v3 := Tryd.zeroValue3
  t4 := Tryd.underlying4
  a4 := Tryd.isAgg4
  z4 := Tryd.sizeOf4
  v4 := Tryd.zeroValue4
  t5 := Tryd.underlying5
  a5 := Tryd.isAgg5
  z5 := Tryd.sizeOf5
  v5 := Tryd.zeroValue5
  t9 := Tryd.underlying9
  a9 := Tryd.isAgg9
  z9 := Tryd.sizeOf9
  v9 := Tryd.zeroValue9
  t46 := Tryd.underlying184
  a46 := Tryd.isAgg184
  z46 := Tryd.sizeOf184
  v46 := Tryd.zeroValue184
  t51 := Tryd.underlying186
  a51 := Tryd.isAgg186
  z51 := Tryd.sizeOf186
  v51 := Tryd.zeroValue186
  t146 := Tryd.underlying187
  a146 := Tryd.isAgg187
  z146 := Tryd.sizeOf187
  v146 := Tryd.zeroValue187
  g1 := by kernel_rfl }
open Go.RowKit Go.Lib in
theorem Tryd.strings_Count_one (s : ByteArray) (c : UInt8) (w : World) :
    Calls Tryd.prog 79 #[.string s, .string ⟨#[c]⟩] w fun e w' => e = .returned (.int .i64 (Lib.countByte s.data.toList c)) ∧ w' = w := Any.strings_Count_one Tryd.lays138 s c w
def Tryd.lays148_ren : Go.Shelf.Ren := ⟨fun | 148 => 80 | 222 => 105 | 223 => 106 | 269 => 135 | n => n, fun | 9 => 9 | 3 => 3 | 4 => 4 | 5 => 5 | 146 => 187 | 51 => 186 | 46 => 184 | n => n, fun | n => n⟩
theorem Tryd.lays148 : Go.Proofs.Lays.n148 Tryd.prog Tryd.lays148_ren := {
  mixed := by kernel_rfl
  f148 := Tryd.func80.trans (congrArg some (by kernel_rfl))
  f222 := Tryd.func105.trans (congrArg some (by kernel_rfl))
  f223 := Tryd.func106.trans (congrArg some (by kernel_rfl))
  f269 := Tryd.func135.trans (congrArg some (by kernel_rfl))
  t3 := Tryd.underlying3
  a3 := Tryd.isAgg3
  z3 := Tryd.sizeOf3
  v3 := Tryd.zeroValue3
  t4 := Tryd.underlying4
  a4 := Tryd.isAgg4
  z4 := Tryd.sizeOf4
  v4 := Tryd.zeroValue4
  t5 := Tryd.underlying5
  a5 := Tryd.isAgg5
  z5 := Tryd.sizeOf5
  v5 := Tryd.zeroValue5
  t9 := Tryd.underlying9
  a9 := Tryd.isAgg9
  z9 := Tryd.sizeOf9
  v9 := Tryd.zeroValue9
  t46 := Tryd.underlying184
  a46 := Tryd.isAgg184
  z46 := Tryd.sizeOf184
  v46 := Tryd.zeroValue184
  t51 := Tryd.underlying186
  a51 := Tryd.isAgg186
  z51 := Tryd.sizeOf186
  v51 := Tryd.zeroValue186
  t146 := Tryd.underlying187
  a146 := Tryd.isAgg187
  z146 := Tryd.sizeOf187
  v146 := Tryd.zeroValue187 }
open Go.RowKit Go.Lib in
theorem Tryd.strings_LastIndex_one (s sub : ByteArray) (h1 : sub.size = 1) (hs : s.size < 4611686018427387904) (w : World) :
    Calls Tryd.prog 80 #[.string s, .string sub] w fun e w' => e = .returned (.int .i64 (Lib.lastIndexByte s ((sub[0]'(by omega)).toNat : Int))) ∧ w' = w := Any.strings_LastIndex_one Tryd.lays148 s sub h1 hs w
def Tryd.lays99_ren : Go.Shelf.Ren := ⟨fun | 99 => 77 | 206 => 101 | n => n, fun | 9 => 9 | 4 => 4 | 3 => 3 | n => n, fun | n => n⟩
theorem Tryd.lays99 : Go.Proofs.Lays.n99 Tryd.prog Tryd.lays99_ren := {
  mixed := by kernel_rfl
  f99 := Tryd.func77.trans (congrArg some (by kernel_rfl))
  f206 := Tryd.func101.trans (congrArg some (by kernel_rfl))
  t3 := Tryd.underlying3
  a3 := Tryd.isAgg3
  z3 := Tryd.sizeOf3
  v3 := Tryd.zeroValue3
  t4 := Tryd.underlying4
  a4 := Tryd.isAgg4
  z4 := Tryd.sizeOf4
  v4 := Tryd.zeroValue4
  t9 := Tryd.underlying9
  a9 := Tryd.isAgg9
  z9 := Tryd.sizeOf9
  v9 := Tryd.zeroValue9 }
open Go.RowKit Go.Lib in
theorem Tryd.strings_HasPrefix (s p : ByteArray) (w : World) :
    Calls Tryd.prog 77 #[.string s, .string p] w fun e w' => e = .returned (.bool (Lib.hasPrefix s.data.toList p.data.toList)) ∧ w' = w := Any.strings_HasPrefix Tryd.lays99 s p w
end Go.Proofs
/-
  FormulaWrites: the law, over contracts of the program's own PrintCnf and FormedCnf.
-/
namespace Go.Proofs.YtdkboifpdodonaaDoor
open Go.RowKit Go.Deep PureCnf
set_option maxRecDepth 100000







theorem unfrozen_row {w : World} {b : Nat} {c : Array Value} {t : TypeId} (h : w.heap[b]? = some (.cells c t (0, 0))) (i : Nat) : w.frozen? ⟨b, i, none⟩ = false := by simp [World.frozen?, h]


end Go.Proofs.YtdkboifpdodonaaDoor
/-
  Rows: clauses that came in, opened; the table of powers of ten.
-/
namespace Go.Proofs.YtdkboifpdodonaaDoor
open Go.ChangeShapes Go.WideShapes Go.ChangeAt Go.RowKit Go.Deep
set_option maxRecDepth 100000

theorem own : ownKnob Tryd.prog.godebug = none := by kernel_rfl
theorem laidOut : laidOutB Tryd.prog = true := by kernel_rfl

section
variable {H : Type} {enc : TypeId × Value → H} {W : World} {spare : Nat → Bool} {held : Bool}


end

end Go.Proofs.YtdkboifpdodonaaDoor
/-
  Numbers as texts: plain mathematics.
-/
namespace PureCnf
open Go.Lib

def digB (c : UInt8) : Bool := decide (48 ≤ c.toNat ∧ c.toNat ≤ 57)
def valN (l : List UInt8) : Nat := l.foldl (fun a c => 10 * a + (c.toNat - 48)) 0
/-- digits without needless zeros. -/
def plainB (l : List UInt8) : Bool := decide (l ≠ []) && !(decide (1 < l.length) && decide (l.head? = some 48))
def numOk (l : List UInt8) : Bool := plainB l && l.all digB
def numB (l : List UInt8) (most : Nat) : Int := if numOk l = true ∧ valN l ≤ most then (valN l : Int) else -1

theorem valN_snoc (l : List UInt8) (c : UInt8) : valN (l ++ [c]) = 10 * valN l + (c.toNat - 48) := by simp [valN, List.foldl_append]
theorem fold_ge (a : Nat) (l : List UInt8) : a ≤ l.foldl (fun a c => 10 * a + (c.toNat - 48)) a := by
  induction l generalizing a with
  | nil => exact Nat.le_refl _
  | cons c t ih => exact Nat.le_trans (show a ≤ 10 * a + (c.toNat - 48) by omega) (ih _)
theorem valN_take_le (l : List UInt8) (k : Nat) : valN (l.take k) ≤ valN l := by
  have e : valN l = (l.drop k).foldl (fun a c => 10 * a + (c.toNat - 48)) (valN (l.take k)) := by
    conv => lhs; rw [← List.take_append_drop k l]
    rw [valN, List.foldl_append]; rfl
  rw [e]; exact fold_ge _ _
theorem numB_off {l : List UInt8} {most k : Nat} (hk : k < l.length) (h : digB l[k] = false) : numB l most = -1 := by
  have : l.all digB = false := by
    rw [Bool.eq_false_iff]; intro ha
    have := List.all_eq_true.1 ha _ (List.getElem_mem hk)
    rw [h] at this; cases this
  unfold numB numOk; rw [this]; simp
theorem numB_great {l : List UInt8} {most k : Nat} (h : most < valN (l.take k)) : numB l most = -1 := by
  have := valN_take_le l k
  unfold numB; rw [if_neg (by omega)]
theorem numB_plain {l : List UInt8} {most : Nat} (h : plainB l = false) : numB l most = -1 := by
  unfold numB numOk; rw [h]; simp
theorem numB_end {l : List UInt8} {most : Nat} (h1 : plainB l = true) (h2 : l.all digB = true) (h3 : valN l ≤ most) : numB l most = valN l := by
  unfold numB numOk; rw [h1, h2, if_pos ⟨rfl, h3⟩]
theorem numB_range (l : List UInt8) (most : Nat) : -1 ≤ numB l most ∧ numB l most ≤ most := by
  unfold numB; split <;> omega

/-! ### back -/
end PureCnf
/-
  The words of clauses' text: plain mathematics.
-/
namespace PureCnf

/-- the first place from i on (up to e) at which p does not hold. -/
def runW (p : UInt8 → Bool) (l : List UInt8) (i e : Nat) : Nat := i + (((l.take e).drop i).takeWhile p).length

theorem runW_ge (p : UInt8 → Bool) (l : List UInt8) (i e : Nat) : i ≤ runW p l i e := by unfold runW; omega
theorem runW_le {p : UInt8 → Bool} {l : List UInt8} {i e : Nat} (h : i ≤ e) : runW p l i e ≤ e := by
  unfold runW
  have h1 := (List.takeWhile_prefix p (l := (l.take e).drop i)).length_le
  rw [List.length_drop, List.length_take] at h1
  omega
theorem runW_end {p : UInt8 → Bool} {l : List UInt8} {i e : Nat} (h : e ≤ i) : runW p l i e = i := by
  have : (l.take e).drop i = [] := List.drop_eq_nil_of_le (by rw [List.length_take]; omega)
  unfold runW; rw [this]; simp
theorem drop_take {l : List UInt8} {i e : Nat} (h : i < e) (he : e ≤ l.length) : (l.take e).drop i = l[i] :: (l.take e).drop (i + 1) := by
  rw [List.drop_eq_getElem_cons (by rw [List.length_take]; omega)]
  simp [List.getElem_take]
theorem runW_on {p : UInt8 → Bool} {l : List UInt8} {i e : Nat} (h : i < e) (he : e ≤ l.length) (hp : p l[i] = true) : runW p l i e = runW p l (i + 1) e := by
  unfold runW
  rw [drop_take h he, List.takeWhile_cons, if_pos hp]
  simp; omega
theorem runW_off {p : UInt8 → Bool} {l : List UInt8} {i e : Nat} (h : i < e) (he : e ≤ l.length) (hp : p l[i] = false) : runW p l i e = i := by
  unfold runW
  rw [drop_take h he, List.takeWhile_cons, if_neg (by rw [hp]; decide)]
  simp

def whB (c : UInt8) : Bool := decide (c.toNat = 32 ∨ c.toNat = 9 ∨ c.toNat = 13)
def lineB (c : UInt8) : Bool := decide (c.toNat ≠ 10)





end PureCnf
/-
  What reading clauses stands on.
-/
namespace Go.Proofs.YtdkboifpdodonaaDoor
open Go.RowKit Go.Deep PureCnf
set_option maxRecDepth 100000

theorem list_at (s : ByteArray) (k : Nat) (h : k < s.size) : s.data.toList[k]'(by simpa using h) = s[k] := rfl

/-- the place behind these bytes: line and column. -/
def spotN (l : List UInt8) : Nat × Nat := l.foldl (fun p c => if c.toNat = 10 then (p.1 + 1, 1) else (p.1, p.2 + 1)) (1, 1)

theorem spotN_snoc (l : List UInt8) (c : UInt8) : spotN (l ++ [c]) = if c.toNat = 10 then ((spotN l).1 + 1, 1) else ((spotN l).1, (spotN l).2 + 1) := by simp [spotN, List.foldl_append]

theorem spotN_le (l : List UInt8) : (spotN l).1 ≤ l.length + 1 ∧ (spotN l).2 ≤ l.length + 1 := by
  have e : ∀ m : List UInt8, (spotN m.reverse).1 ≤ m.length + 1 ∧ (spotN m.reverse).2 ≤ m.length + 1 := by
    intro m
    induction m with
    | nil => simp [spotN]
    | cons c t ih =>
      rw [List.reverse_cons, spotN_snoc]
      split <;> simp <;> omega
  have := e l.reverse
  simpa using this






theorem ownsRow_below {w W : World} {base e size n : Nat} {v : Value} {xs : List Value} (h : w.ownsRow base e size v n xs) (hb : Below w.heap.size w W) : W.ownsRow base e size v n xs := by
  refine ⟨h.1, ?_⟩
  rcases h.2 with hn | ⟨g, cap, cur, hv, hB, hg, rest⟩
  · exact .inl hn
  · exact .inr ⟨g, cap, cur, hv, hB, (hb.block g (Array.getElem?_eq_some_iff.1 hg).1).trans hg, rest⟩

theorem ownsRow_store {W : World} {base e size n b i : Nat} {v u : Value} {xs : List Value} (h : W.ownsRow base e size v n xs) (hb : b < base) : (W.setCell ⟨b, i, none⟩ u).ownsRow base e size v n xs := by
  refine ⟨h.1, ?_⟩
  rcases h.2 with hn | ⟨g, cap, cur, hv, hB, hg, rest⟩
  · exact .inl hn
  · exact .inr ⟨g, cap, cur, hv, hB, (Below.heap_setCell W _ _ _ (by simp; omega)).trans hg, rest⟩





















end Go.Proofs.YtdkboifpdodonaaDoor
/-
  The landed program's isBlank, isNoBlank, isDigit, run.
-/
namespace Go.Proofs.YtdkboifpdodonaaDoor
open Go.RowKit Go.Deep PureCnf
set_option maxRecDepth 100000

/-! ### runes -/
theorem get_in (s : ByteArray) (j : Nat) (h : j < s.size) : s.get! j = s[j] := by
  simp [ByteArray.get!, getElem!_pos, h]
  rfl
/-- what one rune takes up: bytes of the text, all of them beyond the letters of seven bits. -/
theorem decode_span (s : ByteArray) (pos : Nat) (h : pos < s.size) (ha : 128 ≤ (s[pos]'h).toNat) :
    1 ≤ (Utf8.decode s pos).2 ∧ pos + (Utf8.decode s pos).2 ≤ s.size ∧ ∀ j (hj : j < s.size), pos ≤ j → j < pos + (Utf8.decode s pos).2 → 128 ≤ (s[j]'hj).toNat := by
  refine ⟨(decode_high s pos h ha).2, ?_⟩
  have h0 : s.get! (pos + 0) = s[pos]'h := get_in s pos h
  have hn : ¬ (s[pos]'h).toNat < 128 := by omega
  have one : pos + 1 ≤ s.size ∧ ∀ j (hj : j < s.size), pos ≤ j → j < pos + 1 → 128 ≤ (s[j]'hj).toNat := by
    refine ⟨h, fun j hj h1 h2 => ?_⟩
    obtain rfl : j = pos := by omega
    exact ha
  have big : ∀ k, pos + k < s.size → (s.get! (pos + k)).toNat / 64 = 2 → ∀ hj : pos + k < s.size, 128 ≤ (s[pos + k]'hj).toNat := by
    intro k hk he hj
    rw [get_in s (pos + k) hj] at he
    omega
  simp only [Utf8.decode, h0, hn, if_false]
  split
  · next h1 =>
    simp only [Bool.and_eq_true, beq_iff_eq, decide_eq_true_eq] at h1
    split
    · refine ⟨by omega, fun j hj a b => ?_⟩
      rcases Nat.eq_or_lt_of_le a with rfl | a
      · exact ha
      · obtain rfl : j = pos + 1 := by omega
        exact big 1 h1.2.1 h1.2.2 _
    · exact one
  · split
    · next h1 =>
      simp only [Bool.and_eq_true, beq_iff_eq, decide_eq_true_eq] at h1
      split
      · refine ⟨by omega, fun j hj a b => ?_⟩
        rcases Nat.eq_or_lt_of_le a with rfl | a
        · exact ha
        · rcases (show j = pos + 1 ∨ j = pos + 2 by omega) with rfl | rfl
          · exact big 1 h1.1.2.1 h1.1.2.2 _
          · exact big 2 h1.2.1 h1.2.2 _
      · exact one
    · split
      · next h1 =>
        simp only [Bool.and_eq_true, beq_iff_eq, decide_eq_true_eq] at h1
        split
        · refine ⟨by omega, fun j hj a b => ?_⟩
          rcases Nat.eq_or_lt_of_le a with rfl | a
          · exact ha
          · rcases (show j = pos + 1 ∨ j = pos + 2 ∨ j = pos + 3 by omega) with rfl | rfl | rfl
            · exact big 1 h1.1.1.2.1 h1.1.1.2.2 _
            · exact big 2 h1.1.2.1 h1.1.2.2 _
            · exact big 3 h1.2.1 h1.2.2 _
        · exact one
      · exact one

def whR (r : Nat) : Bool := decide (r = 32 ∨ r = 9 ∨ r = 13)
def digR (r : Nat) : Bool := decide (48 ≤ r ∧ r ≤ 57)
theorem whR_byte (c : UInt8) : whR c.toNat = whB c := rfl
theorem digR_byte (c : UInt8) : digR c.toNat = digB c := rfl

set_option maxHeartbeats 400000 in
theorem isBlank_any (r : Nat) (w : World) : Calls Tryd.prog 76 #[.int .i32 (r : Int)] w fun e w' => e = .returned (.bool (whR r)) ∧ w' = w := by
  by_cases h1 : (r : Int) = 32
  · have HD : Hid (whR r = true) := by show _ = _; unfold whR; simp; omega
    rw [h1]
    clear h1
    go_enter Tryd.func76, Tryd.ntmps76
    go_wp2
    go_ret
    rw [HD.out]
    exact ⟨rfl, rfl⟩
  · by_cases h2 : (r : Int) = 9
    · have HD : Hid (whR r = true) := by show _ = _; unfold whR; simp; omega
      rw [h2]
      clear h2 h1
      go_enter Tryd.func76, Tryd.ntmps76
      go_wp2
      go_ret
      rw [HD.out]
      exact ⟨rfl, rfl⟩
    · by_cases h3 : (r : Int) = 13
      · have HD : Hid (whR r = true) := by show _ = _; unfold whR; simp; omega
        rw [h3]
        clear h2 h1 h3
        go_enter Tryd.func76, Tryd.ntmps76
        go_wp2
        go_ret
        rw [HD.out]
        exact ⟨rfl, rfl⟩
      · have HD : Hid (whR r = false) := by show _ = _; unfold whR; simp; omega
        have g1 : ((r : Int) == 32) = false := by simp; omega
        have g2 : ((r : Int) == 9) = false := by simp; omega
        have g3 : ((r : Int) == 13) = false := by simp; omega
        clear h1 h2 h3
        go_enter Tryd.func76, Tryd.ntmps76
        go_wp2
        go_ret
        rw [HD.out]
        exact ⟨rfl, rfl⟩


set_option maxHeartbeats 400000 in
theorem isDigit_any (r : Nat) (w : World) : Calls Tryd.prog 134 #[.int .i32 (r : Int)] w fun e w' => e = .returned (.bool (digR r)) ∧ w' = w := by
  by_cases h1 : 48 ≤ (r : Int)
  · by_cases h2 : (r : Int) ≤ 57
    · have HD : Hid (digR r = true) := by show _ = _; unfold digR; simp; omega
      go_enter Tryd.func134, Tryd.ntmps134
      go_wp2
      go_ret
      rw [HD.out]
      exact ⟨rfl, rfl⟩
    · have HD : Hid (digR r = false) := by show _ = _; unfold digR; simp; omega
      go_enter Tryd.func134, Tryd.ntmps134
      go_wp2
      go_ret
      rw [HD.out]
      exact ⟨rfl, rfl⟩
  · have HD : Hid (digR r = false) := by show _ = _; unfold digR; simp; omega
    go_enter Tryd.func134, Tryd.ntmps134
    go_wp2
    go_ret
    rw [HD.out]
    exact ⟨rfl, rfl⟩

/-! ### run -/
theorem tw_take {p : UInt8 → Bool} : ∀ {l : List UInt8} {k : Nat}, k ≤ l.length → (l.take k).all p = true → (∀ h : k < l.length, p l[k] = false) → l.takeWhile p = l.take k := by
  intro l
  induction l with
  | nil => intro k _ _ _; simp
  | cons c t ih =>
    intro k hk ha hs
    cases k with
    | zero =>
      have := hs (by simp)
      simp at this
      simp [this]
    | succ k =>
      simp at ha
      rw [List.takeWhile_cons, if_pos ha.1, List.take_succ_cons, ih (by simpa using hk) (by simpa using ha.2) (fun h => by have := hs (by simpa using h); rwa [List.getElem_cons_succ] at this)]
theorem all_more {p : UInt8 → Bool} {l : List UInt8} {k n : Nat} (ha : (l.take k).all p = true) (h : ∀ j (hj : j < l.length), k ≤ j → j < k + n → p l[j] = true) : (l.take (k + n)).all p = true := by
  rw [List.all_eq_true]
  intro x hx
  obtain ⟨j, hj, rfl⟩ := List.getElem_of_mem hx
  rw [List.length_take] at hj
  rw [List.getElem_take]
  by_cases hjk : j < k
  · refine List.all_eq_true.1 ha _ ?_
    rw [List.mem_iff_getElem]
    exact ⟨j, by rw [List.length_take]; omega, by rw [List.getElem_take]⟩
  · exact h j (by omega) (by omega) (by omega)
theorem below_iter (w : World) (s : ByteArray) (pos : Nat) : Below w.heap.size w (w.iter s pos) := (Below.refl _ _).alloc (Nat.le_refl _) _

/-- the runes and the bytes of a predicate are told alike. -/
structure Alike (R : Nat → Bool) (p : UInt8 → Bool) : Prop where
  low : ∀ c : UInt8, c.toNat < 128 → R c.toNat = p c
  high : ∃ b, (∀ r, 128 ≤ r → R r = b) ∧ ∀ c : UInt8, 128 ≤ c.toNat → p c = b
theorem alike_dig : Alike digR digB := ⟨fun _ _ => rfl, false, fun r h => by unfold digR; simp; omega, fun c h => by unfold digB; simp; omega⟩

/-- one rune: what it says, and what the bytes say over which it goes. -/
theorem rune_step {R : Nat → Bool} {p : UInt8 → Bool} (hA : Alike R p) (s : ByteArray) (pos : Nat) (h : pos < s.size) :
    1 ≤ (Utf8.decode s pos).2 ∧ pos + (Utf8.decode s pos).2 ≤ s.size ∧ R (Utf8.decode s pos).1 = p s[pos] ∧ ∀ j (hj : j < s.size), pos ≤ j → j < pos + (Utf8.decode s pos).2 → p s[j] = p s[pos] := by
  by_cases ha : (s[pos]'h).toNat < 128
  · rw [decode_ascii s pos h ha]
    refine ⟨Nat.le_refl _, h, hA.low _ ha, fun j hj h1 h2 => ?_⟩
    obtain rfl : j = pos := by simp at h2; omega
    rfl
  · obtain ⟨b, hb, hp⟩ := hA.high
    obtain ⟨h1, h2, h3⟩ := decode_span s pos h (by omega)
    have h4 := (decode_high s pos h (by omega)).1
    refine ⟨h1, h2, by rw [hb _ h4, hp _ (by omega)], fun j hj a c => ?_⟩
    rw [hp _ (h3 j hj a c), hp _ (by omega)]
end Go.Proofs.YtdkboifpdodonaaDoor
/-
  A formula's text: tokens, and what is read by one stack: plain mathematics.
-/
namespace PureForm
open PureCnf

structure Tok where
  kind : Nat
  n : Nat
  at_ : Nat
  end_ : Nat

def letB (c : UInt8) : Bool := decide ((97 ≤ c.toNat ∧ c.toNat ≤ 122) ∨ (65 ≤ c.toNat ∧ c.toNat ≤ 90))
def blankB (c : UInt8) : Bool := decide (c.toNat = 32 ∨ c.toNat = 9 ∨ c.toNat = 10 ∨ c.toNat = 13)
def alnB (c : UInt8) : Bool := letB c || digB c

/-- the token of a word. -/
def wordT (w : List UInt8) (at_ : Nat) : Tok :=
  if w = [116, 114, 117, 101] then ⟨2, 1, at_, at_ + w.length⟩
  else if w = [102, 97, 108, 115, 101] then ⟨2, 0, at_, at_ + w.length⟩
  else if w = [101, 120, 105, 115, 116, 115] then ⟨5, 4, at_, at_ + w.length⟩
  else if w = [102, 111, 114, 97, 108, 108] then ⟨5, 5, at_, at_ + w.length⟩
  else if w = [105, 116, 101] then ⟨6, 131, at_, at_ + w.length⟩
  else if w.head? = some 120 ∧ (w.length = 1 ∨ ∃ c, w[1]? = some c ∧ digB c = true) then
    (if 0 ≤ numB w.tail 65535 then ⟨3, (numB w.tail 65535).toNat, at_, at_ + w.length⟩ else ⟨1, 133, at_, at_ + w.length⟩)
  else ⟨1, 131, at_, at_ + w.length⟩

/-- each spelling with its token's kind and number. -/
def signs : List (List UInt8 × Nat × Nat) :=
  [([60, 45, 62], 7, 10), ([45, 62], 7, 9), ([33], 4, 0), ([126], 4, 0), ([38], 7, 6), ([124], 7, 7), ([94], 7, 8),
   ([40], 8, 0), ([41], 9, 0), ([44], 10, 0), ([58], 11, 0),
   ([194, 172], 4, 0), ([226, 136, 167], 7, 6), ([226, 136, 168], 7, 7), ([226, 138, 149], 7, 8), ([226, 134, 146], 7, 9), ([226, 134, 148], 7, 10),
   ([226, 136, 131], 5, 4), ([226, 136, 128], 5, 5), ([226, 138, 164], 2, 1), ([226, 138, 165], 2, 0)]

def signT (l : List UInt8) (i : Nat) : List (List UInt8 × Nat × Nat) → Tok
  | [] => ⟨1, 130, i, i + 1⟩
  | x :: r => if (l.drop i).take x.1.length = x.1 then ⟨x.2.1, x.2.2, i, i + x.1.length⟩ else signT l i r

def skipF (l : List UInt8) : Nat → Nat → Nat
  | 0, i => i
  | f + 1, i => if h : i < l.length then
      (if l[i].toNat = 35 then (if i < runW lineB l i l.length then skipF l f (runW lineB l i l.length) else i)
       else if blankB l[i] = true then skipF l f (i + 1) else i)
    else i
theorem skipF_more (l : List UInt8) : ∀ (f g i : Nat), l.length - i ≤ f → l.length - i ≤ g → skipF l f i = skipF l g i := by
  intro f
  induction f with
  | zero =>
    intro g i hf _
    have h : ¬ i < l.length := by omega
    cases g with
    | zero => rfl
    | succ g => rw [skipF, skipF, dif_neg h]
  | succ f ih =>
    intro g i hf hg
    by_cases h : i < l.length
    · cases g with
      | zero => omega
      | succ g =>
        rw [skipF, skipF, dif_pos h, dif_pos h]
        by_cases h35 : l[i].toNat = 35
        · rw [if_pos h35, if_pos h35]
          by_cases h2 : i < runW lineB l i l.length
          · rw [if_pos h2, if_pos h2]
            exact ih g _ (by omega) (by omega)
          · rw [if_neg h2, if_neg h2]
        · rw [if_neg h35, if_neg h35]
          by_cases hb : blankB l[i] = true
          · rw [if_pos hb, if_pos hb]
            exact ih g _ (by omega) (by omega)
          · rw [if_neg hb, if_neg hb]
    · cases g with
      | zero => rw [skipF, skipF, dif_neg h]
      | succ g => rw [skipF, skipF, dif_neg h, dif_neg h]
/-- the first place from i on that is no blank and no remark. -/
def skipB (l : List UInt8) (i : Nat) : Nat := skipF l (l.length - i) i
theorem skipB_eq (l : List UInt8) (i : Nat) : skipB l i =
  if h : i < l.length then
    if l[i].toNat = 35 then (if _h2 : i < runW lineB l i l.length then skipB l (runW lineB l i l.length) else i)
    else if blankB l[i] = true then skipB l (i + 1) else i
  else i := by
  unfold skipB
  by_cases h : i < l.length
  · obtain ⟨n, hn⟩ : ∃ n, l.length - i = n + 1 := ⟨l.length - i - 1, by omega⟩
    rw [dif_pos h, hn, skipF, dif_pos h]
    by_cases h35 : l[i].toNat = 35
    · rw [if_pos h35, if_pos h35]
      by_cases h2 : i < runW lineB l i l.length
      · rw [if_pos h2, dif_pos h2]
        exact skipF_more l _ _ _ (by omega) (by omega)
      · rw [if_neg h2, dif_neg h2]
    · rw [if_neg h35, if_neg h35]
      by_cases hb : blankB l[i] = true
      · rw [if_pos hb, if_pos hb]
        exact skipF_more l _ _ _ (by omega) (by omega)
      · rw [if_neg hb, if_neg hb]
  · rw [dif_neg h]
    cases hm : l.length - i with
    | zero => rfl
    | succ n => rw [skipF, dif_neg h]

/-- the token from a place on. -/
def nextT (l : List UInt8) (i0 : Nat) : Tok :=
  if h : skipB l i0 < l.length then
    if letB l[skipB l i0] = true then wordT ((l.take (runW alnB l (skipB l i0) l.length)).drop (skipB l i0)) (skipB l i0)
    else if digB l[skipB l i0] = true then
      (if runW digB l (skipB l i0) l.length = skipB l i0 + 1 ∧ l[skipB l i0].toNat ≤ 49 then ⟨2, l[skipB l i0].toNat - 48, skipB l i0, skipB l i0 + 1⟩
       else ⟨1, 133, skipB l i0, runW digB l (skipB l i0) l.length⟩)
    else signT l (skipB l i0) signs
  else ⟨0, 0, l.length, l.length⟩

def toksF (l : List UInt8) : Nat → Nat → List Tok
  | 0, i => [nextT l i]
  | f + 1, i => if (nextT l i).kind ≠ 0 ∧ i < (nextT l i).end_ ∧ (nextT l i).end_ ≤ l.length then nextT l i :: toksF l f (nextT l i).end_ else [nextT l i]
theorem toksF_more (l : List UInt8) : ∀ (f g i : Nat), l.length - i ≤ f → l.length - i ≤ g → toksF l f i = toksF l g i := by
  intro f
  induction f with
  | zero =>
    intro g i hf _
    cases g with
    | zero => rfl
    | succ g => rw [toksF, toksF, if_neg (by omega)]
  | succ f ih =>
    intro g i hf hg
    by_cases h : (nextT l i).kind ≠ 0 ∧ i < (nextT l i).end_ ∧ (nextT l i).end_ ≤ l.length
    · cases g with
      | zero => omega
      | succ g => rw [toksF, toksF, if_pos h, if_pos h, ih g _ (by omega) (by omega)]
    · cases g with
      | zero => rw [toksF, toksF, if_neg h]
      | succ g => rw [toksF, toksF, if_neg h, if_neg h]
/-- all tokens, the end's last. -/
def toksFrom (l : List UInt8) (i : Nat) : List Tok := toksF l (l.length - i) i
theorem toksFrom_eq (l : List UInt8) (i : Nat) : toksFrom l i =
  if _h : (nextT l i).kind ≠ 0 ∧ i < (nextT l i).end_ ∧ (nextT l i).end_ ≤ l.length then nextT l i :: toksFrom l (nextT l i).end_ else [nextT l i] := by
  unfold toksFrom
  by_cases h : (nextT l i).kind ≠ 0 ∧ i < (nextT l i).end_ ∧ (nextT l i).end_ ≤ l.length
  · obtain ⟨n, hn⟩ : ∃ n, l.length - i = n + 1 := ⟨l.length - i - 1, by omega⟩
    rw [dif_pos h, hn, toksF, if_pos h, toksF_more l n (l.length - (nextT l i).end_) _ (by omega) (by omega)]
  · rw [dif_neg h]
    cases hm : l.length - i with
    | zero => rfl
    | succ n => rw [toksF, if_neg h]

/-! ### the stack -/
structure Wt where
  kind : Nat
  op : Nat
  n : Nat
abbrev Nd := Int × Int

def opnOf (st : List Wt) : Nat := st.countP fun w => w.kind != 5
def nodeOf (w : Wt) : Nd := if w.kind = 1 then (3, 0) else if w.kind = 2 then ((w.op : Int), (w.n : Int)) else if w.kind = 4 then (11, 0) else ((w.op : Int), 0)
def bindsN (op : Nat) : Nat := if op = 6 then 5 else if op = 8 then 4 else if op = 7 then 3 else if op = 9 then 2 else 1

/-- does what waits on top give way to an operator? -/
def gives (op : Nat) (w : Wt) : Bool := w.kind == 1 || (w.kind == 5 && !(decide (bindsN w.op < bindsN op) || (bindsN w.op == bindsN op && op == 9)))
def settleOps (op : Nat) : List Wt → List Nd → List Wt × List Nd
  | [], o => ([], o)
  | w :: t, o => if gives op w = true then settleOps op t (o ++ [nodeOf w]) else (w :: t, o)
def settleIn : List Wt → List Nd → List Wt × List Nd
  | [], o => ([], o)
  | w :: t, o => if w.kind = 3 ∨ w.kind = 4 then (w :: t, o) else settleIn t (o ++ [nodeOf w])

structure PS where
  st : List Wt
  out : List Nd
  made : Nat
  want : Nat
  quant : Nat

/-- a bracket or prefix is opened, a node made (or not). -/
def opensP (s : PS) (w : Wt) (d : Nat) (want : Nat) : Except Nat (PS ⊕ List Nd) :=
  if 64 ≤ opnOf s.st then .error 132 else if d = 1 ∧ 65536 ≤ s.made then .error 8 else .ok (.inl { s with st := w :: s.st, made := s.made + d, want := want })
def closesP (s : PS) : Except Nat (PS ⊕ List Nd) :=
  match settleIn s.st s.out with
  | (w :: t, o) => if w.kind = 3 then .ok (.inl { s with st := t, out := o }) else if w.kind = 4 ∧ w.n = 2 then .ok (.inl { s with st := t, out := o ++ [nodeOf w] }) else .error 131
  | ([], _) => .error 131
def commaP (s : PS) : Except Nat (PS ⊕ List Nd) :=
  match settleIn s.st s.out with
  | (w :: t, o) => if w.kind = 4 ∧ w.n < 2 then .ok (.inl { s with st := { w with n := w.n + 1 } :: t, out := o, want := 0 }) else .error 131
  | ([], _) => .error 131
def endsP (s : PS) : Except Nat (PS ⊕ List Nd) :=
  match settleIn s.st s.out with
  | (_ :: _, _) => .error 131
  | ([], o) => .ok (.inr o)

/-- one token. -/
def stepP (s : PS) (t : Tok) : Except Nat (PS ⊕ List Nd) :=
  if t.kind = 1 then .error t.n
  else if s.want = 0 then
    (if t.kind = 2 ∨ t.kind = 3 then (if 65536 ≤ s.made then .error 8 else .ok (.inl { s with out := s.out ++ [((if t.kind = 3 then 2 else 1 : Int), (t.n : Int))], made := s.made + 1, want := 1 }))
     else if t.kind = 5 then .ok (.inl { s with quant := t.n, want := 3 })
     else if t.kind = 8 then opensP s ⟨3, 0, 0⟩ 0 0
     else if t.kind = 6 then opensP s ⟨4, 0, 0⟩ 1 2
     else if t.kind = 4 then opensP s ⟨1, 0, 0⟩ 1 0
     else .error 131)
  else if s.want = 2 then (if t.kind = 8 then .ok (.inl { s with want := 0 }) else .error 131)
  else if s.want = 3 then (if t.kind = 3 then opensP s ⟨2, s.quant, t.n⟩ 1 4 else .error 131)
  else if s.want = 4 then (if t.kind = 10 then .ok (.inl { s with want := 3 }) else if t.kind = 11 then .ok (.inl { s with want := 0 }) else .error 131)
  else
    (if t.kind = 7 then (if 65536 ≤ s.made then .error 8 else .ok (.inl { s with st := ⟨5, t.n, 0⟩ :: (settleOps t.n s.st s.out).1, out := (settleOps t.n s.st s.out).2, made := s.made + 1, want := 0 }))
     else if t.kind = 9 then closesP s
     else if t.kind = 10 then commaP s
     else if t.kind = 0 then endsP s
     else .error 131)

def runP (s : PS) : List Tok → Except (Nat × Nat) (List Nd)
  | [] => .error (131, 0)
  | t :: r => match stepP s t with
    | .error e => .error (e, t.at_)
    | .ok (.inl s') => runP s' r
    | .ok (.inr o) => .ok o

def parseF (l : List UInt8) : Except (Nat × Option Nat) (List Nd) :=
  if 1048576 < l.length then .error (5, none) else
  match runP ⟨[], [], 0, 0, 0⟩ (toksFrom l 0) with
  | .error (e, a) => .error (e, some a)
  | .ok o => .ok o
end PureForm
/-
  Tokens: where they begin and end, what numbers they have: plain mathematics.
-/
namespace PureForm
open PureCnf

theorem skipB_ge (l : List UInt8) : ∀ (d i : Nat), l.length - i = d → i ≤ skipB l i ∧ (i ≤ l.length → skipB l i ≤ l.length) := by
  intro d
  induction d using Nat.strongRecOn with
  | _ d ih =>
    intro i hd
    rw [skipB_eq]
    split
    · next h =>
      split
      · split
        · next h2 =>
          have := ih (l.length - runW lineB l i l.length) (by omega) _ rfl
          have h3 : runW lineB l i l.length ≤ l.length := runW_le (by omega)
          exact ⟨by omega, fun _ => this.2 h3⟩
        · exact ⟨Nat.le_refl _, fun h => h⟩
      · split
        · have := ih (l.length - (i + 1)) (by omega) _ rfl
          exact ⟨by omega, fun _ => this.2 (by omega)⟩
        · exact ⟨Nat.le_refl _, fun h => h⟩
    · exact ⟨Nat.le_refl _, fun h => h⟩

/-- a token that may come. -/
structure TokOk (l : List UInt8) (i : Nat) (t : Tok) : Prop where
  at_ : t.at_ ≤ l.length
  end_ : t.kind ≠ 0 → i < t.end_ ∧ t.end_ ≤ l.length
  end0 : t.end_ ≤ l.length
  kind : t.kind ≤ 11
  bad : t.kind = 1 → t.n ≠ 0
  num : t.n ≤ 65535
  op : t.kind = 7 → t.n ≤ 10
  quant : t.kind = 5 → t.n ≤ 5

theorem word_ok {l w : List UInt8} {i p : Nat} (hp : i ≤ p) (hw : 0 < w.length) (hl : p + w.length ≤ l.length) : TokOk l i (wordT w p) := by
  have hr := numB_range w.tail 65535
  unfold wordT
  split
  · exact ⟨by simp; omega, fun _ => ⟨by simp; omega, by simpa using hl⟩, by simpa using hl, by simp, by simp, by simp, by simp, by simp⟩
  · split
    · exact ⟨by simp; omega, fun _ => ⟨by simp; omega, by simpa using hl⟩, by simpa using hl, by simp, by simp, by simp, by simp, by simp⟩
    · split
      · exact ⟨by simp; omega, fun _ => ⟨by simp; omega, by simpa using hl⟩, by simpa using hl, by simp, by simp, by simp, by simp, by simp⟩
      · split
        · exact ⟨by simp; omega, fun _ => ⟨by simp; omega, by simpa using hl⟩, by simpa using hl, by simp, by simp, by simp, by simp, by simp⟩
        · split
          · exact ⟨by simp; omega, fun _ => ⟨by simp; omega, by simpa using hl⟩, by simpa using hl, by simp, by simp, by simp, by simp, by simp⟩
          · split
            · split
              · exact ⟨by simp; omega, fun _ => ⟨by simp; omega, by simpa using hl⟩, by simpa using hl, by simp, by simp, by simp; omega, by simp, by simp⟩
              · exact ⟨by simp; omega, fun _ => ⟨by simp; omega, by simpa using hl⟩, by simpa using hl, by simp, by simp, by simp, by simp, by simp⟩
            · exact ⟨by simp; omega, fun _ => ⟨by simp; omega, by simpa using hl⟩, by simpa using hl, by simp, by simp, by simp, by simp, by simp⟩

theorem sign_ok {l : List UInt8} {i p : Nat} (hp : i ≤ p) (hl : p < l.length) : ∀ (L : List (List UInt8 × Nat × Nat)), (∀ x ∈ L, 0 < x.1.length ∧ 2 ≤ x.2.1 ∧ x.2.1 ≤ 11 ∧ x.2.2 ≤ 10 ∧ (x.2.1 = 5 → x.2.2 ≤ 5)) → TokOk l i (signT l p L) := by
  intro L
  induction L with
  | nil =>
    intro _
    exact ⟨by simp [signT]; omega, fun _ => ⟨by simp [signT]; omega, by simp [signT]; omega⟩, by simp [signT]; omega, by simp [signT], by simp [signT], by simp [signT], by simp [signT], by simp [signT]⟩
  | cons x r ih =>
    intro h
    rw [signT]
    split
    · next he =>
      obtain ⟨h1, h2, h3, h4, h5⟩ := h x (List.mem_cons_self ..)
      have hlen := congrArg List.length he
      rw [List.length_take, List.length_drop] at hlen
      exact ⟨by simp; omega, fun _ => ⟨by simp; omega, by simp; omega⟩, by simp; omega, by simpa using h3, fun e => by simp at e; omega, by simp; omega, fun _ => by simpa using h4, fun e => by simpa using h5 (by simpa using e)⟩
    · exact ih (fun y hy => h y (List.mem_cons_of_mem _ hy))

theorem next_ok (l : List UInt8) (i : Nat) : TokOk l i (nextT l i) := by
  obtain ⟨h1, h2⟩ := skipB_ge l _ i rfl
  unfold nextT
  split
  · next h =>
    split
    · next hl =>
      have hk : skipB l i < runW alnB l (skipB l i) l.length := by
        rw [runW_on h (Nat.le_refl _) (by simp [alnB, hl])]
        have := runW_ge alnB l (skipB l i + 1) l.length
        omega
      have hk2 : runW alnB l (skipB l i) l.length ≤ l.length := runW_le (by omega)
      have hlen : ((l.take (runW alnB l (skipB l i) l.length)).drop (skipB l i)).length = runW alnB l (skipB l i) l.length - skipB l i := by simp; omega
      exact word_ok h1 (by rw [hlen]; omega) (by rw [hlen]; omega)
    · split
      · next hd =>
        have hk : skipB l i < runW digB l (skipB l i) l.length := by
          rw [runW_on h (Nat.le_refl _) hd]
          have := runW_ge digB l (skipB l i + 1) l.length
          omega
        have hk2 : runW digB l (skipB l i) l.length ≤ l.length := runW_le (by omega)
        split
        · next hb => exact ⟨by simp; omega, fun _ => ⟨by simp; omega, by simp; omega⟩, by simp; omega, by simp, by simp, by simp; omega, by simp, by simp⟩
        · exact ⟨by simp; omega, fun _ => ⟨by simp; omega, by simpa using hk2⟩, by simpa using hk2, by simp, by simp, by simp, by simp, by simp⟩
      · exact sign_ok h1 h signs (by decide)
  · exact ⟨by simp, by simp, by simp, by simp, by simp, by simp, by simp, by simp⟩

theorem run_err {l : List UInt8} {q : Nat} {s : PS} {e : Nat} (h : stepP s (nextT l q) = .error e) : runP s (toksFrom l q) = .error (e, (nextT l q).at_) := by
  rw [toksFrom_eq]
  split <;> rw [runP, h]
theorem run_done {l : List UInt8} {q : Nat} {s : PS} {o : List Nd} (h : stepP s (nextT l q) = .ok (.inr o)) : runP s (toksFrom l q) = .ok o := by
  rw [toksFrom_eq]
  split <;> rw [runP, h]
theorem run_on {l : List UInt8} {q : Nat} {s s' : PS} (h0 : (nextT l q).kind ≠ 0) (h : stepP s (nextT l q) = .ok (.inl s')) : runP s (toksFrom l q) = runP s' (toksFrom l (nextT l q).end_) := by
  rw [toksFrom_eq, dif_pos ⟨h0, (next_ok l q).end_ h0⟩, runP, h]

theorem parseF_err {l : List UInt8} {f : Nat × Nat} (hl : l.length ≤ 1048576) (h : runP ⟨[], [], 0, 0, 0⟩ (toksFrom l 0) = .error f) : parseF l = .error (f.1, some f.2) := by
  unfold parseF
  rw [if_neg (by omega), h]
theorem parseF_ok {l : List UInt8} {o : List Nd} (hl : l.length ≤ 1048576) (h : runP ⟨[], [], 0, 0, 0⟩ (toksFrom l 0) = .ok o) : parseF l = .ok o := by
  unfold parseF
  rw [if_neg (by omega), h]
theorem parseF_long {l : List UInt8} (hl : 1048576 < l.length) : parseF l = .error (5, none) := by
  unfold parseF
  rw [if_pos hl]
end PureForm
/-
  The landed scanner: letters, digits, runs of them.
-/
namespace Go.Proofs.YtdkboifpdodonaaDoor
open Go.RowKit Go.Deep PureCnf PureForm
set_option maxRecDepth 100000

def letR (r : Nat) : Bool := decide ((97 ≤ r ∧ r ≤ 122) ∨ (65 ≤ r ∧ r ≤ 90))
def alnR (r : Nat) : Bool := letR r || digR r
theorem alike_let : Alike letR letB := ⟨fun _ _ => rfl, false, fun r h => by unfold letR; simp; omega, fun c h => by unfold letB; simp; omega⟩
theorem alike_aln : Alike alnR alnB := ⟨fun _ _ => rfl, false, fun r h => by unfold alnR letR digR; simp; omega, fun c h => by unfold alnB letB digB; simp; omega⟩

set_option maxHeartbeats 800000 in
theorem isLetter_any (r : Nat) (w : World) : Calls Tryd.prog 138 #[.int .i32 (r : Int)] w fun e w' => e = .returned (.bool (letR r)) ∧ w' = w := by
  have hc : (97 ≤ (r : Int) ∧ (r : Int) ≤ 122) ∨ (97 ≤ (r : Int) ∧ ¬ (r : Int) ≤ 122 ∧ 65 ≤ (r : Int) ∧ ¬ (r : Int) ≤ 90) ∨ (¬ 97 ≤ (r : Int) ∧ 65 ≤ (r : Int) ∧ (r : Int) ≤ 90) ∨ (¬ 97 ≤ (r : Int) ∧ 65 ≤ (r : Int) ∧ ¬ (r : Int) ≤ 90) ∨ (¬ 97 ≤ (r : Int) ∧ ¬ 65 ≤ (r : Int)) := by omega
  rcases hc with ⟨h1, h2⟩ | ⟨h1, h2, h3, h4⟩ | ⟨h1, h2, h3⟩ | ⟨h1, h2, h3⟩ | ⟨h1, h2⟩
  · have HD : Hid (letR r = true) := by show _ = _; unfold letR; simp; omega
    go_enter Tryd.func138, Tryd.ntmps138
    go_wp2
    go_ret
    rw [HD.out]
    exact ⟨rfl, rfl⟩
  · have HD : Hid (letR r = false) := by show _ = _; unfold letR; simp; omega
    go_enter Tryd.func138, Tryd.ntmps138
    go_wp2
    go_ret
    rw [HD.out]
    exact ⟨rfl, rfl⟩
  · have HD : Hid (letR r = true) := by show _ = _; unfold letR; simp; omega
    go_enter Tryd.func138, Tryd.ntmps138
    go_wp2
    go_ret
    rw [HD.out]
    exact ⟨rfl, rfl⟩
  · have HD : Hid (letR r = false) := by show _ = _; unfold letR; simp; omega
    go_enter Tryd.func138, Tryd.ntmps138
    go_wp2
    go_ret
    rw [HD.out]
    exact ⟨rfl, rfl⟩
  · have HD : Hid (letR r = false) := by show _ = _; unfold letR; simp; omega
    go_enter Tryd.func138, Tryd.ntmps138
    go_wp2
    go_ret
    rw [HD.out]
    exact ⟨rfl, rfl⟩
set_option maxHeartbeats 400000 in
theorem isAln_any (r : Nat) (w : World) : Calls Tryd.prog 139 #[.int .i32 (r : Int)] w fun e w' => e = .returned (.bool (alnR r)) ∧ w' = w := by
  have HL := fun W => hid (isLetter_any r W)
  have HG := fun W => hid (isDigit_any r W)
  unfold alnR
  cases hl : letR r with
  | true =>
    simp only [hl] at HL
    clear hl
    go_enter Tryd.func139, Tryd.ntmps139
    go_wp2_with (first | (go_at_call 138; refine (HL _).out.mono ?_; rintro e w' ⟨rfl, rfl⟩) | (go_at_call 134; refine (HG _).out.mono ?_; rintro e w' ⟨rfl, rfl⟩))
    go_ret
    exact ⟨rfl, rfl⟩
  | false =>
    simp only [hl] at HL
    clear hl
    go_enter Tryd.func139, Tryd.ntmps139
    go_wp2_with (first | (go_at_call 138; refine (HL _).out.mono ?_; rintro e w' ⟨rfl, rfl⟩) | (go_at_call 134; refine (HG _).out.mono ?_; rintro e w' ⟨rfl, rfl⟩))
    go_ret
    exact ⟨rfl, rfl⟩

set_option maxHeartbeats 1000000 in
theorem runD_any (s : ByteArray) (w : World) :
    Calls Tryd.prog 75 #[.string s, .func (.func 134) #[] #[]] w fun e w' => e = .returned (str (s.data.toList.takeWhile digB)) ∧ Below w.heap.size w w' := by
  have hlen : s.data.toList.length = s.size := by simp
  have HC := fun r W => hid (isDigit_any r W)
  have HL := hid hlen
  clear hlen
  go_enter Tryd.func75, Tryd.ntmps75
  go_wp2
  go_loopw [5] (fun _ w' => ∃ pos : Nat, w' = w.iter s pos ∧ pos ≤ s.size ∧ Hid ((s.data.toList.take pos).all digB = true)) (fun _ w' => s.size - w'.iterPos w.heap.size)
  case atStart => exact ⟨0, rfl, Nat.zero_le _, rfl⟩
  case round =>
    obtain ⟨pos, rfl, hle, HA⟩ := hrel
    by_cases hp : pos < s.size
    · have hnx : ∀ ty, (Instr.next (.pointer (some ⟨w.heap.size, 0, none⟩)) true ty).run Tryd.prog (w.iter s pos) = _ := fun ty => run_next_any w s pos ty hp
      obtain ⟨q1, q2, q3, q4⟩ := rune_step alike_dig s pos hp
      have hB := HC (Utf8.decode s pos).1 (w.iter s (pos + (Utf8.decode s pos).2))
      simp only [q3] at hB
      cases hd : digB s[pos] with
      | true =>
        rw [hd] at hB
        have HA1 : Hid ((s.data.toList.take (pos + (Utf8.decode s pos).2)).all digB = true) := by
          refine all_more HA.out (fun j hj a b => ?_)
          have hj' : j < s.size := by rw [← HL.out]; exact hj
          rw [list_at s j hj', q4 j hj' a b, hd]
        have HQ := hid q4
        have HQ3 := hid q3
        clear q3 q4 hd
        go_wp2_with (go_at_call 134; refine hB.out.mono ?_; rintro e w' ⟨rfl, rfl⟩)
        go_roundw
        case rel => exact ⟨_, rfl, q2, HA1.out⟩
        case measure => simp; omega
      | false =>
        rw [hd] at hB
        have HT : Hid (s.data.toList.takeWhile digB = s.data.toList.take pos) := tw_take (by rw [HL.out]; omega) HA.out (fun h => by rw [list_at s pos hp]; exact hd)
        clear q3 q4 hd
        go_wp2_with (go_at_call 134; refine hB.out.mono ?_; rintro e w' ⟨rfl, rfl⟩)
        go_ret
        refine ⟨?_, below_iter _ _ _⟩
        rw [HT.out, Lib.extract_eq]
        simp
    · have hnx : ∀ ty, (Instr.next (.pointer (some ⟨w.heap.size, 0, none⟩)) true ty).run Tryd.prog (w.iter s pos) = _ := fun ty => run_next_end w s pos ty hp
      have HT : Hid (s.data.toList.takeWhile digB = s.data.toList) := by
        have := tw_take (p := digB) (l := s.data.toList) (k := pos) (by rw [HL.out]; omega) HA.out (fun h => absurd h (by rw [HL.out]; omega))
        show _ = _
        rw [this, List.take_of_length_le (by rw [HL.out]; omega)]
      go_wp2
      go_ret
      refine ⟨?_, below_iter _ _ _⟩
      rw [HT.out]
      show _ = Ending.returned (.string ⟨s.data.toList.toArray⟩)
      rw [Lib.mk_data]
      rfl


set_option maxHeartbeats 1000000 in
theorem runL_any (s : ByteArray) (w : World) :
    Calls Tryd.prog 75 #[.string s, .func (.func 138) #[] #[]] w fun e w' => e = .returned (str (s.data.toList.takeWhile letB)) ∧ Below w.heap.size w w' := by
  have hlen : s.data.toList.length = s.size := by simp
  have HC := fun r W => hid (isLetter_any r W)
  have HL := hid hlen
  clear hlen
  go_enter Tryd.func75, Tryd.ntmps75
  go_wp2
  go_loopw [5] (fun _ w' => ∃ pos : Nat, w' = w.iter s pos ∧ pos ≤ s.size ∧ Hid ((s.data.toList.take pos).all letB = true)) (fun _ w' => s.size - w'.iterPos w.heap.size)
  case atStart => exact ⟨0, rfl, Nat.zero_le _, rfl⟩
  case round =>
    obtain ⟨pos, rfl, hle, HA⟩ := hrel
    by_cases hp : pos < s.size
    · have hnx : ∀ ty, (Instr.next (.pointer (some ⟨w.heap.size, 0, none⟩)) true ty).run Tryd.prog (w.iter s pos) = _ := fun ty => run_next_any w s pos ty hp
      obtain ⟨q1, q2, q3, q4⟩ := rune_step alike_let s pos hp
      have hB := HC (Utf8.decode s pos).1 (w.iter s (pos + (Utf8.decode s pos).2))
      simp only [q3] at hB
      cases hd : letB s[pos] with
      | true =>
        rw [hd] at hB
        have HA1 : Hid ((s.data.toList.take (pos + (Utf8.decode s pos).2)).all letB = true) := by
          refine all_more HA.out (fun j hj a b => ?_)
          have hj' : j < s.size := by rw [← HL.out]; exact hj
          rw [list_at s j hj', q4 j hj' a b, hd]
        have HQ := hid q4
        have HQ3 := hid q3
        clear q3 q4 hd
        go_wp2_with (go_at_call 138; refine hB.out.mono ?_; rintro e w' ⟨rfl, rfl⟩)
        go_roundw
        case rel => exact ⟨_, rfl, q2, HA1.out⟩
        case measure => simp; omega
      | false =>
        rw [hd] at hB
        have HT : Hid (s.data.toList.takeWhile letB = s.data.toList.take pos) := tw_take (by rw [HL.out]; omega) HA.out (fun h => by rw [list_at s pos hp]; exact hd)
        clear q3 q4 hd
        go_wp2_with (go_at_call 138; refine hB.out.mono ?_; rintro e w' ⟨rfl, rfl⟩)
        go_ret
        refine ⟨?_, below_iter _ _ _⟩
        rw [HT.out, Lib.extract_eq]
        simp
    · have hnx : ∀ ty, (Instr.next (.pointer (some ⟨w.heap.size, 0, none⟩)) true ty).run Tryd.prog (w.iter s pos) = _ := fun ty => run_next_end w s pos ty hp
      have HT : Hid (s.data.toList.takeWhile letB = s.data.toList) := by
        have := tw_take (p := letB) (l := s.data.toList) (k := pos) (by rw [HL.out]; omega) HA.out (fun h => absurd h (by rw [HL.out]; omega))
        show _ = _
        rw [this, List.take_of_length_le (by rw [HL.out]; omega)]
      go_wp2
      go_ret
      refine ⟨?_, below_iter _ _ _⟩
      rw [HT.out]
      show _ = Ending.returned (.string ⟨s.data.toList.toArray⟩)
      rw [Lib.mk_data]
      rfl


set_option maxHeartbeats 1000000 in
theorem runA_any (s : ByteArray) (w : World) :
    Calls Tryd.prog 75 #[.string s, .func (.func 139) #[] #[]] w fun e w' => e = .returned (str (s.data.toList.takeWhile alnB)) ∧ Below w.heap.size w w' := by
  have hlen : s.data.toList.length = s.size := by simp
  have HC := fun r W => hid (isAln_any r W)
  have HL := hid hlen
  clear hlen
  go_enter Tryd.func75, Tryd.ntmps75
  go_wp2
  go_loopw [5] (fun _ w' => ∃ pos : Nat, w' = w.iter s pos ∧ pos ≤ s.size ∧ Hid ((s.data.toList.take pos).all alnB = true)) (fun _ w' => s.size - w'.iterPos w.heap.size)
  case atStart => exact ⟨0, rfl, Nat.zero_le _, rfl⟩
  case round =>
    obtain ⟨pos, rfl, hle, HA⟩ := hrel
    by_cases hp : pos < s.size
    · have hnx : ∀ ty, (Instr.next (.pointer (some ⟨w.heap.size, 0, none⟩)) true ty).run Tryd.prog (w.iter s pos) = _ := fun ty => run_next_any w s pos ty hp
      obtain ⟨q1, q2, q3, q4⟩ := rune_step alike_aln s pos hp
      have hB := HC (Utf8.decode s pos).1 (w.iter s (pos + (Utf8.decode s pos).2))
      simp only [q3] at hB
      cases hd : alnB s[pos] with
      | true =>
        rw [hd] at hB
        have HA1 : Hid ((s.data.toList.take (pos + (Utf8.decode s pos).2)).all alnB = true) := by
          refine all_more HA.out (fun j hj a b => ?_)
          have hj' : j < s.size := by rw [← HL.out]; exact hj
          rw [list_at s j hj', q4 j hj' a b, hd]
        have HQ := hid q4
        have HQ3 := hid q3
        clear q3 q4 hd
        go_wp2_with (go_at_call 139; refine hB.out.mono ?_; rintro e w' ⟨rfl, rfl⟩)
        go_roundw
        case rel => exact ⟨_, rfl, q2, HA1.out⟩
        case measure => simp; omega
      | false =>
        rw [hd] at hB
        have HT : Hid (s.data.toList.takeWhile alnB = s.data.toList.take pos) := tw_take (by rw [HL.out]; omega) HA.out (fun h => by rw [list_at s pos hp]; exact hd)
        clear q3 q4 hd
        go_wp2_with (go_at_call 139; refine hB.out.mono ?_; rintro e w' ⟨rfl, rfl⟩)
        go_ret
        refine ⟨?_, below_iter _ _ _⟩
        rw [HT.out, Lib.extract_eq]
        simp
    · have hnx : ∀ ty, (Instr.next (.pointer (some ⟨w.heap.size, 0, none⟩)) true ty).run Tryd.prog (w.iter s pos) = _ := fun ty => run_next_end w s pos ty hp
      have HT : Hid (s.data.toList.takeWhile alnB = s.data.toList) := by
        have := tw_take (p := alnB) (l := s.data.toList) (k := pos) (by rw [HL.out]; omega) HA.out (fun h => absurd h (by rw [HL.out]; omega))
        show _ = _
        rw [this, List.take_of_length_le (by rw [HL.out]; omega)]
      go_wp2
      go_ret
      refine ⟨?_, below_iter _ _ _⟩
      rw [HT.out]
      show _ = Ending.returned (.string ⟨s.data.toList.toArray⟩)
      rw [Lib.mk_data]
      rfl

end Go.Proofs.YtdkboifpdodonaaDoor
/-
  The landed program's number, amount.
-/
namespace Go.Proofs.YtdkboifpdodonaaDoor
open Go.RowKit Go.Deep PureCnf
set_option maxRecDepth 100000

def numV (l : List UInt8) (most : Nat) : Int := if 0 ≤ numB l most then numB l most else 0
def numY (l : List UInt8) (most : Nat) : Bool := decide (0 ≤ numB l most)
theorem num_no {l : List UInt8} {most : Nat} (h : numB l most = -1) : numV l most = 0 ∧ numY l most = false := by
  unfold numV numY; rw [h]; simp
theorem num_yes {l : List UInt8} {most : Nat} {v : Nat} (h : numB l most = (v : Int)) : numV l most = v ∧ numY l most = true := by
  unfold numV numY; rw [h]; simp
theorem empty_size (s : ByteArray) (h : s.size = 0) : s = ⟨#[]⟩ := by
  apply ByteArray.ext
  exact Array.eq_empty_of_size_eq_zero h

theorem not_empty (s : ByteArray) (h : 0 < s.size) : s.toList.isEmpty = false := by
  rw [Lib.toList_data]
  cases hl : s.data.toList with
  | nil => have : s.data.toList.length = s.size := by simp
           rw [hl] at this; simp at this; omega
  | cons _ _ => rfl

set_option maxHeartbeats 2000000 in
theorem number33_any (s : ByteArray) (most : Nat) (w : World) (hs : s.size ≤ 1099511627776) (hm : most ≤ 1099511627776) :
    Calls Tryd.prog 100 #[.string s, .int .i64 (most : Int)] w fun e w' => e = .returned (.tuple #[.int .i64 (numV s.data.toList most), .bool (numY s.data.toList most)]) ∧ Below w.heap.size w w' := by
  have hlen : s.data.toList.length = s.size := by simp
  cases hp : plainB s.data.toList with
  | false =>
    have HN := hid (num_no (numB_plain (most := most) hp))
    by_cases h0 : s.size = 0
    · clear hp
      obtain rfl := empty_size s h0
      clear h0 hlen hs
      go_enter Tryd.func100, Tryd.ntmps100
      go_wp2
      go_ret2
      have h := HN.out
      exact ⟨by rw [show numV [] most = 0 from h.1, show numY [] most = false from h.2]; rfl, Below.refl _ _⟩
    · have h1 : 1 < s.size ∧ s.data.toList.head? = some 48 := by
        have hne : s.data.toList ≠ [] := fun e => h0 (by rw [← hlen, e]; rfl)
        simpa [plainB, hne] using hp
      obtain ⟨h2, h3⟩ := h1
      have h4 : (s[0].toNat : Int) = 48 := by
        rw [List.head?_eq_getElem?, List.getElem?_eq_getElem (by omega)] at h3
        have := Option.some.inj h3
        rw [list_at s 0 (by omega)] at this
        rw [this]; rfl
      have h5 := not_empty s (by omega)
      clear hp h0 h3
      go_enter Tryd.func100, Tryd.ntmps100
      go_wp2
      go_ret2
      rw [HN.out.1, HN.out.2]
      exact ⟨rfl, Below.refl _ _⟩
  | true =>
    have h0 : s.data.toList ≠ [] := fun e => by rw [e] at hp; simp [plainB] at hp
    have h1 : 0 < s.size := by
      rcases Nat.eq_zero_or_pos s.size with h | h
      · exact absurd (List.eq_nil_of_length_eq_zero (hlen.trans h)) h0
      · exact h
    have h2 : s.size = 1 ∨ (1 < s.size ∧ ((s[0].toNat : Int) == 48) = false) := by
      by_cases h : 1 < s.size
      · refine .inr ⟨h, ?_⟩
        have h3 : s.data.toList.head? ≠ some 48 := by simpa [plainB, h0, h] using hp
        rw [List.head?_eq_getElem?, List.getElem?_eq_getElem (by omega), list_at s 0 (by omega)] at h3
        have h4 : s[0].toNat ≠ 48 := fun e => h3 (by rw [← UInt8.toNat_inj.1 (show s[0].toNat = (48 : UInt8).toNat from e)])
        simp; omega
      · exact .inl (by omega)
    have h5 := not_empty s h1
    have HP := hid hp
    have HL := hid hlen
    have HC := fun r W => hid (isDigit_any r W)
    clear hp h0 hlen
    have h6 : (s.size = 1 ∧ (s[0].toNat : Int) = 48) ∨ (s.size = 1 ∧ ((s[0].toNat : Int) == 48) = false) ∨ (1 < s.size ∧ ((s[0].toNat : Int) == 48) = false) := by
      rcases h2 with h2 | h2
      · by_cases h : (s[0].toNat : Int) = 48
        · exact .inl ⟨h2, h⟩
        · exact .inr (.inl ⟨h2, by simpa using h⟩)
      · exact .inr (.inr h2)
    clear h2
    rcases h6 with ⟨h2, h6⟩ | ⟨h2, h6⟩ | ⟨h2, h6⟩
    all_goals
      go_enter Tryd.func100, Tryd.ntmps100
      go_wp2
      go_loopw [6] (fun n w' => ∃ k : Nat, w' = w.iter s k ∧ k ≤ s.size ∧ n = .int .i64 (valN (s.data.toList.take k) : Int) ∧ valN (s.data.toList.take k) ≤ most ∧ Hid ((s.data.toList.take k).all digB = true)) (fun _ w' => s.size - w'.iterPos w.heap.size)
      case atStart => exact ⟨0, rfl, Nat.zero_le _, rfl, Nat.zero_le _, rfl⟩
      case round =>
        obtain ⟨k, rfl, hk, rfl, hv, HA⟩ := hrel
        by_cases hlt : k < s.size
        · have hlt' : k < s.data.toList.length := by rw [HL.out]; exact hlt
          cases hd : digB s[k] with
          | false =>
            have hnx : ∀ ty, (Instr.next (.pointer (some ⟨w.heap.size, 0, none⟩)) true ty).run Tryd.prog (w.iter s k) = _ := fun ty => run_next_any w s k ty hlt
            obtain ⟨q1, q2, q3, q4⟩ := rune_step alike_dig s k hlt
            have hB := HC (Utf8.decode s k).1 (w.iter s (k + (Utf8.decode s k).2))
            rw [q3, hd] at hB
            have HN := hid (num_no (numB_off (most := most) hlt' hd))
            clear hd q3 q4
            go_wp2_with (go_at_call 134; refine hB.out.mono ?_; rintro e w' ⟨rfl, rfl⟩)
            go_ret2
            rw [HN.out.1, HN.out.2]
            exact ⟨rfl, below_iter _ _ _⟩
          | true =>
            have hr : 48 ≤ s[k].toNat ∧ s[k].toNat ≤ 57 := by simpa [digB] using hd
            have hnx : ∀ ty, (Instr.next (.pointer (some ⟨w.heap.size, 0, none⟩)) true ty).run Tryd.prog (w.iter s k) = _ := fun ty => run_next_ascii w s k ty hlt (by omega)
            have hB := HC s[k].toNat (w.iter s (k + 1))
            rw [digR_byte, hd] at hB
            have hv1 : Hid ((valN (s.data.toList.take (k + 1)) : Int) = 10 * (valN (s.data.toList.take k) : Int) + ((s[k].toNat : Int) - 48)) := by
              show _ = _
              rw [take_snoc _ k hlt', valN_snoc, list_at s k hlt]; omega
            have HA1 : Hid ((s.data.toList.take (k + 1)).all digB = true) := by
              show _ = _
              rw [take_snoc _ k hlt', List.all_append, HA.out, list_at s k hlt]
              simp [hd]
            clear hd
            obtain ⟨r1, r2⟩ := hr
            have r3 : (48 : Int) ≤ (s[k].toNat : Int) := by omega
            have r4 : (s[k].toNat : Int) ≤ 57 := by omega
            have r5 : (0 : Int) ≤ (valN (s.data.toList.take k) : Int) := by omega
            have r6 : (valN (s.data.toList.take k) : Int) ≤ 1099511627776 := by omega
            by_cases hgt : (most : Int) < 10 * (valN (s.data.toList.take k) : Int) + ((s[k].toNat : Int) - 48)
            · have HN := hid (num_no (numB_great (l := s.data.toList) (most := most) (k := k + 1) (by have := hv1.out; omega)))
              go_wp2_with (go_at_call 134; refine hB.out.mono ?_; rintro e w' ⟨rfl, rfl⟩)
              go_ret2
              rw [HN.out.1, HN.out.2]
              exact ⟨rfl, below_iter _ _ _⟩
            · go_wp2_with (go_at_call 134; refine hB.out.mono ?_; rintro e w' ⟨rfl, rfl⟩)
              go_roundw
              case rel => exact ⟨k + 1, rfl, hlt, by rw [hv1.out], by have := hv1.out; omega, HA1.out⟩
              case measure => simp; omega
        · have hnx : ∀ ty, (Instr.next (.pointer (some ⟨w.heap.size, 0, none⟩)) true ty).run Tryd.prog (w.iter s k) = _ := fun ty => run_next_end w s k ty hlt
          have HE : Hid (numV s.data.toList most = (valN (s.data.toList.take k) : Int) ∧ numY s.data.toList most = true) := by
            have e : s.data.toList.take k = s.data.toList := List.take_of_length_le (by rw [HL.out]; omega)
            have ha := HA.out
            rw [e] at ha hv ⊢
            exact num_yes (numB_end HP.out ha hv)
          go_wp2
          go_ret2
          rw [HE.out.1, HE.out.2]
          exact ⟨rfl, below_iter _ _ _⟩
end Go.Proofs.YtdkboifpdodonaaDoor
/-
  Trees of formulas: their list, their text by items, and what is read of it: plain mathematics.
-/
namespace PureForm
open PureCnf Go.Lib

structure Tr where
  nd : Nd
  ar : Fin 4
  kid : Fin ar.val → Tr

def Tr.lf (x : Nd) : Tr := ⟨x, ⟨0, by decide⟩, fun i => absurd i.isLt (Nat.not_lt_zero _)⟩
def Tr.un (x : Nd) (a : Tr) : Tr := ⟨x, ⟨1, by decide⟩, fun _ => a⟩
def Tr.bi (x : Nd) (a b : Tr) : Tr := ⟨x, ⟨2, by decide⟩, fun i => if i.val = 0 then a else b⟩
def Tr.te (x : Nd) (a b c : Tr) : Tr := ⟨x, ⟨3, by decide⟩, fun i => if i.val = 0 then a else if i.val = 1 then b else c⟩

theorem Tr.ind {motive : Tr → Prop} (lf : ∀ x, motive (.lf x)) (un : ∀ x a, motive a → motive (.un x a)) (bi : ∀ x a b, motive a → motive b → motive (.bi x a b))
    (te : ∀ x a b c, motive a → motive b → motive c → motive (.te x a b c)) (t : Tr) : motive t := by
  induction t with
  | mk x n kid ih =>
    obtain ⟨n, hn⟩ := n
    match n, hn, kid, ih with
    | 0, _, kid, ih =>
      have e : kid = fun i => absurd i.isLt (Nat.not_lt_zero _) := funext fun i => absurd i.isLt (Nat.not_lt_zero _)
      rw [e]
      exact lf x
    | 1, _, kid, ih =>
      have e : kid = fun _ => kid ⟨0, by simp⟩ := funext fun i => congrArg kid (Fin.ext (by have := i.isLt; simp only at this; show i.val = 0; omega))
      rw [e]
      exact un x _ (ih _)
    | 2, _, kid, ih =>
      have e : kid = fun i => if i.val = 0 then kid ⟨0, by simp⟩ else kid ⟨1, by simp⟩ := funext fun i => by
        have hi := i.isLt
        simp only at hi
        split
        · next h => exact congrArg kid (Fin.ext h)
        · next h => exact congrArg kid (Fin.ext (by show i.val = 1; omega))
      rw [e]
      exact bi x _ _ (ih _) (ih _)
    | 3, _, kid, ih =>
      have e : kid = fun i => if i.val = 0 then kid ⟨0, by simp⟩ else if i.val = 1 then kid ⟨1, by simp⟩ else kid ⟨2, by simp⟩ := funext fun i => by
        have hi := i.isLt
        simp only at hi
        split
        · next h => exact congrArg kid (Fin.ext h)
        · split
          · next h => exact congrArg kid (Fin.ext h)
          · next h0 h1 => exact congrArg kid (Fin.ext (by show i.val = 2; omega))
      rw [e]
      exact te x _ _ _ (ih _) (ih _) (ih _)
    | n + 4, hn, _, _ => omega
theorem Tr.cas {motive : Tr → Prop} (lf : ∀ x, motive (.lf x)) (un : ∀ x a, motive (.un x a)) (bi : ∀ x a b, motive (.bi x a b))
    (te : ∀ x a b c, motive (.te x a b c)) (t : Tr) : motive t := Tr.ind lf (fun x a _ => un x a) (fun x a b _ _ => bi x a b) (fun x a b c _ _ _ => te x a b c) t

/-- a function by recursion over a tree, told kind by kind. -/
def Tr.fold {α : Type} (lf : Nd → α) (un : Nd → Tr → α → α) (bi : Nd → Tr → Tr → α → α → α) (te : Nd → Tr → Tr → Tr → α → α → α → α) : Tr → α
  | ⟨x, ⟨0, _⟩, _⟩ => lf x
  | ⟨x, ⟨1, _⟩, k⟩ => un x (k ⟨0, by simp⟩) (Tr.fold lf un bi te (k ⟨0, by simp⟩))
  | ⟨x, ⟨2, _⟩, k⟩ => bi x (k ⟨0, by simp⟩) (k ⟨1, by simp⟩) (Tr.fold lf un bi te (k ⟨0, by simp⟩)) (Tr.fold lf un bi te (k ⟨1, by simp⟩))
  | ⟨x, ⟨_ + 3, _⟩, k⟩ => te x (k ⟨0, by simp⟩) (k ⟨1, by simp⟩) (k ⟨2, by simp⟩) (Tr.fold lf un bi te (k ⟨0, by simp⟩)) (Tr.fold lf un bi te (k ⟨1, by simp⟩)) (Tr.fold lf un bi te (k ⟨2, by simp⟩))
section
variable {α : Type} {lf : Nd → α} {un : Nd → Tr → α → α} {bi : Nd → Tr → Tr → α → α → α} {te : Nd → Tr → Tr → Tr → α → α → α → α}
theorem Tr.fold_lf (x : Nd) : Tr.fold lf un bi te (.lf x) = lf x := rfl
theorem Tr.fold_un (x : Nd) (a : Tr) : Tr.fold lf un bi te (.un x a) = un x a (Tr.fold lf un bi te a) := rfl
theorem Tr.fold_bi (x : Nd) (a b : Tr) : Tr.fold lf un bi te (.bi x a b) = bi x a b (Tr.fold lf un bi te a) (Tr.fold lf un bi te b) := rfl
theorem Tr.fold_te (x : Nd) (a b c : Tr) : Tr.fold lf un bi te (.te x a b c) = te x a b c (Tr.fold lf un bi te a) (Tr.fold lf un bi te b) (Tr.fold lf un bi te c) := rfl
end
def Tr.root (t : Tr) : Nd := t.nd
theorem Tr.root_lf (x : Nd) : (Tr.lf x).root = x := rfl
theorem Tr.root_un (x : Nd) (a : Tr) : (Tr.un x a).root = x := rfl
theorem Tr.root_bi (x : Nd) (a b : Tr) : (Tr.bi x a b).root = x := rfl
theorem Tr.root_te (x : Nd) (a b c : Tr) : (Tr.te x a b c).root = x := rfl
def Tr.post : Tr → List Nd := Tr.fold (fun x => [x]) (fun x _ a => a ++ [x]) (fun x _ _ a b => a ++ b ++ [x]) (fun x _ _ _ a b c => a ++ b ++ c ++ [x])
theorem Tr.post_lf (x : Nd) : (Tr.lf x).post = [x] := rfl
theorem Tr.post_un (x : Nd) (a : Tr) : (Tr.un x a).post = a.post ++ [x] := rfl
theorem Tr.post_bi (x : Nd) (a b : Tr) : (Tr.bi x a b).post = a.post ++ b.post ++ [x] := rfl
theorem Tr.post_te (x : Nd) (a b c : Tr) : (Tr.te x a b c).post = a.post ++ b.post ++ c.post ++ [x] := rfl
def isQ (o : Int) : Bool := decide (o = 4 ∨ o = 5)
def two (o : Int) : Bool := decide (6 ≤ o ∧ o ≤ 10)
def Tr.good : Tr → Prop := Tr.fold (fun x => (x.1 = 1 ∧ (x.2 = 0 ∨ x.2 = 1)) ∨ (x.1 = 2 ∧ 0 ≤ x.2 ∧ x.2 < 65536)) (fun x _ a => ((x.1 = 3 ∧ x.2 = 0) ∨ (isQ x.1 = true ∧ 0 ≤ x.2 ∧ x.2 < 65536)) ∧ a) (fun x _ _ a b => (two x.1 = true ∧ x.2 = 0) ∧ a ∧ b) (fun x _ _ _ a b c => (x.1 = 11 ∧ x.2 = 0) ∧ a ∧ b ∧ c)






/-! ### what waits behind a tree's tokens -/



end PureForm
/-
  The landed program's trees: which kind of node a tree is.
-/
namespace Go.Proofs.YtdkboifpdodonaaDoor
open Go.RowKit Go.Deep PureCnf PureForm
set_option maxRecDepth 100000

theorem ta120_hit (v : Value) (x : TypeId) (w : World) : (Instr.typeAssert (.iface 120 v) x 120 true).run Tryd.prog w = .ok (.tuple #[v, .bool true]) w := by
  simp [Instr.typeAssert, run_underlying Tryd.underlying120]
theorem ta120_miss (t : TypeId) (h : t ≠ 120) (v : Value) (x : TypeId) (w : World) : (Instr.typeAssert (.iface t v) x 120 true).run Tryd.prog w = .ok (.tuple #[.agg #[.nilIface], .bool false]) w := by
  simp [Instr.typeAssert, run_underlying Tryd.underlying120, h, Tryd.zeroValue120]
theorem ta122_hit (v : Value) (x : TypeId) (w : World) : (Instr.typeAssert (.iface 122 v) x 122 true).run Tryd.prog w = .ok (.tuple #[v, .bool true]) w := by
  simp [Instr.typeAssert, run_underlying Tryd.underlying122]
theorem ta122_miss (t : TypeId) (h : t ≠ 122) (v : Value) (x : TypeId) (w : World) : (Instr.typeAssert (.iface t v) x 122 true).run Tryd.prog w = .ok (.tuple #[.agg #[.int .i64 0, .int .i64 0, .nilIface], .bool false]) w := by
  simp [Instr.typeAssert, run_underlying Tryd.underlying122, h, Tryd.zeroValue122]
theorem ta124_hit (v : Value) (x : TypeId) (w : World) : (Instr.typeAssert (.iface 124 v) x 124 true).run Tryd.prog w = .ok (.tuple #[v, .bool true]) w := by
  simp [Instr.typeAssert, run_underlying Tryd.underlying124]
theorem ta124_miss (t : TypeId) (h : t ≠ 124) (v : Value) (x : TypeId) (w : World) : (Instr.typeAssert (.iface t v) x 124 true).run Tryd.prog w = .ok (.tuple #[.agg #[.int .i64 0, .nilIface, .nilIface], .bool false]) w := by
  simp [Instr.typeAssert, run_underlying Tryd.underlying124, h, Tryd.zeroValue124]
theorem ta126_hit (v : Value) (x : TypeId) (w : World) : (Instr.typeAssert (.iface 126 v) x 126 true).run Tryd.prog w = .ok (.tuple #[v, .bool true]) w := by
  simp [Instr.typeAssert, run_underlying Tryd.underlying126]
theorem ta126_miss (t : TypeId) (h : t ≠ 126) (v : Value) (x : TypeId) (w : World) : (Instr.typeAssert (.iface t v) x 126 true).run Tryd.prog w = .ok (.tuple #[.agg #[.nilIface, .nilIface, .nilIface], .bool false]) w := by
  simp [Instr.typeAssert, run_underlying Tryd.underlying126, h, Tryd.zeroValue126]
end Go.Proofs.YtdkboifpdodonaaDoor
/-
  The landed program's trees as values; binding, sides, brackets.
-/
namespace Go.Proofs.YtdkboifpdodonaaDoor
open Go.RowKit Go.Deep PureCnf PureForm
set_option maxRecDepth 100000

/-- a tree, as the landed program holds it. -/
def tv : Tr → Value := Tr.fold (fun x => if x.1 = 1 then .iface 147 (.agg #[.int .i64 x.2]) else .iface 149 (.agg #[.int .i64 x.2]))
  (fun x _ a => if x.1 = 3 then .iface 120 (.agg #[a]) else .iface 122 (.agg #[.int .i64 x.1, .int .i64 x.2, a]))
  (fun x _ _ a b => .iface 124 (.agg #[.int .i64 x.1, a, b])) (fun _ _ _ _ a b c => .iface 126 (.agg #[a, b, c]))
theorem tv_lf (x : Nd) : tv (.lf x) = if x.1 = 1 then .iface 147 (.agg #[.int .i64 x.2]) else .iface 149 (.agg #[.int .i64 x.2]) := rfl
theorem tv_un (x : Nd) (a : Tr) : tv (.un x a) = if x.1 = 3 then .iface 120 (.agg #[tv a]) else .iface 122 (.agg #[.int .i64 x.1, .int .i64 x.2, tv a]) := rfl
theorem tv_bi (x : Nd) (a b : Tr) : tv (.bi x a b) = .iface 124 (.agg #[.int .i64 x.1, tv a, tv b]) := rfl
theorem tv_te (x : Nd) (a b c : Tr) : tv (.te x a b c) = .iface 126 (.agg #[tv a, tv b, tv c]) := rfl



theorem below_box (w : World) (o : Obj) : Below w.heap.size w (w.alloc o) := (Below.refl _ _).alloc (Nat.le_refl _) _

theorem tv_form (t : Tr) : ∃ k u, tv t = .iface k u := by
  cases t using Tr.cas with
  | lf x => (first | rw [tv_lf] | rw [tv_un]); split <;> exact ⟨_, _, rfl⟩
  | un x a => (first | rw [tv_lf] | rw [tv_un]); split <;> exact ⟨_, _, rfl⟩
  | bi x a b => exact ⟨_, _, rfl⟩
  | te x a b c => exact ⟨_, _, rfl⟩

end Go.Proofs.YtdkboifpdodonaaDoor
